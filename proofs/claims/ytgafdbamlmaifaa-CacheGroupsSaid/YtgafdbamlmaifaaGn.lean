/-
  Two groups with the same keys in one cache: what is kept of them.
-/
import Derived.Test.YtgafdbamlmaifaaGm
namespace Go.Proofs.Ytgafdbamlmaifaa.G
open Go.RowKit
set_option linter.unusedVariables false
set_option maxRecDepth 20000

/-- the values of a key in the two groups -/
def va (k : Int) : Value := .int .u64 (IntKind.u64.wrap (k + 1))
def vb (k : Int) : Value := .int .u64 (IntKind.u64.wrap (k + 2))
def pr (a b k : Int) : List Pl := [⟨a, k⟩, ⟨b, k⟩]
/-- what is kept behind the keys zs -/
structure GI (a b : Int) (zs : List Int) (ks : List Int) (os : List Pl) (M : Pl → Option Value) : Prop where
  os : os = ks.flatMap (pr a b)
  nd : ks.Nodup
  mem : ∀ k, k ∈ ks ↔ k ∈ zs
  ma : ∀ k ∈ ks, M ⟨a, k⟩ = some (va k)
  mb : ∀ k ∈ ks, M ⟨b, k⟩ = some (vb k)
  len : ks.length ≤ zs.length
theorem GI.nil (a b : Int) (M : Pl → Option Value) : GI a b [] [] [] M := ⟨rfl, List.nodup_nil, fun k => Iff.rfl, (fun k hk => by cases hk), (fun k hk => by cases hk), Nat.le_refl _⟩
theorem len_pairs (a b : Int) (ks : List Int) : (ks.flatMap (pr a b)).length = 2 * ks.length := by
  induction ks with
  | nil => rfl
  | cons k r ih => simp only [List.flatMap_cons, List.length_append, ih, List.length_cons]; simp [pr]; omega
theorem GI.length {a b : Int} {zs ks : List Int} {os : List Pl} {M : Pl → Option Value} (h : GI a b zs ks os M) : os.length = 2 * ks.length := by rw [h.os]; exact len_pairs a b ks
theorem mem_pairs {a b : Int} {ks : List Int} {p : Pl} : p ∈ ks.flatMap (pr a b) ↔ (p.g = a ∨ p.g = b) ∧ p.k ∈ ks := by
  rw [List.mem_flatMap]
  constructor
  · rintro ⟨k, hk, hp⟩
    simp [pr] at hp
    rcases hp with rfl | rfl
    · exact ⟨.inl rfl, hk⟩
    · exact ⟨.inr rfl, hk⟩
  · rintro ⟨h | h, hk⟩
    · exact ⟨p.k, hk, by simp [pr, ← h]⟩
    · exact ⟨p.k, hk, by simp [pr, ← h]⟩
theorem upd_at (M : Pl → Option Value) (p : Pl) (x : Option Value) : upd M p x p = x := by simp [upd]
theorem upd_ne (M : Pl → Option Value) {p q : Pl} (x : Option Value) (h : q ≠ p) : upd M p x q = M q := by simp [upd, h]
/-- one more key: the first Put, then the second -/
theorem GI.again {a b : Int} (hab : a ≠ b) {zs ks : List Int} {os : List Pl} {M : Pl → Option Value} (h : GI a b zs ks os M) {k : Int} (hk : k ∈ ks) : GI a b (zs ++ [k]) ks os (upd (upd M ⟨a, k⟩ (some (va k))) ⟨b, k⟩ (some (vb k))) := by
  refine ⟨h.os, h.nd, fun q => ?_, fun q hq => ?_, fun q hq => ?_, by have := h.len; simp; omega⟩
  · rw [h.mem]
    constructor
    · intro h'; simp [h']
    · intro h'
      rcases List.mem_append.1 h' with h' | h'
      · exact h'
      · have : q = k := by simpa using h'
        rw [this]; exact (h.mem k).1 hk
  · rw [upd_ne _ _ (fun e => hab (by simpa using congrArg Pl.g e))]
    by_cases e : q = k
    · subst e; exact upd_at _ _ _
    · rw [upd_ne _ _ (fun e2 => e (by simpa using congrArg Pl.k e2))]
      exact h.ma q hq
  · by_cases e : q = k
    · subst e; exact upd_at _ _ _
    · rw [upd_ne _ _ (fun e2 => e (by simpa using congrArg Pl.k e2)), upd_ne _ _ (fun e2 => e (by simpa using congrArg Pl.k e2))]
      exact h.mb q hq
theorem GI.more {a b : Int} (hab : a ≠ b) {zs ks : List Int} {os : List Pl} {M : Pl → Option Value} (h : GI a b zs ks os M) {k : Int} (hk : k ∉ ks) : GI a b (zs ++ [k]) (ks ++ [k]) (os ++ [⟨a, k⟩] ++ [⟨b, k⟩]) (upd (upd M ⟨a, k⟩ (some (va k))) ⟨b, k⟩ (some (vb k))) := by
  refine ⟨by rw [h.os, List.flatMap_append]; simp [pr], ?_, fun q => by simp [h.mem], fun q hq => ?_, fun q hq => ?_, by have := h.len; simp; omega⟩
  · rw [List.nodup_append]
    refine ⟨h.nd, by simp, fun x hx y hy => ?_⟩
    obtain rfl : y = k := by simpa using hy
    exact fun e => hk (e ▸ hx)
  · rw [upd_ne _ _ (fun e => hab (by simpa using congrArg Pl.g e))]
    by_cases e : q = k
    · subst e; exact upd_at _ _ _
    · rw [upd_ne _ _ (fun e2 => e (by simpa using congrArg Pl.k e2))]
      exact h.ma q (by simpa [e] using hq)
  · by_cases e : q = k
    · subst e; exact upd_at _ _ _
    · rw [upd_ne _ _ (fun e2 => e (by simpa using congrArg Pl.k e2)), upd_ne _ _ (fun e2 => e (by simpa using congrArg Pl.k e2))]
      exact h.mb q (by simpa [e] using hq)
theorem filter_pairs {a b : Int} (hab : a ≠ b) (ks : List Int) : (ks.flatMap (pr a b)).filter (fun q => !decide (q.g = a)) = ks.map (fun k => ⟨b, k⟩) := by
  induction ks with
  | nil => rfl
  | cons k r ih =>
    have hba : ¬ b = a := fun e => hab e.symm
    simp [pr, ih, hba]
theorem filter_b {a b : Int} (hab : a ≠ b) (ks : List Int) : (ks.map (fun k => (⟨b, k⟩ : Pl))).filter (fun q => !decide (q.g = a)) = ks.map (fun k => ⟨b, k⟩) := by
  rw [List.filter_eq_self]
  intro q hq
  obtain ⟨k, _, rfl⟩ := List.mem_map.1 hq
  simp
  exact fun e => hab e.symm

/-- Put, whatever was -/
theorem gput (B b room m : Nat) (v : Value) (os : List Pl) (M : Pl → Option Value) (p : Pl) (x : Value) (hp : p.W) (w : World) (h : CC B w b room m v os M) (hB : B ≤ w.heap.size) (hl : os.length < room) :
    Calls Try.prog 25 #[.pointer (some ⟨b, 0, none⟩), .int .i64 p.g, .int .u64 p.k, x] w fun e w' => e = .returned (.int .i64 0) ∧ ∃ v', CC B w' b room m v' (if p ∈ os then os else os ++ [p]) (upd M p (some x)) ∧ Turn w w' b m v v' := by
  by_cases hin : p ∈ os
  · rw [if_pos hin]
    exact put_was B b room m v os M p x hp w h hin
  · rw [if_neg hin]
    have := put_new B b room m v os M p x hp w h hB hin
    unfold evO evM at this
    rw [if_pos hl, if_pos hl] at this
    exact this
/-- two puts of a key -/
theorem GI.step {a b : Int} (hab : a ≠ b) {zs ks : List Int} {os : List Pl} {M : Pl → Option Value} (h : GI a b zs ks os M) (k : Int) :
    ∃ ks', GI a b (zs ++ [k]) ks' (if (⟨b, k⟩ : Pl) ∈ (if (⟨a, k⟩ : Pl) ∈ os then os else os ++ [⟨a, k⟩]) then (if (⟨a, k⟩ : Pl) ∈ os then os else os ++ [⟨a, k⟩]) else (if (⟨a, k⟩ : Pl) ∈ os then os else os ++ [⟨a, k⟩]) ++ [⟨b, k⟩]) (upd (upd M ⟨a, k⟩ (some (va k))) ⟨b, k⟩ (some (vb k))) := by
  have h1 : (⟨a, k⟩ : Pl) ∈ os ↔ k ∈ ks := by rw [h.os, mem_pairs]; simp
  have h2 : (⟨b, k⟩ : Pl) ∈ os ↔ k ∈ ks := by rw [h.os, mem_pairs]; simp
  by_cases hk : k ∈ ks
  · rw [if_pos (h1.2 hk), if_pos (h2.2 hk)]
    exact ⟨ks, h.again hab hk⟩
  · have hn : (⟨b, k⟩ : Pl) ∉ os ++ [⟨a, k⟩] := by
      intro hm
      rcases List.mem_append.1 hm with hm | hm
      · exact hk (h2.1 hm)
      · simp at hm; exact hab hm.symm
    rw [if_neg (fun e => hk (h1.1 e)), if_neg hn]
    exact ⟨_, h.more hab hk⟩
end Go.Proofs.Ytgafdbamlmaifaa.G
