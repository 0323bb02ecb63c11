/-
  Numbers appended to nothing and written; both wires between two calls.
-/
import Derived.Test.YtnjkbpjkaignbaaPa
namespace Go.Proofs.Ytnjkbpjkaignbaa
open Go.RowKit
set_option linter.unusedVariables false
set_option maxRecDepth 20000

/-- append of a slice of numbers, nil or not, to nothing -/
theorem wpList_append_in {w : World} {ops : Array Oper} {rest : List Oper} {o : Oper} {a : Act} {Q : Exit → Act → World → Prop} (hgd : o.guard = none) (s x : Operand)
    (ho : o.op = .call { callee := .builtin .append, args := #[s, x], argTypes := #[22, 22] }) (base : Nat)
    (v : Value) (hs : a.eval s = v) (hown : w.ownsRow base 3 1 v 0 [])
    (ad : Option Addr) (m c : Nat) (zs : List Int) (hl : zs.length = m) (hx : a.eval x = .slice ad m c) (hnil : ad = none → m = 0 ∧ c = 0) (hsl : Nu w ad m zs)
    (hbytes : m * 8 ≤ 140737488355328) (hbase : base ≤ w.heap.size)
    (h : ∀ v' w', w'.ownsRow base 3 1 v' m (zs.map (Value.int .i64)) → w.grownBy w' v.ownBlock → wpList Try.prog ops Q rest (a.put o.dst v') w') : wpList Try.prog ops Q (o :: rest) a w := by
  obtain ⟨i0, hi, hz0, hz1, hz2⟩ := info3
  cases ad with
  | none =>
    obtain ⟨rfl, rfl⟩ := hnil rfl
    have hz : zs = [] := List.length_eq_zero_iff.1 hl
    subst hz
    refine wpList_append_own_none hgd s x 22 ho base 3 i0 1 Try.underlying22 hi v 0 _ hs hown hx ?_
    exact h v w (by simpa using hown) (grown_refl _ _)
  | some ad =>
    refine wpList_append_own w hgd s x 22 ho base 3 i0 (.int .i64 0) 1 8 Try.underlying22 hi hz0 hz1 hz2 rfl (by decide) v 0 _ hs hown ad m c (zs.map (Value.int .i64)) hx (by simpa using hl) ?_ ?_ (by unfold maxLen; omega) (by omega) hbase ?_
    · intro j u hj
      have hjl : j < zs.length := by
        rcases Nat.lt_or_ge j zs.length with h' | h'
        · exact h'
        · simp [List.getElem?_eq_none (show (zs.map (Value.int .i64)).length ≤ j by simpa using h')] at hj
      rcases hsl with h0 | ⟨b, off, hb, hlt, hc⟩
      · omega
      · cases hb
        rw [add_at, hc j (by omega)]
        simp [List.getElem?_eq_getElem hjl] at hj
        subst hj
        simp [List.getD, List.getElem?_eq_getElem hjl]
    · intro u hu
      obtain ⟨z, _, rfl⟩ := List.mem_map.1 hu
      rfl
    · intro v' w' h1 h2 _
      exact h v' w' (by simpa using h1) h2
/-- a row of numbers -/
def IR (w : World) (g n : Nat) : Prop := ∃ cur : Array Value, w.heap[g]? = some (.cells cur 3 (0, 0)) ∧ ∀ i, i < n → ∃ z : Int, cur[i]? = some (.int .i64 z)
theorem IR.at {y : World} {X n : Nat} (hf : IR y X n) (i : Nat) (hi : i < n) : (∃ z : Int, y.cell? ⟨X, i, none⟩ = some (.int .i64 z)) ∧ y.frozen? ⟨X, i, none⟩ = false ∧ X < y.heap.size := by
  obtain ⟨cur, h1, h2⟩ := hf
  obtain ⟨z, hz⟩ := h2 i hi
  exact ⟨⟨z, (cell_at h1 i).trans hz⟩, by simp [World.frozen?, h1], lt_of_heap h1⟩
theorem IR.keep {y y' : World} {X n : Nat} (hf : IR y X n) (hk : y'.heap[X]? = y.heap[X]?) : IR y' X n := by
  obtain ⟨cur, h1, h2⟩ := hf
  exact ⟨cur, hk.trans h1, h2⟩
theorem IR.lt {y : World} {X n : Nat} (hf : IR y X n) : X < y.heap.size := by
  obtain ⟨cur, h1, _⟩ := hf
  exact lt_of_heap h1
theorem IR.set {y : World} {X n : Nat} (hf : IR y X n) (i : Nat) (hi : i < n) (z : Int) : IR (y.setCell ⟨X, i, none⟩ (.int .i64 z)) X n ∧ Trn (fun k => k = X) y (y.setCell ⟨X, i, none⟩ (.int .i64 z)) := by
  obtain ⟨cur, h1, h2⟩ := hf
  have hh := setRow_heap y X cur (cur.setIfInBounds i (.int .i64 z)) 3 _ h1
  rw [← setCell_eq_setRow y X i cur 3 (0, 0) (.int .i64 z) h1] at hh
  refine ⟨⟨_, hh, fun k hk => ?_⟩, trn_setCell (fun k => k = X) h1 rfl i (.int .i64 z)⟩
  obtain ⟨z0, hz0⟩ := h2 k hk
  rw [Array.getElem?_setIfInBounds]
  by_cases e : i = k
  · subst e
    have hl : i < cur.size := by
      rcases Nat.lt_or_ge i cur.size with h | h
      · exact h
      · rw [Array.getElem?_eq_none h] at hz0; cases hz0
    exact ⟨z, by simp [hl]⟩
  · exact ⟨z0, by simp [e, hz0]⟩
/-- what append has made of numbers -/
theorem own_in {w1 : World} {base n : Nat} {v1 : Value} {zs : List Int} (hown : w1.ownsRow base 3 1 v1 n (zs.map (Value.int .i64))) (hl : zs.length = n) :
    ∃ a1 c1, v1 = .slice a1 n c1 ∧ Nu w1 a1 n zs ∧ (n = 0 ∨ ∃ X, a1 = some ⟨X, 0, none⟩ ∧ base ≤ X ∧ IR w1 X n) := by
  rcases hown.2 with ⟨rfl, h0⟩ | ⟨g, cap, cur, rfl, hbg, hg, hnc, hcm, hcs, htake⟩
  · subst h0
    exact ⟨none, 0, rfl, .inl rfl, .inl rfl⟩
  · have hk : ∀ i, i < n → cur[i]? = some (.int .i64 (zs.getD i 0)) := fun i hi => by
      have e : (cur.toList.take (n * 1))[i]? = (zs.map (Value.int .i64))[i]? := by rw [htake]
      rw [List.getElem?_take_of_lt (by omega)] at e
      rw [← Array.getElem?_toList, e]
      simp [List.getElem?_eq_getElem (show i < zs.length by omega)]
    exact ⟨_, cap, rfl, .inr ⟨g, 0, rfl, lt_of_heap hg, fun i hi => by rw [cell_at hg, Nat.zero_add]; exact hk i hi⟩, .inr ⟨g, rfl, hbg, cur, hg, fun i hi => ⟨_, hk i hi⟩⟩⟩
theorem RZ.low {B : Nat} {w w' : World} {r g d n gc : Nat} {Gr : Nat → Int} {A : Nat → List (Int × List Int)} (h : RZ B w r g d n gc Gr A) {S : Nat → Prop} (ht : Trn S w w') (hS : ∀ k, S k → k < B) : RZ B w' r g d n gc Gr A := by
  obtain ⟨V, h⟩ := h
  refine ⟨V, h.keep fun k hk hs => ht.block k hk fun hk' => ?_⟩
  have := hS k hk'
  rcases hs with rfl | hs
  · have := h.lo.1; omega
  · have := h.rsB k hs; omega
/-- both wires between two calls -/
structure PZ (w y : World) (B2 l b : Nat) (C : Nat → Nat) (r g d n gc : Nat) (G : Nat → Int) (S : Nat → List (Int × List Int)) : Prop where
  wx : WX w.heap.size y l b n C G S (fun _ => False)
  rz : RZ B2 y r g d n gc G S
  bel : Below w.heap.size w y
  b2 : w.heap.size ≤ B2
section
variable {w y y' : World} {B2 l b : Nat} {C : Nat → Nat} {r g d n gc A : Nat} {x : Ac} {ba : Option Addr} {G : Nat → Int} {S : Nat → List (Int × List Int)} {N : Nat → Prop}
theorem PX.z (h : PX w y B2 l b C r g d n gc A x ba G S G S N) : PZ w y B2 l b C r g d n gc G S := ⟨h.wx.less fun _ => False.elim, h.rz, h.bel, h.b2⟩
theorem PZ.below (h : PZ w y B2 l b C r g d n gc G S) (hb : Below y.heap.size y y') : PZ w y' B2 l b C r g d n gc G S := ⟨h.wx.below hb, h.rz.below hb, h.bel.trans (hb.mono h.bel.size), h.b2⟩
theorem PZ.inw (h : PZ w y B2 l b C r g d n gc G S) {X m : Nat} (hf : IR y X m) (h1 : w.heap.size ≤ X) (h2 : X < B2) (ht : Trn (fun k => k = X) y y') : PZ w y' B2 l b C r g d n gc G S := by
  obtain ⟨cur, hc, _⟩ := hf
  exact ⟨h.wx.other ht fun k hk => ⟨cur, 3, hk ▸ hc, by decide, by decide, by decide⟩, h.rz.low ht fun k hk => hk ▸ h2, h.bel.trans (ht.below (fun k hk => hk ▸ h1) h.bel.size), h.b2⟩
theorem PZ.open (h : PZ w y B2 l b C r g d n gc G S) (hb : Below y.heap.size y y') (hact : y'.heap[A]? = some (.cells x.cs.toArray 34 (0, 0))) (hf : x.len = 0 ∨ ∃ X, ba = some ⟨X, 0, none⟩ ∧ y.heap.size ≤ X ∧ FL y' X x.len) : ∃ N, PX w y' B2 l b C r g d n gc A x ba G S G S N := by
  have hs := h.bel.size
  rcases hf with h0 | ⟨X, e, h1, hF⟩
  · exact ⟨fun _ => False, h.wx.below hb, h.rz.below hb, h.bel.trans (hb.mono hs), h.b2, hact, .inl h0⟩
  · exact ⟨_, h.wx.fresh hb h1 hF.lt, h.rz.below hb, h.bel.trans (hb.mono hs), h.b2, hact, .inr ⟨X, e, by omega, hF, .inr rfl⟩⟩
end
end Go.Proofs.Ytnjkbpjkaignbaa
