/-
  A lock by its two numbers.
-/
import Derived.Test.YtioanbdmkiphfaaDoorLn
namespace Go.Proofs.YtioanbdmkiphfaaDoor
open Go.RowKit
set_option linter.unusedVariables false
set_option maxRecDepth 20000

theorem leFrom_congr (xs ys : List Int) : ∀ (m k l : Nat), (∀ i, i < m → xs.getD (k + i) 0 = ys.getD (l + i) 0) → leFrom xs k m = leFrom ys l m
  | 0, _, _, _ => rfl
  | m + 1, k, l, h => by
    rw [leFrom, leFrom, leFrom_congr xs ys m (k + 1) (l + 1) (fun i hi => by have := h (i + 1) (by omega); rwa [show k + (i + 1) = k + 1 + i by omega, show l + (i + 1) = l + 1 + i by omega] at this)]
    have := h 0 (by omega)
    simp only [Nat.add_zero] at this
    rw [this]
theorem leFrom_zero (xs : List Int) : ∀ (m k : Nat), (∀ i, i < m → xs.getD (k + i) 0 = 0) → leFrom xs k m = 0
  | 0, _, _ => rfl
  | m + 1, k, h => by
    rw [leFrom, leFrom_zero xs m (k + 1) (fun i hi => by have := h (i + 1) (by omega); rwa [show k + (i + 1) = k + 1 + i by omega] at this)]
    have := h 0 (by omega)
    simp only [Nat.add_zero] at this
    rw [this]
    rfl
/-- a number that was stored is what stands there -/
theorem load_same (zs : List Int) (t v : Int) (ht : 0 ≤ t) (h : numE zs.length t 8 = 0) (hv : U v) : loadV (storeV zs t 8 v) t 8 = v := by
  obtain ⟨k1, k2, k3⟩ := numE_zero h
  have hl : (storeV zs t 8 v).length = zs.length := storeV_len zs t 8 v ht
  unfold loadV
  rw [hl, if_pos h]
  unfold storeV
  rw [if_pos h]
  have hb : (bytesOf v (8 : Int).toNat).length = 8 := bytesOf_len v 8
  have e : leFrom (splice zs t.toNat (bytesOf v (8 : Int).toNat)) t.toNat (8 : Int).toNat = leFrom (bytesOf v 8) 0 8 := by
    refine leFrom_congr _ _ 8 _ _ (fun i hi => ?_)
    rw [splice_getD _ _ _ _ (by rw [hb]; omega), if_pos (by rw [hb]; omega)]
    congr 1
    omega
  rw [e, le_bytes v 8 8 (by omega)]
  obtain ⟨h0, h1⟩ := hv
  unfold extW
  rw [if_neg (by omega)]
  omega
/-- a store elsewhere leaves it -/
theorem load_off (zs : List Int) (t t' v : Int) (ht : 0 ≤ t) (ht' : 0 ≤ t') (hd : t + 8 ≤ t' ∨ t' + 8 ≤ t) : loadV (storeV zs t 8 v) t' 8 = loadV zs t' 8 := by
  unfold loadV
  rw [storeV_len zs t 8 v ht]
  unfold storeV
  by_cases h : numE zs.length t 8 = 0
  · rw [if_pos h]
    obtain ⟨k1, k2, k3⟩ := numE_zero h
    have hb : (bytesOf v (8 : Int).toNat).length = 8 := bytesOf_len v 8
    split
    · congr 1
      refine leFrom_congr _ _ _ _ _ (fun i hi => ?_)
      rw [splice_getD _ _ _ _ (by rw [hb]; omega), if_neg (by rw [hb]; omega)]
    · rfl
  · rw [if_neg h]
theorem zeros_getD (n i : Nat) : (List.replicate n (0 : Int)).getD i 0 = 0 := by
  by_cases h : i < n <;> simp [List.getD, h]
/-- zeros stay zeros -/
theorem splice_zeros (m o : Nat) (h : o + 16 ≤ m) : splice (List.replicate m (0 : Int)) o (List.replicate 16 0) = List.replicate m 0 := by
  apply eq_of_getD
  · rw [length_splice _ _ _ (by simpa using h)]
  · intro i hi
    rw [splice_getD _ _ _ _ (by simpa using h), zeros_getD, zeros_getD]
    split <;> rfl
theorem load_zeros (m : Nat) (t : Int) : loadV (List.replicate m 0) t 8 = 0 := by
  unfold loadV
  split
  · rw [leFrom_zero _ _ _ (fun i hi => zeros_getD _ _)]
    rfl
  · rfl
theorem inc_small {x : Int} (h0 : 0 ≤ x) (h1 : x < 9223372036854775808) : inc x = x + 1 := by unfold inc; rw [IntKind.wrap_u64]; omega

/-- a step by the numbers alone -/
def nS (B s x : Int) : Int := if s = 1 then 2 else if s = 2 then (if B = x then 3 else 2) else if s = 4 then 0 else s
def nT (A s x : Int) : Int := if s = 1 then A else x
def nA (A s : Int) : Int := if s = 1 then inc A else A
def nB (B s : Int) : Int := if s = 4 then inc B else B
theorem stpZ_loads (t : Int) (zs : List Int) (s : Int) (ht : 0 ≤ t) (h8 : t % 8 = 0) (h16 : t + 16 ≤ zs.length) :
    loadV (stpZ t zs s) t 8 = nA (loadV zs t 8) s ∧ loadV (stpZ t zs s) (t + 8) 8 = nB (loadV zs (t + 8) 8) s ∧ ∀ t', 0 ≤ t' → (t + 16 ≤ t' ∨ t' + 8 ≤ t) → loadV (stpZ t zs s) t' 8 = loadV zs t' 8 := by
  unfold stpZ nA nB
  by_cases h1 : s = 1
  · rw [if_pos h1, if_pos h1, if_neg (by omega)]
    exact ⟨load_same _ _ _ ht (num_ok _ _ h8 (by omega)) (inc_U _), load_off _ _ _ _ ht (by omega) (.inl (by omega)), fun t' h0 h => load_off _ _ _ _ ht h0 (by omega)⟩
  · rw [if_neg h1, if_neg h1]
    by_cases h4 : s = 4
    · rw [if_pos h4, if_pos h4]
      exact ⟨load_off _ _ _ _ (by omega) ht (.inr (by omega)), load_same _ _ _ (by omega) (num_ok _ _ (by omega) (by omega)) (inc_U _), fun t' h0 h => load_off _ _ _ _ (by omega) h0 (by omega)⟩
    · rw [if_neg h4, if_neg h4]
      exact ⟨rfl, rfl, fun _ _ _ => rfl⟩
/-- a lock by its numbers: the next ticket A, the one that is served B -/
def LY (w : World) (k b g : Nat) (t : Int) (n : Nat) (S T : Nat → Int) (A B : Int) : Prop := ∃ zs, LX w k b g zs t n S T ∧ loadV zs t 8 = A ∧ loadV zs (t + 8) 8 = B
theorem LY.below {w w' : World} {k b g n : Nat} {t : Int} {S T : Nat → Int} {A B : Int} (h : LY w k b g t n S T A B) (hb : Below w.heap.size w w') : LY w' k b g t n S T A B := let ⟨zs, h, e⟩ := h; ⟨zs, h.below hb, e⟩
theorem take_ly (k b g : Nat) (t : Int) (n : Nat) (S T : Nat → Int) (A B : Int) (c : Nat) (hc : c < n) (w : World) (h : LY w k b g t n S T A B) : Calls Tryd.prog 13 #[.pointer (some ⟨k, 0, none⟩), .int .i64 c] w fun e w' =>
    e = .returned (.int .i64 (if S c = 0 then 0 else 21)) ∧ LY w' k b g t n (if S c = 0 then upd S c 1 else S) T A B ∧ Trn (Own k g) w w' := by
  obtain ⟨zs, h, e⟩ := h
  refine (take_lx k b g zs t n S T c w h).mono ?_
  rintro e' w' ⟨rfl, h1, h2⟩
  unfold begE
  unfold begS at h1
  rw [hasC_nat hc] at h1 ⊢
  exact ⟨by simp, ⟨zs, by simpa using h1, e⟩, h2⟩
theorem give_ly (k b g : Nat) (t : Int) (n : Nat) (S T : Nat → Int) (A B : Int) (c : Nat) (hc : c < n) (w : World) (h : LY w k b g t n S T A B) : Calls Tryd.prog 15 #[.pointer (some ⟨k, 0, none⟩), .int .i64 c] w fun e w' =>
    e = .returned (.int .i64 (if S c = 3 then 0 else 21)) ∧ LY w' k b g t n (if S c = 3 then upd S c 4 else S) T A B ∧ Trn (Own k g) w w' := by
  obtain ⟨zs, h, e⟩ := h
  refine (give_lx k b g zs t n S T c w h).mono ?_
  rintro e' w' ⟨rfl, h1, h2⟩
  unfold begE
  unfold begS at h1
  rw [hasC_nat hc] at h1 ⊢
  exact ⟨by simp, ⟨zs, by simpa using h1, e⟩, h2⟩
theorem step_ly (k b g : Nat) (t : Int) (n : Nat) (S T : Nat → Int) (A B : Int) (c : Nat) (hc : c < n) (w : World) (h : LY w k b g t n S T A B) : Calls Tryd.prog 16 #[.pointer (some ⟨k, 0, none⟩), .int .i64 c] w fun e w' =>
    e = .returned (.tuple #[.int .i64 (nS B (S c) (T c)), .int .i64 0]) ∧ LY w' k b g t n (upd S c (nS B (S c) (T c))) (upd T c (nT A (S c) (T c))) (nA A (S c)) (nB B (S c)) ∧ Trn (Own k g) w w' := by
  obtain ⟨zs, h, e1, e2⟩ := h
  obtain ⟨l1, l2, _⟩ := stpZ_loads t zs (S c) h.t0 h.t8 h.t16
  refine (Step_yes k b g zs t n S T c w h hc).mono ?_
  rintro e' w' ⟨rfl, h1, h2⟩
  have a1 : stpS t zs (S c) (T c) = nS B (S c) (T c) := by unfold stpS nS; rw [e2]
  have a2 : stpT t zs (S c) (T c) = nT A (S c) (T c) := by unfold stpT nT; rw [e1]
  rw [a1, a2] at h1
  rw [a1]
  exact ⟨rfl, ⟨_, h1, by rw [l1, e1], by rw [l2, e2]⟩, h2⟩
theorem state_ly (k b g : Nat) (t : Int) (n : Nat) (S T : Nat → Int) (A B : Int) (c : Nat) (hc : c < n) (w : World) (h : LY w k b g t n S T A B) : Calls Tryd.prog 20 #[.pointer (some ⟨k, 0, none⟩), .int .i64 c] w fun e w' =>
    e = .returned (.tuple #[.int .i64 (S c), .int .u64 (T c)]) ∧ LY w' k b g t n S T A B ∧ Below w.heap.size w w' := by
  obtain ⟨zs, h, e⟩ := h
  refine (state_yes k b g zs t n S T c w h hc).mono ?_
  rintro e' w' ⟨rfl, hb⟩
  exact ⟨rfl, ⟨zs, h.below hb, e⟩, hb⟩
end Go.Proofs.YtioanbdmkiphfaaDoor
