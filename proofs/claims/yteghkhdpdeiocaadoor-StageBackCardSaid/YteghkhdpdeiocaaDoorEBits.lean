/-
  The table of bits as it is laid: the numbers of entries by plain arithmetic.
-/
import Derived.Test.YteghkhdpdeiocaaDoorGD
import Derived.Test.YteghkhdpdeiocaaDoorGE
import Derived.Test.YteghkhdpdeiocaaDoorPk
namespace Go.Proofs.YteghkhdpdeiocaaDoor.E
open Go.RowKit
set_option linter.unusedVariables false
set_option maxRecDepth 20000

instance bits0 : Bits := ⟨fun k => if k ≤ 6 then k else 0, fun k => by split <;> omega, fun k => by split <;> omega⟩
theorem b_eq (k : Nat) (h : k ≤ 6) : (Bits.b k).toNat = k := by
  show (if k ≤ 6 then (k : Int) else 0).toNat = k
  rw [if_pos h, Int.toNat_natCast]
theorem flag_eq (n : Int) (k : Nat) (h : k ≤ 6) : flagP n k = A.flagP n k := by
  unfold flagP A.flagP
  rw [b_eq k h, Nat.min_eq_left (by omega)]
theorem b2_eq (b : Bool) : b2 b = A.b2 b := rfl
theorem or_step (F low : Int) (g : Bool) (k : Nat) (hk : k ≤ 6) (hF0 : 0 ≤ F) (hF1 : F < 65536) (h0 : 0 ≤ low) (h1 : low < 2 ^ k) : orP (low + F * 1024) g k = (low + A.b2 g * 2 ^ k) + F * 1024 ∧ 0 ≤ low + A.b2 g * 2 ^ k ∧ low + A.b2 g * 2 ^ k < 2 ^ (k + 1) := by
  have hp : (2 : Int) ^ (k + 1) = 2 * 2 ^ k := by rw [Int.pow_succ, Int.mul_comm]
  have hw : IntKind.u64.wrap (2 ^ min (Bits.b k).toNat 64) = 2 ^ k := by
    rw [b_eq k hk, Nat.min_eq_left (by omega)]
    obtain rfl | rfl | rfl | rfl | rfl | rfl | rfl : k = 0 ∨ k = 1 ∨ k = 2 ∨ k = 3 ∨ k = 4 ∨ k = 5 ∨ k = 6 := by omega
    all_goals rfl
  unfold orP
  rw [hw]
  cases g
  · simp [A.b2]
    omega
  · rw [if_pos rfl, A.or_flag F low k hF0 hF1 h0 hk h1]
    simp [A.b2]
    omega
theorem num_eq (v r w x u s d : Bool) (f : Int) (h0 : 0 ≤ f) (h1 : f < 65536) : numP v r w x u s d f = A.numP v r w x u s d f := by
  unfold numP A.numP
  obtain ⟨e0, a0, b0⟩ := or_step f 0 v 0 (by decide) h0 h1 (by decide) (by decide)
  obtain ⟨e1, a1, b1⟩ := or_step f _ r 1 (by decide) h0 h1 a0 b0
  obtain ⟨e2, a2, b2⟩ := or_step f _ w 2 (by decide) h0 h1 a1 b1
  obtain ⟨e3, a3, b3⟩ := or_step f _ x 3 (by decide) h0 h1 a2 b2
  obtain ⟨e4, a4, b4⟩ := or_step f _ u 4 (by decide) h0 h1 a3 b3
  obtain ⟨e5, a5, b5⟩ := or_step f _ s 5 (by decide) h0 h1 a4 b4
  obtain ⟨e6, a6, b6⟩ := or_step f _ d 6 (by decide) h0 h1 a5 b5
  rw [show f * 1024 = 0 + f * 1024 by omega, e0, e1, e2, e3, e4, e5, e6]
  omega
theorem may_eq (v r w x u s d : Bool) (f : Int) : mayP v r w x u s d f = A.mayP v r w x u s d f := rfl
theorem frame_eq (n : Int) : frameP n = A.frameP n := rfl
theorem is_eq (n : Int) : isP n = A.isP n := by
  have hf : 0 ≤ A.frameP n ∧ A.frameP n < 65536 := by unfold A.frameP; omega
  unfold isP A.isP
  rw [flag_eq n 0 (by decide), flag_eq n 1 (by decide), flag_eq n 2 (by decide), flag_eq n 3 (by decide), flag_eq n 4 (by decide), flag_eq n 5 (by decide), flag_eq n 6 (by decide), frame_eq, num_eq _ _ _ _ _ _ _ _ hf.1 hf.2, may_eq]
theorem pack_eq (v r w x u s d : Bool) (f : Int) : packN v r w x u s d f = A.packN v r w x u s d f := by
  unfold packN A.packN
  rw [may_eq]
  cases hm : A.mayP v r w x u s d f
  · simp
  · have := A.may_frame hm
    rw [if_pos rfl, if_pos rfl, num_eq _ _ _ _ _ _ _ _ this.1 this.2]
theorem numD_eq (v r w x u s d : Bool) (f : Int) : numD v r w x u s d f = A.numP v r w x u s d f := rfl
theorem en_num (v r w x u s d : Bool) (f : Int) (hv : v = true) (hm : A.mayP v r w x u s d f = true) : enOf (A.numP v r w x u s d f) = ⟨v, r, w, x, u, s, d, f⟩ ∧ unpackE (A.numP v r w x u s d f) = 0 := by
  have hf := A.may_frame hm
  obtain ⟨a0, a1, a2, a3, a4, a5, a6, a7⟩ := A.flag_num v r w x u s d f hf.1 hf.2
  have h3 : isP (A.numP v r w x u s d f) = true := by
    rw [is_eq]
    unfold A.isP
    rw [a0, a1, a2, a3, a4, a5, a6, a7, hm]
    simp
  unfold enOf unpackE
  rw [h3, flag_eq _ 0 (by decide), flag_eq _ 1 (by decide), flag_eq _ 2 (by decide), flag_eq _ 3 (by decide), flag_eq _ 4 (by decide), flag_eq _ 5 (by decide), flag_eq _ 6 (by decide), frame_eq, a0, a1, a2, a3, a4, a5, a6, a7, hv]
  simp
theorem en_none : enOf 0 = En.zero ∧ unpackE 0 = 0 := by
  have h : flagP 0 0 = false := by rw [flag_eq 0 0 (by decide)]; rfl
  unfold enOf unpackE
  rw [h]
  simp
end Go.Proofs.YteghkhdpdeiocaaDoor.E
