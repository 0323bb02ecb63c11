/-
  What is placed is the field, and what is stored is loaded again: the walk of WordBack, over the table of sizes as it is laid.
-/
import Derived.Test.YtlliompimlondaaDoorWalks8
import Derived.WalkKit
import Derived.ProofKit
import Derived.OpenShut
import Derived.ShutString
namespace Go.Proofs.YtlliompimlondaaDoor.wordBack
open Go.ChangeShapes Go.WideShapes Go.ChangeAt Go.RowKit
open Go.ChangeMaps (open_string shut_string)
set_option linter.unusedVariables false      -- a walk need not use every 'w<i>' (that an integer argument fits its kind)

theorem own : ownKnob Tryd.prog.godebug = none := by kernel_rfl

/-! ### STEP 1: THE WALK: the Go text returns true. 'Grown w w'': the world has at most new blocks (Derived/RowKit3.lean). Part the cases AHEAD of 'go_enter' where a test parts the walk; take each callee by a contract of your own. -/
theorem SZ.below {w w' : World} (h : SZ w) (hb : Below w.heap.size w w') : SZ w' := by
  have hs := hb.size
  obtain ⟨hc, _⟩ := bcell hb
  obtain ⟨c0, c1, c2, c3, c4, c5, hp⟩ := h
  exact ⟨(hc _ _ hp).trans c0, (hc _ _ hp).trans c1, (hc _ _ hp).trans c2, (hc _ _ hp).trans c3, (hc _ _ hp).trans c4, (hc _ _ hp).trans c5, by omega⟩

theorem place_high (W V t n : Nat) (hW : W < 2 ^ 32) (h : t + n = 32) : placeN W V t n / 2 ^ t % 2 ^ n = V % 2 ^ n := by
  apply Nat.eq_of_testBit_eq
  intro j
  rw [Nat.testBit_mod_two_pow, Nat.testBit_mod_two_pow, Nat.testBit_div_two_pow, testBit_place W V t n (j + t) hW (by omega)]
  by_cases hj : j < n
  · rw [if_pos (by omega), show j + t - t = j by omega]
  · simp [hj]
theorem place_low (W V t n : Nat) (hW : W < 2 ^ 32) (h : t + n = 32) : placeN W V t n % 2 ^ t = W % 2 ^ t := by
  apply Nat.eq_of_testBit_eq
  intro j
  rw [Nat.testBit_mod_two_pow, Nat.testBit_mod_two_pow, testBit_place W V t n j hW (by omega)]
  by_cases hj : j < t
  · rw [if_neg (by omega)]
  · simp [hj]
theorem ones_u64 (v : Int) (n : Nat) (h : n ≤ 32) (h0 : 0 ≤ v) (h1 : v ≤ 18446744073709551615) : wrap64 (bits .and .u64 v (IntKind.u64.wrap (IntKind.u64.wrap (2 ^ n) - 1))) = v % 2 ^ n := by
  have hp := pow_pos' n
  have hle : (2 : Int) ^ n ≤ 2 ^ 32 := pow_le' h
  have e1 : IntKind.u64.wrap (2 ^ n) = 2 ^ n := by rw [IntKind.wrap_u64]; generalize (2 : Int) ^ n = P at *; omega
  have e2 : IntKind.u64.wrap (2 ^ n - 1) = 2 ^ n - 1 := by rw [IntKind.wrap_u64]; generalize (2 : Int) ^ n = P at *; omega
  rw [e1, e2, bits_mask .u64 64 (by decide) wraps_u64 n (by omega) v h0 (by omega)]
  have h3 := Int.emod_nonneg v (show (2 : Int) ^ n ≠ 0 by omega)
  have h4 := Int.emod_lt_of_pos v hp
  unfold wrap64
  generalize v % 2 ^ n = m at *
  generalize (2 : Int) ^ n = P at *
  omega

/-- what is placed is the field, and what is below stays -/
theorem placed (a v : Int) (t : Nat) (ht : t ≤ 31) (ha : 0 ≤ a) (ha' : a ≤ 4294967295) (h0 : 0 ≤ v) (h1 : v ≤ 18446744073709551615) :
    (0 ≤ placeW a (wrap64 v) t (32 - t) ∧ placeW a (wrap64 v) t (32 - t) ≤ 4294967295) ∧
    fieldW (placeW a (wrap64 v) t (32 - t)) t (32 - t) = wrap64 (bits .and .u64 v (IntKind.u64.wrap (IntKind.u64.wrap (2 ^ (32 - t)) - 1))) ∧
    (0 < t → fieldW (placeW a (wrap64 v) t (32 - t)) 0 t = fieldW a 0 t) := by
  obtain ⟨A, rfl⟩ := Int.eq_ofNat_of_zero_le ha
  have hc : (0 : Int) ≤ (t : Int) ∧ (t : Int) ≤ 31 ∧ (1 : Int) ≤ 32 - (t : Int) ∧ (t : Int) + (32 - (t : Int)) ≤ 32 := by omega
  have hA : A < 2 ^ 32 := by omega
  have hp : placeW (A : Int) (wrap64 v) t (32 - t) = (placeN A (wrap64 v % 4294967296).toNat t (32 - t) : Int) := by
    unfold placeW
    rw [if_pos hc]
    rw [show ((A : Int)).toNat = A by omega, show ((t : Int)).toNat = t by omega, show (32 - (t : Int)).toNat = 32 - t by omega]
  have hlt := place_lt A (wrap64 v % 4294967296).toNat t (32 - t) hA (by omega)
  have hhi := place_high A (wrap64 v % 4294967296).toNat t (32 - t) hA (by omega)
  have hlo := place_low A (wrap64 v % 4294967296).toNat t (32 - t) hA (by omega)
  rw [hp]
  refine ⟨by omega, ?_, ?_⟩
  · unfold fieldW
    rw [if_pos hc, show ((t : Int)).toNat = t by omega, show (32 - (t : Int)).toNat = 32 - t by omega, ones_u64 v (32 - t) (by omega) h0 h1]
    have e1 : ((placeN A (wrap64 v % 4294967296).toNat t (32 - t) / 2 ^ t % 2 ^ (32 - t) : Nat) : Int) = (placeN A (wrap64 v % 4294967296).toNat t (32 - t) : Int) / 2 ^ t % 2 ^ (32 - t) := by simp
    rw [← e1, hhi]
    have e2 : (((wrap64 v % 4294967296).toNat % 2 ^ (32 - t) : Nat) : Int) = (wrap64 v % 4294967296) % 2 ^ (32 - t) := by
      rw [Int.natCast_emod, Int.toNat_of_nonneg (by omega)]; simp
    have e3 : wrap64 v % 4294967296 = v % 4294967296 := by unfold wrap64; omega
    rw [e2, e3]
    apply Int.emod_emod_of_dvd
    refine ⟨2 ^ t, ?_⟩
    rw [← Int.pow_add, show 32 - t + t = 32 by omega]; rfl
  · intro ht0
    have hc2 : (0 : Int) ≤ 0 ∧ (0 : Int) ≤ 31 ∧ (1 : Int) ≤ (t : Int) ∧ (0 : Int) + (t : Int) ≤ 32 := by omega
    unfold fieldW
    rw [if_pos hc2, if_pos hc2, show ((t : Int)).toNat = t by omega]
    have e1 : ((placeN A (wrap64 v % 4294967296).toNat t (32 - t) % 2 ^ t : Nat) : Int) = (placeN A (wrap64 v % 4294967296).toNat t (32 - t) : Int) / 2 ^ (0 : Int).toNat % 2 ^ t := by simp
    rw [← e1, hlo]; simp

theorem back8 (v : Int) (h0 : 0 ≤ v) (h1 : v ≤ 18446744073709551615) : extW ((8 : Nat) : Int) (leFrom (bytesOf v 8) 0 8) = v := by
  rw [le_bytes v 8 8 (by omega)]; simp [extW]; omega
theorem back1 (v : Int) : extW ((1 : Nat) : Int) (leFrom (bytesOf v 1) 0 1) = v % 256 := by
  rw [le_bytes v 1 1 (by omega)]; simp [extW]
theorem back4 (v : Int) : extW ((4 : Nat) : Int) (leFrom (bytesOf v 4) 0 4) = IntKind.u64.wrap (wrap64 (wrap32 v)) := by
  rw [le_bytes v 4 4 (by omega), IntKind.wrap_u64]
  simp only [extW, wrap64, wrap32]
  split <;> omega
theorem and255 (v : Int) (h0 : 0 ≤ v) (h1 : v ≤ 18446744073709551615) : bits .and .u64 v 255 = v % 256 :=
  bits_mask .u64 64 (by decide) wraps_u64 8 (by decide) v h0 (by omega)

theorem below_drewN {B : Nat} {a w : World} (h : Below B a w) : ∀ n, Below B a (w.drewN n)
  | 0 => h
  | n + 1 => (below_drewN h n).drew
theorem own_cell {w : World} {base g N : Nat} {v : Int} (h : w.ownsRow base 5 1 (.slice (some ⟨g, 0, none⟩) N N) N ((bytesOf v N).map (Value.int .u8))) : ∀ i, i < N → w.cell? ⟨g, 0 + i, none⟩ = some (.int .u8 ((bytesOf v N).getD i 0)) := by
  intro i hi
  rw [Nat.zero_add, h.cellAt i (by omega)]
  simp [bytesOf, hi]

theorem walk (a0 : Int) (a1 : Int) (a2 : Int) (w0 : (Lit.int .u32 a0).wf = true) (w1 : (Lit.int .u64 a1).wf = true) (w2 : (Lit.int .i64 a2).wf = true) (w : World) (hz : SZ w) :
    Calls Tryd.prog 4 #[.int .u32 a0, .int .u64 a1, .int .i64 a2] w fun e w' => e = .returned (.bool true) ∧ Below w.heap.size w w' := by
  have b0 := bounds_u32 w0
  have b1 := bounds_u64 w1
  have e31 : bits .and .i64 a2 31 = a2 % 32 := and_ones64 a2 5 (by decide)
  obtain ⟨t, ht⟩ := Int.eq_ofNat_of_zero_le (show 0 ≤ a2 % 32 by omega)
  have ht2 : t ≤ 31 := by omega
  rw [ht] at e31
  clear ht
  obtain ⟨hP, hF, hL⟩ := placed a0 a1 t ht2 b0.1 b0.2 b1.1 b1.2
  have HF : Hid (_ = _) := hF
  clear hF
  have e255 := and255 a1 b1.1 b1.2
  go_enter Tryd.func4, Tryd.ntmps4
  go_wp2_with fail
  refine (place_any _ _ _ _ (by omega) (by omega) _).mono ?_
  rintro e w' ⟨rfl, rfl⟩
  generalize placeW a0 (wrap64 a1) t (32 - t) = P at *
  go_wp2_with fail
  refine (field_any _ _ _ (by omega) (by omega) _).mono ?_
  rintro e w' ⟨rfl, rfl⟩
  rw [HF.out]
  by_cases ht0 : 0 < t
  · have HL : Hid (_ = _) := hL ht0
    clear hL
    go_wp2_with fail
    refine (field_any _ _ _ (by omega) (by omega) _).mono ?_
    rintro e w' ⟨rfl, rfl⟩
    rw [HL.out]
    go_wp2_with fail
    refine (field_any _ _ _ (by omega) (by omega) _).mono ?_
    rintro e w' ⟨rfl, rfl⟩
    go_wp2_with fail
    refine (store_yes a1 8 _ hz (by omega) (by omega) (by omega)).mono ?_
    rintro e wA ⟨g, rfl, ownA, bA⟩
    have zA := SZ.below hz bA
    go_wp2_with fail
    refine (load_yes g 0 8 8 0 8 (bytesOf a1 8) _ zA (by omega) (by omega) (by decide) (ownA.lt g rfl).2 (own_cell ownA) (bytesOf_bytes _ _)).mono ?_
    rintro e wB ⟨rfl, bB⟩
    rw [back8 a1 b1.1 b1.2]
    have zB := SZ.below zA bB
    have b2 := bA.trans (bB.mono bA.size)
    clear ownA bA bB zA
    go_wp2_with fail
    refine (store_yes a1 1 _ zB (by omega) (by omega) (by omega)).mono ?_
    rintro e wC ⟨g1, rfl, ownA, bA⟩
    have zA := SZ.below zB bA
    go_wp2_with fail
    refine (load_yes g1 0 1 1 0 1 (bytesOf a1 1) _ zA (by omega) (by omega) (by decide) (ownA.lt g1 rfl).2 (own_cell ownA) (bytesOf_bytes _ _)).mono ?_
    rintro e wD ⟨rfl, bB⟩
    rw [back1 a1]
    have zD := SZ.below zA bB
    have b3 := b2.trans ((bA.trans (bB.mono bA.size)).mono b2.size)
    clear ownA bA bB zA zB b2
    go_wp2_with fail
    refine (store_yes a1 4 _ zD (by omega) (by omega) (by omega)).mono ?_
    rintro e wE ⟨g2, rfl, ownA, bA⟩
    have zA := SZ.below zD bA
    go_wp2_with fail
    refine (load_yes g2 0 4 4 0 4 (bytesOf a1 4) _ zA (by omega) (by omega) (by decide) (ownA.lt g2 rfl).2 (own_cell ownA) (bytesOf_bytes _ _)).mono ?_
    rintro e wF ⟨rfl, bB⟩
    rw [back4 a1]
    have b4 := b3.trans ((bA.trans (bB.mono bA.size)).mono b3.size)
    clear ownA bA bB zA zD b3
    go_wp2_with fail
    refine (divide_any _ _ (by omega) (by omega) (by omega) _).mono ?_
    rintro e wG ⟨rfl, nd, rfl⟩
    have hqr : a1 / (a0 + 1) * (a0 + 1) + a1 % (a0 + 1) = a1 := by
      have := Int.emod_add_mul_ediv a1 (a0 + 1)
      rw [Int.mul_comm]; omega
    have hq0 : 0 ≤ a1 / (a0 + 1) * (a0 + 1) := Int.mul_nonneg (Int.ediv_nonneg b1.1 (by omega)) (by omega)
    have hr0 := Int.emod_nonneg a1 (show a0 + 1 ≠ 0 by omega)
    have hr1 := Int.emod_lt_of_pos a1 (show 0 < a0 + 1 by omega)
    generalize a1 / (a0 + 1) = q at *
    generalize a1 % (a0 + 1) = r at *
    go_wp2_with fail
    go_ret
    exact ⟨ret_bool (decide_eq_true (by omega)), below_drewN b4 _⟩
  · clear hL
    go_wp2_with fail
    refine (store_yes a1 8 _ hz (by omega) (by omega) (by omega)).mono ?_
    rintro e wA ⟨g, rfl, ownA, bA⟩
    have zA := SZ.below hz bA
    go_wp2_with fail
    refine (load_yes g 0 8 8 0 8 (bytesOf a1 8) _ zA (by omega) (by omega) (by decide) (ownA.lt g rfl).2 (own_cell ownA) (bytesOf_bytes _ _)).mono ?_
    rintro e wB ⟨rfl, bB⟩
    rw [back8 a1 b1.1 b1.2]
    have zB := SZ.below zA bB
    have b2 := bA.trans (bB.mono bA.size)
    clear ownA bA bB zA
    go_wp2_with fail
    refine (store_yes a1 1 _ zB (by omega) (by omega) (by omega)).mono ?_
    rintro e wC ⟨g1, rfl, ownA, bA⟩
    have zA := SZ.below zB bA
    go_wp2_with fail
    refine (load_yes g1 0 1 1 0 1 (bytesOf a1 1) _ zA (by omega) (by omega) (by decide) (ownA.lt g1 rfl).2 (own_cell ownA) (bytesOf_bytes _ _)).mono ?_
    rintro e wD ⟨rfl, bB⟩
    rw [back1 a1]
    have zD := SZ.below zA bB
    have b3 := b2.trans ((bA.trans (bB.mono bA.size)).mono b2.size)
    clear ownA bA bB zA zB b2
    go_wp2_with fail
    refine (store_yes a1 4 _ zD (by omega) (by omega) (by omega)).mono ?_
    rintro e wE ⟨g2, rfl, ownA, bA⟩
    have zA := SZ.below zD bA
    go_wp2_with fail
    refine (load_yes g2 0 4 4 0 4 (bytesOf a1 4) _ zA (by omega) (by omega) (by decide) (ownA.lt g2 rfl).2 (own_cell ownA) (bytesOf_bytes _ _)).mono ?_
    rintro e wF ⟨rfl, bB⟩
    rw [back4 a1]
    have b4 := b3.trans ((bA.trans (bB.mono bA.size)).mono b3.size)
    clear ownA bA bB zA zD b3
    go_wp2_with fail
    refine (divide_any _ _ (by omega) (by omega) (by omega) _).mono ?_
    rintro e wG ⟨rfl, nd, rfl⟩
    have hqr : a1 / (a0 + 1) * (a0 + 1) + a1 % (a0 + 1) = a1 := by
      have := Int.emod_add_mul_ediv a1 (a0 + 1)
      rw [Int.mul_comm]; omega
    have hq0 : 0 ≤ a1 / (a0 + 1) * (a0 + 1) := Int.mul_nonneg (Int.ediv_nonneg b1.1 (by omega)) (by omega)
    have hr0 := Int.emod_nonneg a1 (show a0 + 1 ≠ 0 by omega)
    have hr1 := Int.emod_lt_of_pos a1 (show 0 < a0 + 1 by omega)
    generalize a1 / (a0 + 1) = q at *
    generalize a1 % (a0 + 1) = r at *
    go_wp2_with fail
    go_ret
    exact ⟨ret_bool (decide_eq_true (by omega)), below_drewN b4 _⟩
end Go.Proofs.YtlliompimlondaaDoor.wordBack
