/-
  What the document's Pack tells of an entry that may be.
  The table of bits as it is laid: the numbers of entries by plain arithmetic.
-/
import Derived.Test.YteghkhdpdeiocaaGreatDoorGD
import Derived.Test.YteghkhdpdeiocaaGreatDoorGE
namespace Go.Proofs.YteghkhdpdeiocaaGreatDoor.E
open Go.RowKit
set_option linter.unusedVariables false
set_option maxRecDepth 100000
theorem bit_any (b : Bool) (n : Int) (h0 : 0 ≤ n) (h1 : n < 7) (W : World) :
    Calls Tryz.prog 101 #[.bool b, .int .i64 n] W fun e W' => e = .returned (.int .u64 (b2 b * 2 ^ n.toNat)) ∧ W' = W := by
  cases b
  · go_enter Tryz.func101, Tryz.ntmps101
    go_wp2
    go_ret
    exact ⟨by simp [b2], rfl⟩
  · obtain rfl | rfl | rfl | rfl | rfl | rfl | rfl : n = 0 ∨ n = 1 ∨ n = 2 ∨ n = 3 ∨ n = 4 ∨ n = 5 ∨ n = 6 := by omega
    all_goals
      go_enter Tryz.func101, Tryz.ntmps101
      go_wp2
      go_ret
      exact ⟨rfl, rfl⟩

set_option maxHeartbeats 3200000 in
theorem rmay_any (v r w x u s d : Bool) (f : Int) (W : World) :
    Calls Tryz.prog 100 #[ent v r w x u s d f] W fun e W' => e = .returned (.bool (mayP v r w x u s d f)) ∧ Below W.heap.size W W' := by
  cases v
  · have e : mayP false r w x u s d f = (!r && !w && !x && !u && !s && !d && decide (f = 0)) := rfl
    rw [e]
    clear e
    unfold ent
    go_enter Tryz.func100, Tryz.ntmps100
    go_wp2
    all_goals
      go_ret
      refine ⟨ret_bool ?_, (Below.refl _ _).alloc (Nat.le_refl _) _⟩
      simp_all
  · by_cases hf : 0 ≤ f ∧ f < 65536
    · have e : mayP true r w x u s d f = ((!w || r) && (r || x || (!u && !s && !d))) := by simp [mayP, hf]
      rw [e]
      clear e
      obtain ⟨hf0, hf1⟩ := hf
      unfold ent
      cases w <;> cases r <;> cases x <;> cases u <;> cases s
      all_goals
        go_enter Tryz.func100, Tryz.ntmps100
        go_wp2
        go_ret
        exact ⟨ret_bool (by simp), (Below.refl _ _).alloc (Nat.le_refl _) _⟩
    · rw [may_out _ _ _ _ _ _ _ _ hf]
      unfold ent
      go_enter Tryz.func100, Tryz.ntmps100
      go_wp2
      all_goals
        go_ret
        refine ⟨ret_bool ?_, (Below.refl _ _).alloc (Nat.le_refl _) _⟩
        first
          | rfl
          | (exfalso; omega)
/-- the document's number of an entry -/
def numD (v r w x u s d : Bool) (f : Int) : Int := b2 v * 2 ^ 0 + b2 r * 2 ^ 1 + b2 w * 2 ^ 2 + b2 x * 2 ^ 3 + b2 u * 2 ^ 4 + b2 s * 2 ^ 5 + b2 d * 2 ^ 6 + f * 1024
set_option maxHeartbeats 3200000 in
theorem rpack_yes (v r w x u s d : Bool) (f : Int) (hm : mayP v r w x u s d f = true) (W : World) :
    Calls Tryz.prog 89 #[ent v r w x u s d f] W fun e W' => e = .returned (.tuple #[.int .u64 (numD v r w x u s d f), .int .i64 0]) ∧ Below W.heap.size W W' := by
  have C1 := rmay_any v r w x u s d f
  rw [hm] at C1
  have hf := may_frame hm
  clear hm
  have w1 : IntKind.u64.wrap f = f := wraps_u64 _ (by omega) (by omega)
  have w2 : IntKind.u64.wrap (f * 1024) = f * 1024 := wraps_u64 _ (by omega) (by omega)
  have b0 := bit_any v 0 (by decide) (by decide)
  have b1 := bit_any r 1 (by decide) (by decide)
  have b2' := bit_any w 2 (by decide) (by decide)
  have b3 := bit_any x 3 (by decide) (by decide)
  have b4 := bit_any u 4 (by decide) (by decide)
  have b5 := bit_any s 5 (by decide) (by decide)
  have b6 := bit_any d 6 (by decide) (by decide)
  have r0 := b2_range v
  have r1 := b2_range r
  have r2 := b2_range w
  have r3 := b2_range x
  have r4 := b2_range u
  have r5 := b2_range s
  have r6 := b2_range d
  unfold numD
  generalize b2 v = z0 at *
  generalize b2 r = z1 at *
  generalize b2 w = z2 at *
  generalize b2 x = z3 at *
  generalize b2 u = z4 at *
  generalize b2 s = z5 at *
  generalize b2 d = z6 at *
  simp only [show ((0 : Int).toNat) = 0 from rfl, show ((1 : Int).toNat) = 1 from rfl, show ((2 : Int).toNat) = 2 from rfl, show ((3 : Int).toNat) = 3 from rfl, show ((4 : Int).toNat) = 4 from rfl, show ((5 : Int).toNat) = 5 from rfl, show ((6 : Int).toNat) = 6 from rfl, Int.reducePow] at b0 b1 b2' b3 b4 b5 b6 ⊢
  have k1 : IntKind.u64.wrap (z0 * 1 + z1 * 2) = z0 * 1 + z1 * 2 := wraps_u64 _ (by omega) (by omega)
  have k2 : IntKind.u64.wrap (z0 * 1 + z1 * 2 + z2 * 4) = z0 * 1 + z1 * 2 + z2 * 4 := wraps_u64 _ (by omega) (by omega)
  have k3 : IntKind.u64.wrap (z0 * 1 + z1 * 2 + z2 * 4 + z3 * 8) = z0 * 1 + z1 * 2 + z2 * 4 + z3 * 8 := wraps_u64 _ (by omega) (by omega)
  have k4 : IntKind.u64.wrap (z0 * 1 + z1 * 2 + z2 * 4 + z3 * 8 + z4 * 16) = z0 * 1 + z1 * 2 + z2 * 4 + z3 * 8 + z4 * 16 := wraps_u64 _ (by omega) (by omega)
  have k5 : IntKind.u64.wrap (z0 * 1 + z1 * 2 + z2 * 4 + z3 * 8 + z4 * 16 + z5 * 32) = z0 * 1 + z1 * 2 + z2 * 4 + z3 * 8 + z4 * 16 + z5 * 32 := wraps_u64 _ (by omega) (by omega)
  have k6 : IntKind.u64.wrap (z0 * 1 + z1 * 2 + z2 * 4 + z3 * 8 + z4 * 16 + z5 * 32 + z6 * 64) = z0 * 1 + z1 * 2 + z2 * 4 + z3 * 8 + z4 * 16 + z5 * 32 + z6 * 64 := wraps_u64 _ (by omega) (by omega)
  have k7 : IntKind.u64.wrap (z0 * 1 + z1 * 2 + z2 * 4 + z3 * 8 + z4 * 16 + z5 * 32 + z6 * 64 + f * 1024) = z0 * 1 + z1 * 2 + z2 * 4 + z3 * 8 + z4 * 16 + z5 * 32 + z6 * 64 + f * 1024 := wraps_u64 _ (by omega) (by omega)
  generalize z0 * 1 = z0 at *
  unfold ent at *
  go_enter Tryz.func89, Tryz.ntmps89
  go_wp2_with fail
  refine (C1 _).mono ?_
  rintro e wa ⟨rfl, hb1⟩
  have HB : Hid (Below W.heap.size W wa) := ((Below.refl _ _).alloc (Nat.le_refl _) _).trans (hb1.mono (by simp))
  obtain ⟨hcc1, hff1⟩ := bcell hb1
  simp only [World.size_alloc] at hcc1 hff1
  have hs1 : W.heap.size < wa.heap.size := by have := hb1.size; simp at this; omega
  clear hb1 C1
  go_wp2_with fail
  have hne := above_here wa
  have hab : ∀ (s : Above wa) b o, b < W.heap.size + 1 → s.wld.cell? ⟨b, o, none⟩ = _ := fun s b o h => (s.bel.cell (p := ⟨b, o, none⟩) (by show b < _; omega)).trans (hcc1 b o h)
  refine wp_region_above (by kernel_rfl) (by kernel_rfl) ?_
  repeat (first
    | go_big_quiet_skip
    | (go_big_quiet_want; go_big_quiet_op; go_big_quiet_on))
  (go_big_quiet_want; go_big_quiet_op; apply Exists.intro; refine ⟨fun s => ?_, ?_⟩; exact above_same s (b0 _); go_big_quiet_on)
  repeat (first
    | go_big_quiet_skip
    | (go_big_quiet_want; go_big_quiet_op; go_big_quiet_on))
  (go_big_quiet_want; go_big_quiet_op; apply Exists.intro; refine ⟨fun s => ?_, ?_⟩; exact above_same s (b1 _); go_big_quiet_on)
  repeat (first
    | go_big_quiet_skip
    | (go_big_quiet_want; go_big_quiet_op; go_big_quiet_on))
  (go_big_quiet_want; go_big_quiet_op; apply Exists.intro; refine ⟨fun s => ?_, ?_⟩; exact above_same s (b2' _); go_big_quiet_on)
  repeat (first
    | go_big_quiet_skip
    | (go_big_quiet_want; go_big_quiet_op; go_big_quiet_on))
  (go_big_quiet_want; go_big_quiet_op; apply Exists.intro; refine ⟨fun s => ?_, ?_⟩; exact above_same s (b3 _); go_big_quiet_on)
  repeat (first
    | go_big_quiet_skip
    | (go_big_quiet_want; go_big_quiet_op; go_big_quiet_on))
  (go_big_quiet_want; go_big_quiet_op; apply Exists.intro; refine ⟨fun s => ?_, ?_⟩; exact above_same s (b4 _); go_big_quiet_on)
  repeat (first
    | go_big_quiet_skip
    | (go_big_quiet_want; go_big_quiet_op; go_big_quiet_on))
  (go_big_quiet_want; go_big_quiet_op; apply Exists.intro; refine ⟨fun s => ?_, ?_⟩; exact above_same s (b5 _); go_big_quiet_on)
  repeat (first
    | go_big_quiet_skip
    | (go_big_quiet_want; go_big_quiet_op; go_big_quiet_on))
  (go_big_quiet_want; go_big_quiet_op; apply Exists.intro; refine ⟨fun s => ?_, ?_⟩; exact above_same s (b6 _); go_big_quiet_on)
  repeat (first
    | go_big_quiet_skip
    | (go_big_quiet_want; go_big_quiet_op; go_big_quiet_on))
  refine wpQuiet_nil ?_
  rintro _ ⟨s, rfl⟩
  have HB2 : Hid (Below W.heap.size W s.wld) := HB.out.trans (s.bel.mono (by omega))
  go_wp2_with fail
  go_ret2
  exact ⟨rfl, HB2.out⟩
end Go.Proofs.YteghkhdpdeiocaaGreatDoor.E
namespace Go.Proofs.YteghkhdpdeiocaaGreatDoor.E
open Go.RowKit
set_option linter.unusedVariables false
set_option maxRecDepth 100000

instance bits0 : Bits := ⟨fun k => if k ≤ 6 then k else 0, fun k => by split <;> omega, fun k => by split <;> omega⟩
theorem b_eq (k : Nat) (h : k ≤ 6) : (Bits.b k).toNat = k := by
  show (if k ≤ 6 then (k : Int) else 0).toNat = k
  rw [if_pos h, Int.toNat_natCast]
theorem flag_eq (n : Int) (k : Nat) (h : k ≤ 6) : flagP n k = A.flagP n k := by
  unfold flagP A.flagP
  rw [b_eq k h, Nat.min_eq_left (by omega)]
theorem b2_eq (b : Bool) : b2 b = A.b2 b := rfl
theorem or_step (F low : Int) (g : Bool) (k : Nat) (hk : k ≤ 6) (hF0 : 0 ≤ F) (hF1 : F < 65536) (h0 : 0 ≤ low) (h1 : low < 2 ^ k) : orP (low + F * 1024) g k = (low + A.b2 g * 2 ^ k) + F * 1024 ∧ 0 ≤ low + A.b2 g * 2 ^ k ∧ low + A.b2 g * 2 ^ k < 2 ^ (k + 1) := by
  have hp : (2 : Int) ^ (k + 1) = 2 * 2 ^ k := by rw [Int.pow_succ, Int.mul_comm]
  have hw : IntKind.u64.wrap (2 ^ min (Bits.b k).toNat 64) = 2 ^ k := by
    rw [b_eq k hk, Nat.min_eq_left (by omega)]
    obtain rfl | rfl | rfl | rfl | rfl | rfl | rfl : k = 0 ∨ k = 1 ∨ k = 2 ∨ k = 3 ∨ k = 4 ∨ k = 5 ∨ k = 6 := by omega
    all_goals rfl
  unfold orP
  rw [hw]
  cases g
  · simp [A.b2]
    omega
  · rw [if_pos rfl, A.or_flag F low k hF0 hF1 h0 hk h1]
    simp [A.b2]
    omega
theorem num_eq (v r w x u s d : Bool) (f : Int) (h0 : 0 ≤ f) (h1 : f < 65536) : numP v r w x u s d f = A.numP v r w x u s d f := by
  unfold numP A.numP
  obtain ⟨e0, a0, b0⟩ := or_step f 0 v 0 (by decide) h0 h1 (by decide) (by decide)
  obtain ⟨e1, a1, b1⟩ := or_step f _ r 1 (by decide) h0 h1 a0 b0
  obtain ⟨e2, a2, b2⟩ := or_step f _ w 2 (by decide) h0 h1 a1 b1
  obtain ⟨e3, a3, b3⟩ := or_step f _ x 3 (by decide) h0 h1 a2 b2
  obtain ⟨e4, a4, b4⟩ := or_step f _ u 4 (by decide) h0 h1 a3 b3
  obtain ⟨e5, a5, b5⟩ := or_step f _ s 5 (by decide) h0 h1 a4 b4
  obtain ⟨e6, a6, b6⟩ := or_step f _ d 6 (by decide) h0 h1 a5 b5
  rw [show f * 1024 = 0 + f * 1024 by omega, e0, e1, e2, e3, e4, e5, e6]
  omega
theorem may_eq (v r w x u s d : Bool) (f : Int) : mayP v r w x u s d f = A.mayP v r w x u s d f := rfl
theorem frame_eq (n : Int) : frameP n = A.frameP n := rfl
theorem is_eq (n : Int) : isP n = A.isP n := by
  have hf : 0 ≤ A.frameP n ∧ A.frameP n < 65536 := by unfold A.frameP; omega
  unfold isP A.isP
  rw [flag_eq n 0 (by decide), flag_eq n 1 (by decide), flag_eq n 2 (by decide), flag_eq n 3 (by decide), flag_eq n 4 (by decide), flag_eq n 5 (by decide), flag_eq n 6 (by decide), frame_eq, num_eq _ _ _ _ _ _ _ _ hf.1 hf.2, may_eq]
theorem pack_eq (v r w x u s d : Bool) (f : Int) : packN v r w x u s d f = A.packN v r w x u s d f := by
  unfold packN A.packN
  rw [may_eq]
  cases hm : A.mayP v r w x u s d f
  · simp
  · have := A.may_frame hm
    rw [if_pos rfl, if_pos rfl, num_eq _ _ _ _ _ _ _ _ this.1 this.2]
theorem numD_eq (v r w x u s d : Bool) (f : Int) : numD v r w x u s d f = A.numP v r w x u s d f := rfl
theorem en_num (v r w x u s d : Bool) (f : Int) (hv : v = true) (hm : A.mayP v r w x u s d f = true) : enOf (A.numP v r w x u s d f) = ⟨v, r, w, x, u, s, d, f⟩ ∧ unpackE (A.numP v r w x u s d f) = 0 := by
  have hf := A.may_frame hm
  obtain ⟨a0, a1, a2, a3, a4, a5, a6, a7⟩ := A.flag_num v r w x u s d f hf.1 hf.2
  have h3 : isP (A.numP v r w x u s d f) = true := by
    rw [is_eq]
    unfold A.isP
    rw [a0, a1, a2, a3, a4, a5, a6, a7, hm]
    simp
  unfold enOf unpackE
  rw [h3, flag_eq _ 0 (by decide), flag_eq _ 1 (by decide), flag_eq _ 2 (by decide), flag_eq _ 3 (by decide), flag_eq _ 4 (by decide), flag_eq _ 5 (by decide), flag_eq _ 6 (by decide), frame_eq, a0, a1, a2, a3, a4, a5, a6, a7, hv]
  simp
theorem en_none : enOf 0 = En.zero ∧ unpackE 0 = 0 := by
  have h : flagP 0 0 = false := by rw [flag_eq 0 0 (by decide)]; rfl
  unfold enOf unpackE
  rw [h]
  simp
end Go.Proofs.YteghkhdpdeiocaaGreatDoor.E
