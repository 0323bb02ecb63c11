/-
  What Pack and the document's Pack tell: their contracts, over the table of bits as it is laid.
-/
import Derived.Test.YtbaagnfcdphddaaDoorEnt2
namespace Go.Proofs.YtbaagnfcdphddaaDoor
open Go.RowKit
set_option linter.unusedVariables false

/-- the table of bits as it is laid -/
structure BT (w : World) : Prop where
  c0 : w.cell? ⟨1, 0, none⟩ = some (.int .u64 0)
  c1 : w.cell? ⟨1, 1, none⟩ = some (.int .u64 1)
  c2 : w.cell? ⟨1, 2, none⟩ = some (.int .u64 2)
  c3 : w.cell? ⟨1, 3, none⟩ = some (.int .u64 3)
  c4 : w.cell? ⟨1, 4, none⟩ = some (.int .u64 4)
  c5 : w.cell? ⟨1, 5, none⟩ = some (.int .u64 5)
  c6 : w.cell? ⟨1, 6, none⟩ = some (.int .u64 6)
  pos : 1 < w.heap.size

theorem BT.below {w w' : World} (h : BT w) (hb : Below w.heap.size w w') : BT w' := by
  have hp := h.pos
  have e : ∀ k, w'.cell? ⟨1, k, none⟩ = w.cell? ⟨1, k, none⟩ := fun k => hb.cell (p := ⟨1, k, none⟩) hp
  exact ⟨(e 0).trans h.c0, (e 1).trans h.c1, (e 2).trans h.c2, (e 3).trans h.c3, (e 4).trans h.c4, (e 5).trans h.c5, (e 6).trans h.c6, Nat.lt_of_lt_of_le hp hb.size⟩

/-- the flags' number so far -/
def lowP (v r w x u s d : Bool) : Nat → Int
  | 0 => 0
  | 1 => b2 v * 2 ^ 0
  | 2 => b2 v * 2 ^ 0 + b2 r * 2 ^ 1
  | 3 => b2 v * 2 ^ 0 + b2 r * 2 ^ 1 + b2 w * 2 ^ 2
  | 4 => b2 v * 2 ^ 0 + b2 r * 2 ^ 1 + b2 w * 2 ^ 2 + b2 x * 2 ^ 3
  | 5 => b2 v * 2 ^ 0 + b2 r * 2 ^ 1 + b2 w * 2 ^ 2 + b2 x * 2 ^ 3 + b2 u * 2 ^ 4
  | 6 => b2 v * 2 ^ 0 + b2 r * 2 ^ 1 + b2 w * 2 ^ 2 + b2 x * 2 ^ 3 + b2 u * 2 ^ 4 + b2 s * 2 ^ 5
  | _ => b2 v * 2 ^ 0 + b2 r * 2 ^ 1 + b2 w * 2 ^ 2 + b2 x * 2 ^ 3 + b2 u * 2 ^ 4 + b2 s * 2 ^ 5 + b2 d * 2 ^ 6

theorem low_range (v r w x u s d : Bool) (k : Nat) (hk : k ≤ 6) : 0 ≤ lowP v r w x u s d k ∧ lowP v r w x u s d k < 2 ^ k := by
  have hv := b2_range v
  have hr := b2_range r
  have hw := b2_range w
  have hx := b2_range x
  have hu := b2_range u
  have hs := b2_range s
  have hd := b2_range d
  obtain rfl | rfl | rfl | rfl | rfl | rfl | rfl : k = 0 ∨ k = 1 ∨ k = 2 ∨ k = 3 ∨ k = 4 ∨ k = 5 ∨ k = 6 := by omega
  all_goals
    simp only [lowP]
    omega

theorem eidx0 (v r w x u s d : Bool) (W : World) : (Instr.index 111 (.agg #[.bool v, .bool r, .bool w, .bool x, .bool u, .bool s, .bool d]) (.int .i64 0)).run Tryd.prog W = .ok (.bool v) W := by kernel_rfl
theorem eidx1 (v r w x u s d : Bool) (W : World) : (Instr.index 111 (.agg #[.bool v, .bool r, .bool w, .bool x, .bool u, .bool s, .bool d]) (.int .i64 1)).run Tryd.prog W = .ok (.bool r) W := by kernel_rfl
theorem eidx2 (v r w x u s d : Bool) (W : World) : (Instr.index 111 (.agg #[.bool v, .bool r, .bool w, .bool x, .bool u, .bool s, .bool d]) (.int .i64 2)).run Tryd.prog W = .ok (.bool w) W := by kernel_rfl
theorem eidx3 (v r w x u s d : Bool) (W : World) : (Instr.index 111 (.agg #[.bool v, .bool r, .bool w, .bool x, .bool u, .bool s, .bool d]) (.int .i64 3)).run Tryd.prog W = .ok (.bool x) W := by kernel_rfl
theorem eidx4 (v r w x u s d : Bool) (W : World) : (Instr.index 111 (.agg #[.bool v, .bool r, .bool w, .bool x, .bool u, .bool s, .bool d]) (.int .i64 4)).run Tryd.prog W = .ok (.bool u) W := by kernel_rfl
theorem eidx5 (v r w x u s d : Bool) (W : World) : (Instr.index 111 (.agg #[.bool v, .bool r, .bool w, .bool x, .bool u, .bool s, .bool d]) (.int .i64 5)).run Tryd.prog W = .ok (.bool s) W := by kernel_rfl
theorem eidx6 (v r w x u s d : Bool) (W : World) : (Instr.index 111 (.agg #[.bool v, .bool r, .bool w, .bool x, .bool u, .bool s, .bool d]) (.int .i64 6)).run Tryd.prog W = .ok (.bool d) W := by kernel_rfl

theorem pack_any (v r w x u s d : Bool) (f : Int) (W : World) (hT : BT W) :
    Calls Tryd.prog 46 #[ent v r w x u s d f] W fun e W' => e = .returned (.tuple #[.int .u64 (packN v r w x u s d f), .int .i64 (packE v r w x u s d f)]) ∧ Below W.heap.size W W' := by
  have C1 := mayBe_any v r w x u s d f
  have C2 := flags_any v r w x u s d f
  unfold packN packE
  cases hm : mayP v r w x u s d f
  · rw [hm] at C1
    simp only [Bool.false_eq_true, if_false]
    clear hm C2
    unfold ent at *
    go_enter Tryd.func46, Tryd.ntmps46
    go_wp2_with fail
    refine (C1 _).mono ?_
    rintro e w1 ⟨rfl, hb1⟩
    have HB : Hid (Below W.heap.size W w1) := ((Below.refl _ _).alloc (Nat.le_refl _) _).trans (hb1.mono (by simp))
    clear hb1 C1
    go_wp2_with fail
    go_ret2
    exact ⟨rfl, HB.out⟩
  · rw [hm] at C1
    simp only [if_true]
    have hf := may_frame hm
    clear hm
    have w1 : IntKind.u64.wrap f = f := wraps_u64 _ (by omega) (by omega)
    have w2 : IntKind.u64.wrap (f * 1024) = f * 1024 := wraps_u64 _ (by omega) (by omega)
    have HN : Hid (numP v r w x u s d f = lowP v r w x u s d 7 + f * 1024) := (rfl : numP v r w x u s d f = lowP v r w x u s d 7 + f * 1024)
    have i0 := eidx0 v r w x u s d
    have i1 := eidx1 v r w x u s d
    have i2 := eidx2 v r w x u s d
    have i3 := eidx3 v r w x u s d
    have i4 := eidx4 v r w x u s d
    have i5 := eidx5 v r w x u s d
    have i6 := eidx6 v r w x u s d
    unfold ent at *
    go_enter Tryd.func46, Tryd.ntmps46
    go_wp2_with fail
    refine (C1 _).mono ?_
    rintro e wa ⟨rfl, hb1⟩
    have HB : Hid (Below W.heap.size W wa) := ((Below.refl _ _).alloc (Nat.le_refl _) _).trans (hb1.mono (by simp))
    obtain ⟨hcc1, hff1⟩ := bcell hb1
    simp only [World.size_alloc] at hcc1 hff1
    have hs1 : W.heap.size < wa.heap.size := by have := hb1.size; simp at this; omega
    clear hb1 C1
    go_wp2_with fail
    refine (C2 _).mono ?_
    rintro e wb ⟨rfl, hb2⟩
    have HB2 : Hid (Below W.heap.size W wb) := HB.out.trans (hb2.mono (by omega))
    have hT2 := hT.below HB2.out
    obtain ⟨c0, c1, c2, c3, c4, c5, c6, hp⟩ := hT2
    clear hb2 C2 HB hcc1 hff1 hs1
    go_wp2_with fail
    go_loopw [4, 16] (fun n i w' => ∃ k : Nat, k ≤ 7 ∧ i = .int .i64 k ∧ n = .int .u64 (lowP v r w x u s d k + f * 1024) ∧ w' = wb) (fun _ i _ => 7 - (intOf i).toNat)
    case atStart => exact ⟨0, by omega, rfl, by simp [lowP], rfl⟩
    case round =>
      obtain ⟨k, hk, rfl, rfl, rfl⟩ := hrel
      obtain rfl | rfl | rfl | rfl | rfl | rfl | rfl | rfl : k = 0 ∨ k = 1 ∨ k = 2 ∨ k = 3 ∨ k = 4 ∨ k = 5 ∨ k = 6 ∨ k = 7 := by omega
      · have ho := or_flag f (lowP v r w x u s d 0) 0 hf.1 hf.2 (low_range v r w x u s d 0 (by decide)).1 (by decide) (low_range v r w x u s d 0 (by decide)).2
        have e0 : lowP v r w x u s d 1 = lowP v r w x u s d 0 + b2 v * 2 ^ 0 := by simp [lowP]
        have E0 : Hid (lowP v r w x u s d 1 = _) := e0
        clear e0
        simp only [Int.reducePow] at ho
        cases v
        all_goals
          go_wp2
          go_roundw
          case rel => exact ⟨1, by omega, rfl, congrArg _ (by rw [E0.out]; simp [b2]), trivial⟩
          case measure => simp [intOf]
      · have ho := or_flag f (lowP v r w x u s d 1) 1 hf.1 hf.2 (low_range v r w x u s d 1 (by decide)).1 (by decide) (low_range v r w x u s d 1 (by decide)).2
        have e0 : lowP v r w x u s d 2 = lowP v r w x u s d 1 + b2 r * 2 ^ 1 := by simp [lowP]
        have E0 : Hid (lowP v r w x u s d 2 = _) := e0
        clear e0
        simp only [Int.reducePow] at ho
        cases r
        all_goals
          go_wp2
          go_roundw
          case rel => exact ⟨2, by omega, rfl, congrArg _ (by rw [E0.out]; simp [b2]), trivial⟩
          case measure => simp [intOf]
      · have ho := or_flag f (lowP v r w x u s d 2) 2 hf.1 hf.2 (low_range v r w x u s d 2 (by decide)).1 (by decide) (low_range v r w x u s d 2 (by decide)).2
        have e0 : lowP v r w x u s d 3 = lowP v r w x u s d 2 + b2 w * 2 ^ 2 := by simp [lowP]
        have E0 : Hid (lowP v r w x u s d 3 = _) := e0
        clear e0
        simp only [Int.reducePow] at ho
        cases w
        all_goals
          go_wp2
          go_roundw
          case rel => exact ⟨3, by omega, rfl, congrArg _ (by rw [E0.out]; simp [b2]), trivial⟩
          case measure => simp [intOf]
      · have ho := or_flag f (lowP v r w x u s d 3) 3 hf.1 hf.2 (low_range v r w x u s d 3 (by decide)).1 (by decide) (low_range v r w x u s d 3 (by decide)).2
        have e0 : lowP v r w x u s d 4 = lowP v r w x u s d 3 + b2 x * 2 ^ 3 := by simp [lowP]
        have E0 : Hid (lowP v r w x u s d 4 = _) := e0
        clear e0
        simp only [Int.reducePow] at ho
        cases x
        all_goals
          go_wp2
          go_roundw
          case rel => exact ⟨4, by omega, rfl, congrArg _ (by rw [E0.out]; simp [b2]), trivial⟩
          case measure => simp [intOf]
      · have ho := or_flag f (lowP v r w x u s d 4) 4 hf.1 hf.2 (low_range v r w x u s d 4 (by decide)).1 (by decide) (low_range v r w x u s d 4 (by decide)).2
        have e0 : lowP v r w x u s d 5 = lowP v r w x u s d 4 + b2 u * 2 ^ 4 := by simp [lowP]
        have E0 : Hid (lowP v r w x u s d 5 = _) := e0
        clear e0
        simp only [Int.reducePow] at ho
        cases u
        all_goals
          go_wp2
          go_roundw
          case rel => exact ⟨5, by omega, rfl, congrArg _ (by rw [E0.out]; simp [b2]), trivial⟩
          case measure => simp [intOf]
      · have ho := or_flag f (lowP v r w x u s d 5) 5 hf.1 hf.2 (low_range v r w x u s d 5 (by decide)).1 (by decide) (low_range v r w x u s d 5 (by decide)).2
        have e0 : lowP v r w x u s d 6 = lowP v r w x u s d 5 + b2 s * 2 ^ 5 := by simp [lowP]
        have E0 : Hid (lowP v r w x u s d 6 = _) := e0
        clear e0
        simp only [Int.reducePow] at ho
        cases s
        all_goals
          go_wp2
          go_roundw
          case rel => exact ⟨6, by omega, rfl, congrArg _ (by rw [E0.out]; simp [b2]), trivial⟩
          case measure => simp [intOf]
      · have ho := or_flag f (lowP v r w x u s d 6) 6 hf.1 hf.2 (low_range v r w x u s d 6 (by decide)).1 (by decide) (low_range v r w x u s d 6 (by decide)).2
        have e0 : lowP v r w x u s d 7 = lowP v r w x u s d 6 + b2 d * 2 ^ 6 := by simp [lowP]
        have E0 : Hid (lowP v r w x u s d 7 = _) := e0
        clear e0
        simp only [Int.reducePow] at ho
        cases d
        all_goals
          go_wp2
          go_roundw
          case rel => exact ⟨7, by omega, rfl, congrArg _ (by rw [E0.out]; simp [b2]), trivial⟩
          case measure => simp [intOf]
      · go_wp2
        go_ret2
        exact ⟨by rw [HN.out]; rfl, HB2.out⟩

set_option maxHeartbeats 3200000 in
theorem rpack_any (v r w x u s d : Bool) (f : Int) (W : World) :
    Calls Tryd.prog 11 #[ent v r w x u s d f] W fun e W' => e = .returned (.tuple #[.int .u64 (packN v r w x u s d f), .int .i64 (packE v r w x u s d f)]) ∧ Below W.heap.size W W' := by
  have C1 := rmay_any v r w x u s d f
  unfold packN packE
  cases hm : mayP v r w x u s d f
  · rw [hm] at C1
    simp only [Bool.false_eq_true, if_false]
    clear hm
    unfold ent at *
    go_enter Tryd.func11, Tryd.ntmps11
    go_wp2_with fail
    refine (C1 _).mono ?_
    rintro e w1 ⟨rfl, hb1⟩
    have HB : Hid (Below W.heap.size W w1) := ((Below.refl _ _).alloc (Nat.le_refl _) _).trans (hb1.mono (by simp))
    clear hb1 C1
    go_wp2_with fail
    go_ret2
    exact ⟨rfl, HB.out⟩
  · rw [hm] at C1
    simp only [if_true]
    have hf := may_frame hm
    clear hm
    have w1 : IntKind.u64.wrap f = f := wraps_u64 _ (by omega) (by omega)
    have w2 : IntKind.u64.wrap (f * 1024) = f * 1024 := wraps_u64 _ (by omega) (by omega)
    have HN := num_range (v := v) (r := r) (w := w) (x := x) (u := u) (s := s) (d := d) hf.1 hf.2
    have b0 := bit_any v 0 (by decide) (by decide)
    have b1 := bit_any r 1 (by decide) (by decide)
    have b2' := bit_any w 2 (by decide) (by decide)
    have b3 := bit_any x 3 (by decide) (by decide)
    have b4 := bit_any u 4 (by decide) (by decide)
    have b5 := bit_any s 5 (by decide) (by decide)
    have b6 := bit_any d 6 (by decide) (by decide)
    have r0 := b2_range v
    have r1 := b2_range r
    have r2 := b2_range w
    have r3 := b2_range x
    have r4 := b2_range u
    have r5 := b2_range s
    have r6 := b2_range d
    unfold numP at *
    generalize b2 v = z0 at *
    generalize b2 r = z1 at *
    generalize b2 w = z2 at *
    generalize b2 x = z3 at *
    generalize b2 u = z4 at *
    generalize b2 s = z5 at *
    generalize b2 d = z6 at *
    simp only [show ((0 : Int).toNat) = 0 from rfl, show ((1 : Int).toNat) = 1 from rfl, show ((2 : Int).toNat) = 2 from rfl, show ((3 : Int).toNat) = 3 from rfl, show ((4 : Int).toNat) = 4 from rfl, show ((5 : Int).toNat) = 5 from rfl, show ((6 : Int).toNat) = 6 from rfl, Int.reducePow] at b0 b1 b2' b3 b4 b5 b6 ⊢
    simp only [Int.reducePow] at HN
    have k1 : IntKind.u64.wrap (z0 * 1 + z1 * 2) = z0 * 1 + z1 * 2 := wraps_u64 _ (by omega) (by omega)
    have k2 : IntKind.u64.wrap (z0 * 1 + z1 * 2 + z2 * 4) = z0 * 1 + z1 * 2 + z2 * 4 := wraps_u64 _ (by omega) (by omega)
    have k3 : IntKind.u64.wrap (z0 * 1 + z1 * 2 + z2 * 4 + z3 * 8) = z0 * 1 + z1 * 2 + z2 * 4 + z3 * 8 := wraps_u64 _ (by omega) (by omega)
    have k4 : IntKind.u64.wrap (z0 * 1 + z1 * 2 + z2 * 4 + z3 * 8 + z4 * 16) = z0 * 1 + z1 * 2 + z2 * 4 + z3 * 8 + z4 * 16 := wraps_u64 _ (by omega) (by omega)
    have k5 : IntKind.u64.wrap (z0 * 1 + z1 * 2 + z2 * 4 + z3 * 8 + z4 * 16 + z5 * 32) = z0 * 1 + z1 * 2 + z2 * 4 + z3 * 8 + z4 * 16 + z5 * 32 := wraps_u64 _ (by omega) (by omega)
    have k6 : IntKind.u64.wrap (z0 * 1 + z1 * 2 + z2 * 4 + z3 * 8 + z4 * 16 + z5 * 32 + z6 * 64) = z0 * 1 + z1 * 2 + z2 * 4 + z3 * 8 + z4 * 16 + z5 * 32 + z6 * 64 := wraps_u64 _ (by omega) (by omega)
    have k7 : IntKind.u64.wrap (z0 * 1 + z1 * 2 + z2 * 4 + z3 * 8 + z4 * 16 + z5 * 32 + z6 * 64 + f * 1024) = z0 * 1 + z1 * 2 + z2 * 4 + z3 * 8 + z4 * 16 + z5 * 32 + z6 * 64 + f * 1024 := wraps_u64 _ (by omega) (by omega)
    generalize z0 * 1 = z0 at *
    unfold ent at *
    go_enter Tryd.func11, Tryd.ntmps11
    go_wp2_with fail
    refine (C1 _).mono ?_
    rintro e wa ⟨rfl, hb1⟩
    have HB : Hid (Below W.heap.size W wa) := ((Below.refl _ _).alloc (Nat.le_refl _) _).trans (hb1.mono (by simp))
    obtain ⟨hcc1, hff1⟩ := bcell hb1
    simp only [World.size_alloc] at hcc1 hff1
    have hs1 : W.heap.size < wa.heap.size := by have := hb1.size; simp at this; omega
    clear hb1 C1
    go_wp2_with fail
    have hne := above_here wa
    have hab : ∀ (s : Above wa) b o, b < W.heap.size + 1 → s.wld.cell? ⟨b, o, none⟩ = _ := fun s b o h => (s.bel.cell (p := ⟨b, o, none⟩) (by show b < _; omega)).trans (hcc1 b o h)
    refine wp_region_above (by kernel_rfl) (by kernel_rfl) ?_
    repeat (first
      | go_big_quiet_skip
      | (go_big_quiet_want; go_big_quiet_op; go_big_quiet_on))
    (go_big_quiet_want; go_big_quiet_op; apply Exists.intro; refine ⟨fun s => ?_, ?_⟩; exact above_same s (b0 _); go_big_quiet_on)
    repeat (first
      | go_big_quiet_skip
      | (go_big_quiet_want; go_big_quiet_op; go_big_quiet_on))
    (go_big_quiet_want; go_big_quiet_op; apply Exists.intro; refine ⟨fun s => ?_, ?_⟩; exact above_same s (b1 _); go_big_quiet_on)
    repeat (first
      | go_big_quiet_skip
      | (go_big_quiet_want; go_big_quiet_op; go_big_quiet_on))
    (go_big_quiet_want; go_big_quiet_op; apply Exists.intro; refine ⟨fun s => ?_, ?_⟩; exact above_same s (b2' _); go_big_quiet_on)
    repeat (first
      | go_big_quiet_skip
      | (go_big_quiet_want; go_big_quiet_op; go_big_quiet_on))
    (go_big_quiet_want; go_big_quiet_op; apply Exists.intro; refine ⟨fun s => ?_, ?_⟩; exact above_same s (b3 _); go_big_quiet_on)
    repeat (first
      | go_big_quiet_skip
      | (go_big_quiet_want; go_big_quiet_op; go_big_quiet_on))
    (go_big_quiet_want; go_big_quiet_op; apply Exists.intro; refine ⟨fun s => ?_, ?_⟩; exact above_same s (b4 _); go_big_quiet_on)
    repeat (first
      | go_big_quiet_skip
      | (go_big_quiet_want; go_big_quiet_op; go_big_quiet_on))
    (go_big_quiet_want; go_big_quiet_op; apply Exists.intro; refine ⟨fun s => ?_, ?_⟩; exact above_same s (b5 _); go_big_quiet_on)
    repeat (first
      | go_big_quiet_skip
      | (go_big_quiet_want; go_big_quiet_op; go_big_quiet_on))
    (go_big_quiet_want; go_big_quiet_op; apply Exists.intro; refine ⟨fun s => ?_, ?_⟩; exact above_same s (b6 _); go_big_quiet_on)
    repeat (first
      | go_big_quiet_skip
      | (go_big_quiet_want; go_big_quiet_op; go_big_quiet_on))
    refine wpQuiet_nil ?_
    rintro _ ⟨s, rfl⟩
    have HB2 : Hid (Below W.heap.size W s.wld) := HB.out.trans (s.bel.mono (by omega))
    go_wp2_with fail
    go_ret2
    exact ⟨rfl, HB2.out⟩
end Go.Proofs.YtbaagnfcdphddaaDoor
