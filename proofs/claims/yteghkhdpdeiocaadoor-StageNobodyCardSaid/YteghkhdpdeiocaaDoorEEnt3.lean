/-
  What Pack and the document's Pack tell: their contracts, over the table of bits as it is laid.
-/
import Derived.Test.YteghkhdpdeiocaaDoorEEnt2
namespace Go.Proofs.YteghkhdpdeiocaaDoor.E
open Go.RowKit
set_option linter.unusedVariables false
set_option maxRecDepth 100000

/-- the table of bits -/
structure BT [Bits] (w : World) : Prop where
  c0 : w.cell? ⟨0, 0, none⟩ = some (.int .u64 (Bits.b 0))
  c1 : w.cell? ⟨0, 1, none⟩ = some (.int .u64 (Bits.b 1))
  c2 : w.cell? ⟨0, 2, none⟩ = some (.int .u64 (Bits.b 2))
  c3 : w.cell? ⟨0, 3, none⟩ = some (.int .u64 (Bits.b 3))
  c4 : w.cell? ⟨0, 4, none⟩ = some (.int .u64 (Bits.b 4))
  c5 : w.cell? ⟨0, 5, none⟩ = some (.int .u64 (Bits.b 5))
  c6 : w.cell? ⟨0, 6, none⟩ = some (.int .u64 (Bits.b 6))
  pos : 0 < w.heap.size
theorem BT.below [Bits] {w w' : World} (h : BT w) (hb : Below w.heap.size w w') : BT w' := by
  have hp := h.pos
  have e : ∀ k, w'.cell? ⟨0, k, none⟩ = w.cell? ⟨0, k, none⟩ := fun k => hb.cell (p := ⟨0, k, none⟩) hp
  exact ⟨(e 0).trans h.c0, (e 1).trans h.c1, (e 2).trans h.c2, (e 3).trans h.c3, (e 4).trans h.c4, (e 5).trans h.c5, (e 6).trans h.c6, Nat.lt_of_lt_of_le hp hb.size⟩

/-- the number so far -/
def lowP [Bits] (v r w x u s d : Bool) (a : Int) : Nat → Int
  | 0 => a
  | 1 => orP a v 0
  | 2 => orP (orP a v 0) r 1
  | 3 => orP (orP (orP a v 0) r 1) w 2
  | 4 => orP (orP (orP (orP a v 0) r 1) w 2) x 3
  | 5 => orP (orP (orP (orP (orP a v 0) r 1) w 2) x 3) u 4
  | 6 => orP (orP (orP (orP (orP (orP a v 0) r 1) w 2) x 3) u 4) s 5
  | _ => orP (orP (orP (orP (orP (orP (orP a v 0) r 1) w 2) x 3) u 4) s 5) d 6
theorem eidx0 (v r w x u s d : Bool) (W : World) : (Instr.index 171 (.agg #[.bool v, .bool r, .bool w, .bool x, .bool u, .bool s, .bool d]) (.int .i64 0)).run Tryd.prog W = .ok (.bool v) W := by kernel_rfl
theorem eidx1 (v r w x u s d : Bool) (W : World) : (Instr.index 171 (.agg #[.bool v, .bool r, .bool w, .bool x, .bool u, .bool s, .bool d]) (.int .i64 1)).run Tryd.prog W = .ok (.bool r) W := by kernel_rfl
theorem eidx2 (v r w x u s d : Bool) (W : World) : (Instr.index 171 (.agg #[.bool v, .bool r, .bool w, .bool x, .bool u, .bool s, .bool d]) (.int .i64 2)).run Tryd.prog W = .ok (.bool w) W := by kernel_rfl
theorem eidx3 (v r w x u s d : Bool) (W : World) : (Instr.index 171 (.agg #[.bool v, .bool r, .bool w, .bool x, .bool u, .bool s, .bool d]) (.int .i64 3)).run Tryd.prog W = .ok (.bool x) W := by kernel_rfl
theorem eidx4 (v r w x u s d : Bool) (W : World) : (Instr.index 171 (.agg #[.bool v, .bool r, .bool w, .bool x, .bool u, .bool s, .bool d]) (.int .i64 4)).run Tryd.prog W = .ok (.bool u) W := by kernel_rfl
theorem eidx5 (v r w x u s d : Bool) (W : World) : (Instr.index 171 (.agg #[.bool v, .bool r, .bool w, .bool x, .bool u, .bool s, .bool d]) (.int .i64 5)).run Tryd.prog W = .ok (.bool s) W := by kernel_rfl
theorem eidx6 (v r w x u s d : Bool) (W : World) : (Instr.index 171 (.agg #[.bool v, .bool r, .bool w, .bool x, .bool u, .bool s, .bool d]) (.int .i64 6)).run Tryd.prog W = .ok (.bool d) W := by kernel_rfl

theorem pack_any [Bits] (v r w x u s d : Bool) (f : Int) (W : World) (hT : BT W) :
    Calls Tryd.prog 81 #[ent v r w x u s d f] W fun e W' => e = .returned (.tuple #[.int .u64 (packN v r w x u s d f), .int .i64 (packE v r w x u s d f)]) ∧ Below W.heap.size W W' := by
  have C1 := mayBe_any v r w x u s d f
  have C2 := flags_any v r w x u s d f
  unfold packN packE
  cases hm : mayP v r w x u s d f
  · rw [hm] at C1
    simp only [Bool.false_eq_true, if_false]
    clear hm C2
    unfold ent at *
    go_enter Tryd.func81, Tryd.ntmps81
    go_wp2_with fail
    refine (C1 _).mono ?_
    rintro e w1 ⟨rfl, hb1⟩
    have HB : Hid (Below W.heap.size W w1) := ((Below.refl _ _).alloc (Nat.le_refl _) _).trans (hb1.mono (by simp))
    clear hb1 C1
    go_wp2_with fail
    go_ret2
    exact ⟨rfl, HB.out⟩
  · rw [hm] at C1
    simp only [if_true]
    have hf := may_frame hm
    clear hm
    have w1 : IntKind.u64.wrap f = f := wraps_u64 _ (by omega) (by omega)
    have w2 : IntKind.u64.wrap (f * 1024) = f * 1024 := wraps_u64 _ (by omega) (by omega)
    have HN : Hid (numP v r w x u s d f = lowP v r w x u s d (f * 1024) 7) := (rfl : numP v r w x u s d f = lowP v r w x u s d (f * 1024) 7)
    have lo := Bits.lo
    have l0 := lo 0
    have l1 := lo 1
    have l2 := lo 2
    have l3 := lo 3
    have l4 := lo 4
    have l5 := lo 5
    have l6 := lo 6
    clear lo
    have i0 := eidx0 v r w x u s d
    have i1 := eidx1 v r w x u s d
    have i2 := eidx2 v r w x u s d
    have i3 := eidx3 v r w x u s d
    have i4 := eidx4 v r w x u s d
    have i5 := eidx5 v r w x u s d
    have i6 := eidx6 v r w x u s d
    unfold ent at *
    go_enter Tryd.func81, Tryd.ntmps81
    go_wp2_with fail
    refine (C1 _).mono ?_
    rintro e wa ⟨rfl, hb1⟩
    have HB : Hid (Below W.heap.size W wa) := ((Below.refl _ _).alloc (Nat.le_refl _) _).trans (hb1.mono (by simp))
    obtain ⟨hcc1, hff1⟩ := bcell hb1
    simp only [World.size_alloc] at hcc1 hff1
    have hs1 : W.heap.size < wa.heap.size := by have := hb1.size; simp at this; omega
    clear hb1 C1
    go_wp2_with fail
    refine (C2 _).mono ?_
    rintro e wb ⟨rfl, hb2⟩
    have HB2 : Hid (Below W.heap.size W wb) := HB.out.trans (hb2.mono (by omega))
    have hT2 := hT.below HB2.out
    obtain ⟨c0, c1, c2, c3, c4, c5, c6, hp⟩ := hT2
    clear hb2 C2 HB hcc1 hff1 hs1
    go_wp2_with fail
    go_loopw [4, 16] (fun n i w' => ∃ k : Nat, k ≤ 7 ∧ i = .int .i64 k ∧ n = .int .u64 (lowP v r w x u s d (f * 1024) k) ∧ w' = wb) (fun _ i _ => 7 - (intOf i).toNat)
    case atStart => exact ⟨0, by omega, rfl, by simp [lowP], rfl⟩
    case round =>
      obtain ⟨k, hk, rfl, rfl, rfl⟩ := hrel
      obtain rfl | rfl | rfl | rfl | rfl | rfl | rfl | rfl : k = 0 ∨ k = 1 ∨ k = 2 ∨ k = 3 ∨ k = 4 ∨ k = 5 ∨ k = 6 ∨ k = 7 := by omega
      · have E0 : Hid (lowP v r w x u s d (f * 1024) 1 = orP (lowP v r w x u s d (f * 1024) 0) v 0) := (rfl : lowP v r w x u s d (f * 1024) 1 = orP (lowP v r w x u s d (f * 1024) 0) v 0)
        generalize lowP v r w x u s d (f * 1024) 0 = acc at *
        cases v
        all_goals
          go_wp2
          go_roundw
          case rel => exact ⟨1, by omega, rfl, congrArg _ (by rw [E0.out]; simp [orP]), trivial⟩
          case measure => simp [intOf]
      · have E0 : Hid (lowP v r w x u s d (f * 1024) 2 = orP (lowP v r w x u s d (f * 1024) 1) r 1) := (rfl : lowP v r w x u s d (f * 1024) 2 = orP (lowP v r w x u s d (f * 1024) 1) r 1)
        generalize lowP v r w x u s d (f * 1024) 1 = acc at *
        cases r
        all_goals
          go_wp2
          go_roundw
          case rel => exact ⟨2, by omega, rfl, congrArg _ (by rw [E0.out]; simp [orP]), trivial⟩
          case measure => simp [intOf]
      · have E0 : Hid (lowP v r w x u s d (f * 1024) 3 = orP (lowP v r w x u s d (f * 1024) 2) w 2) := (rfl : lowP v r w x u s d (f * 1024) 3 = orP (lowP v r w x u s d (f * 1024) 2) w 2)
        generalize lowP v r w x u s d (f * 1024) 2 = acc at *
        cases w
        all_goals
          go_wp2
          go_roundw
          case rel => exact ⟨3, by omega, rfl, congrArg _ (by rw [E0.out]; simp [orP]), trivial⟩
          case measure => simp [intOf]
      · have E0 : Hid (lowP v r w x u s d (f * 1024) 4 = orP (lowP v r w x u s d (f * 1024) 3) x 3) := (rfl : lowP v r w x u s d (f * 1024) 4 = orP (lowP v r w x u s d (f * 1024) 3) x 3)
        generalize lowP v r w x u s d (f * 1024) 3 = acc at *
        cases x
        all_goals
          go_wp2
          go_roundw
          case rel => exact ⟨4, by omega, rfl, congrArg _ (by rw [E0.out]; simp [orP]), trivial⟩
          case measure => simp [intOf]
      · have E0 : Hid (lowP v r w x u s d (f * 1024) 5 = orP (lowP v r w x u s d (f * 1024) 4) u 4) := (rfl : lowP v r w x u s d (f * 1024) 5 = orP (lowP v r w x u s d (f * 1024) 4) u 4)
        generalize lowP v r w x u s d (f * 1024) 4 = acc at *
        cases u
        all_goals
          go_wp2
          go_roundw
          case rel => exact ⟨5, by omega, rfl, congrArg _ (by rw [E0.out]; simp [orP]), trivial⟩
          case measure => simp [intOf]
      · have E0 : Hid (lowP v r w x u s d (f * 1024) 6 = orP (lowP v r w x u s d (f * 1024) 5) s 5) := (rfl : lowP v r w x u s d (f * 1024) 6 = orP (lowP v r w x u s d (f * 1024) 5) s 5)
        generalize lowP v r w x u s d (f * 1024) 5 = acc at *
        cases s
        all_goals
          go_wp2
          go_roundw
          case rel => exact ⟨6, by omega, rfl, congrArg _ (by rw [E0.out]; simp [orP]), trivial⟩
          case measure => simp [intOf]
      · have E0 : Hid (lowP v r w x u s d (f * 1024) 7 = orP (lowP v r w x u s d (f * 1024) 6) d 6) := (rfl : lowP v r w x u s d (f * 1024) 7 = orP (lowP v r w x u s d (f * 1024) 6) d 6)
        generalize lowP v r w x u s d (f * 1024) 6 = acc at *
        cases d
        all_goals
          go_wp2
          go_roundw
          case rel => exact ⟨7, by omega, rfl, congrArg _ (by rw [E0.out]; simp [orP]), trivial⟩
          case measure => simp [intOf]
      · go_wp2
        go_ret2
        exact ⟨by rw [HN.out]; rfl, HB2.out⟩

end Go.Proofs.YteghkhdpdeiocaaDoor.E
