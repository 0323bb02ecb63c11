/-
  What the document's Pack tells of an entry that may be.
-/
import Derived.Test.YteghkhdpdeiocaaDoorGD
namespace Go.Proofs.YteghkhdpdeiocaaDoor.E
open Go.RowKit
set_option linter.unusedVariables false
set_option maxRecDepth 100000
theorem bit_any (b : Bool) (n : Int) (h0 : 0 ≤ n) (h1 : n < 7) (W : World) :
    Calls Tryd.prog 103 #[.bool b, .int .i64 n] W fun e W' => e = .returned (.int .u64 (b2 b * 2 ^ n.toNat)) ∧ W' = W := by
  cases b
  · go_enter Tryd.func103, Tryd.ntmps103
    go_wp2
    go_ret
    exact ⟨by simp [b2], rfl⟩
  · obtain rfl | rfl | rfl | rfl | rfl | rfl | rfl : n = 0 ∨ n = 1 ∨ n = 2 ∨ n = 3 ∨ n = 4 ∨ n = 5 ∨ n = 6 := by omega
    all_goals
      go_enter Tryd.func103, Tryd.ntmps103
      go_wp2
      go_ret
      exact ⟨rfl, rfl⟩

set_option maxHeartbeats 3200000 in
theorem rmay_any (v r w x u s d : Bool) (f : Int) (W : World) :
    Calls Tryd.prog 102 #[ent v r w x u s d f] W fun e W' => e = .returned (.bool (mayP v r w x u s d f)) ∧ Below W.heap.size W W' := by
  cases v
  · have e : mayP false r w x u s d f = (!r && !w && !x && !u && !s && !d && decide (f = 0)) := rfl
    rw [e]
    clear e
    unfold ent
    go_enter Tryd.func102, Tryd.ntmps102
    go_wp2
    all_goals
      go_ret
      refine ⟨ret_bool ?_, (Below.refl _ _).alloc (Nat.le_refl _) _⟩
      simp_all
  · by_cases hf : 0 ≤ f ∧ f < 65536
    · have e : mayP true r w x u s d f = ((!w || r) && (r || x || (!u && !s && !d))) := by simp [mayP, hf]
      rw [e]
      clear e
      obtain ⟨hf0, hf1⟩ := hf
      unfold ent
      cases w <;> cases r <;> cases x <;> cases u <;> cases s
      all_goals
        go_enter Tryd.func102, Tryd.ntmps102
        go_wp2
        go_ret
        exact ⟨ret_bool (by simp), (Below.refl _ _).alloc (Nat.le_refl _) _⟩
    · rw [may_out _ _ _ _ _ _ _ _ hf]
      unfold ent
      go_enter Tryd.func102, Tryd.ntmps102
      go_wp2
      all_goals
        go_ret
        refine ⟨ret_bool ?_, (Below.refl _ _).alloc (Nat.le_refl _) _⟩
        first
          | rfl
          | (exfalso; omega)
/-- the document's number of an entry -/
def numD (v r w x u s d : Bool) (f : Int) : Int := b2 v * 2 ^ 0 + b2 r * 2 ^ 1 + b2 w * 2 ^ 2 + b2 x * 2 ^ 3 + b2 u * 2 ^ 4 + b2 s * 2 ^ 5 + b2 d * 2 ^ 6 + f * 1024
set_option maxHeartbeats 3200000 in
theorem rpack_yes (v r w x u s d : Bool) (f : Int) (hm : mayP v r w x u s d f = true) (W : World) :
    Calls Tryd.prog 89 #[ent v r w x u s d f] W fun e W' => e = .returned (.tuple #[.int .u64 (numD v r w x u s d f), .int .i64 0]) ∧ Below W.heap.size W W' := by
  have C1 := rmay_any v r w x u s d f
  rw [hm] at C1
  have hf := may_frame hm
  clear hm
  have w1 : IntKind.u64.wrap f = f := wraps_u64 _ (by omega) (by omega)
  have w2 : IntKind.u64.wrap (f * 1024) = f * 1024 := wraps_u64 _ (by omega) (by omega)
  have b0 := bit_any v 0 (by decide) (by decide)
  have b1 := bit_any r 1 (by decide) (by decide)
  have b2' := bit_any w 2 (by decide) (by decide)
  have b3 := bit_any x 3 (by decide) (by decide)
  have b4 := bit_any u 4 (by decide) (by decide)
  have b5 := bit_any s 5 (by decide) (by decide)
  have b6 := bit_any d 6 (by decide) (by decide)
  have r0 := b2_range v
  have r1 := b2_range r
  have r2 := b2_range w
  have r3 := b2_range x
  have r4 := b2_range u
  have r5 := b2_range s
  have r6 := b2_range d
  unfold numD
  generalize b2 v = z0 at *
  generalize b2 r = z1 at *
  generalize b2 w = z2 at *
  generalize b2 x = z3 at *
  generalize b2 u = z4 at *
  generalize b2 s = z5 at *
  generalize b2 d = z6 at *
  simp only [show ((0 : Int).toNat) = 0 from rfl, show ((1 : Int).toNat) = 1 from rfl, show ((2 : Int).toNat) = 2 from rfl, show ((3 : Int).toNat) = 3 from rfl, show ((4 : Int).toNat) = 4 from rfl, show ((5 : Int).toNat) = 5 from rfl, show ((6 : Int).toNat) = 6 from rfl, Int.reducePow] at b0 b1 b2' b3 b4 b5 b6 ⊢
  have k1 : IntKind.u64.wrap (z0 * 1 + z1 * 2) = z0 * 1 + z1 * 2 := wraps_u64 _ (by omega) (by omega)
  have k2 : IntKind.u64.wrap (z0 * 1 + z1 * 2 + z2 * 4) = z0 * 1 + z1 * 2 + z2 * 4 := wraps_u64 _ (by omega) (by omega)
  have k3 : IntKind.u64.wrap (z0 * 1 + z1 * 2 + z2 * 4 + z3 * 8) = z0 * 1 + z1 * 2 + z2 * 4 + z3 * 8 := wraps_u64 _ (by omega) (by omega)
  have k4 : IntKind.u64.wrap (z0 * 1 + z1 * 2 + z2 * 4 + z3 * 8 + z4 * 16) = z0 * 1 + z1 * 2 + z2 * 4 + z3 * 8 + z4 * 16 := wraps_u64 _ (by omega) (by omega)
  have k5 : IntKind.u64.wrap (z0 * 1 + z1 * 2 + z2 * 4 + z3 * 8 + z4 * 16 + z5 * 32) = z0 * 1 + z1 * 2 + z2 * 4 + z3 * 8 + z4 * 16 + z5 * 32 := wraps_u64 _ (by omega) (by omega)
  have k6 : IntKind.u64.wrap (z0 * 1 + z1 * 2 + z2 * 4 + z3 * 8 + z4 * 16 + z5 * 32 + z6 * 64) = z0 * 1 + z1 * 2 + z2 * 4 + z3 * 8 + z4 * 16 + z5 * 32 + z6 * 64 := wraps_u64 _ (by omega) (by omega)
  have k7 : IntKind.u64.wrap (z0 * 1 + z1 * 2 + z2 * 4 + z3 * 8 + z4 * 16 + z5 * 32 + z6 * 64 + f * 1024) = z0 * 1 + z1 * 2 + z2 * 4 + z3 * 8 + z4 * 16 + z5 * 32 + z6 * 64 + f * 1024 := wraps_u64 _ (by omega) (by omega)
  generalize z0 * 1 = z0 at *
  unfold ent at *
  go_enter Tryd.func89, Tryd.ntmps89
  go_wp2_with fail
  refine (C1 _).mono ?_
  rintro e wa ⟨rfl, hb1⟩
  have HB : Hid (Below W.heap.size W wa) := ((Below.refl _ _).alloc (Nat.le_refl _) _).trans (hb1.mono (by simp))
  obtain ⟨hcc1, hff1⟩ := bcell hb1
  simp only [World.size_alloc] at hcc1 hff1
  have hs1 : W.heap.size < wa.heap.size := by have := hb1.size; simp at this; omega
  clear hb1 C1
  go_wp2_with fail
  have hne := above_here wa
  have hab : ∀ (s : Above wa) b o, b < W.heap.size + 1 → s.wld.cell? ⟨b, o, none⟩ = _ := fun s b o h => (s.bel.cell (p := ⟨b, o, none⟩) (by show b < _; omega)).trans (hcc1 b o h)
  refine wp_region_above (by kernel_rfl) (by kernel_rfl) ?_
  repeat (first
    | go_big_quiet_skip
    | (go_big_quiet_want; go_big_quiet_op; go_big_quiet_on))
  (go_big_quiet_want; go_big_quiet_op; apply Exists.intro; refine ⟨fun s => ?_, ?_⟩; exact above_same s (b0 _); go_big_quiet_on)
  repeat (first
    | go_big_quiet_skip
    | (go_big_quiet_want; go_big_quiet_op; go_big_quiet_on))
  (go_big_quiet_want; go_big_quiet_op; apply Exists.intro; refine ⟨fun s => ?_, ?_⟩; exact above_same s (b1 _); go_big_quiet_on)
  repeat (first
    | go_big_quiet_skip
    | (go_big_quiet_want; go_big_quiet_op; go_big_quiet_on))
  (go_big_quiet_want; go_big_quiet_op; apply Exists.intro; refine ⟨fun s => ?_, ?_⟩; exact above_same s (b2' _); go_big_quiet_on)
  repeat (first
    | go_big_quiet_skip
    | (go_big_quiet_want; go_big_quiet_op; go_big_quiet_on))
  (go_big_quiet_want; go_big_quiet_op; apply Exists.intro; refine ⟨fun s => ?_, ?_⟩; exact above_same s (b3 _); go_big_quiet_on)
  repeat (first
    | go_big_quiet_skip
    | (go_big_quiet_want; go_big_quiet_op; go_big_quiet_on))
  (go_big_quiet_want; go_big_quiet_op; apply Exists.intro; refine ⟨fun s => ?_, ?_⟩; exact above_same s (b4 _); go_big_quiet_on)
  repeat (first
    | go_big_quiet_skip
    | (go_big_quiet_want; go_big_quiet_op; go_big_quiet_on))
  (go_big_quiet_want; go_big_quiet_op; apply Exists.intro; refine ⟨fun s => ?_, ?_⟩; exact above_same s (b5 _); go_big_quiet_on)
  repeat (first
    | go_big_quiet_skip
    | (go_big_quiet_want; go_big_quiet_op; go_big_quiet_on))
  (go_big_quiet_want; go_big_quiet_op; apply Exists.intro; refine ⟨fun s => ?_, ?_⟩; exact above_same s (b6 _); go_big_quiet_on)
  repeat (first
    | go_big_quiet_skip
    | (go_big_quiet_want; go_big_quiet_op; go_big_quiet_on))
  refine wpQuiet_nil ?_
  rintro _ ⟨s, rfl⟩
  have HB2 : Hid (Below W.heap.size W s.wld) := HB.out.trans (s.bel.mono (by omega))
  go_wp2_with fail
  go_ret2
  exact ⟨rfl, HB2.out⟩
end Go.Proofs.YteghkhdpdeiocaaDoor.E
