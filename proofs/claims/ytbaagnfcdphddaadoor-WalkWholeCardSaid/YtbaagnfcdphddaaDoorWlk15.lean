/-
  What Two tells: its contract.
-/
import Derived.Test.YtbaagnfcdphddaaDoorWlk14
import Derived.Test.YtbaagnfcdphddaaDoorWlk2
namespace Go.Proofs.YtbaagnfcdphddaaDoor
open Go.RowKit
set_option linter.unusedVariables false
set_option maxRecDepth 20000

/-- P6.2: what Two tells -/
def twoP (zs : List Int) (first second t a : Int) (u : Bool) : Fr :=
  match firstP zs first second t a u with
  | .no c v g => .no c v g
  | .ok f r w x k l => match oneP zs second (f * 256 + t % 256) a true with
    | none => .no (faultP a 20 21 23) t (f * 256 + t % 256)
    | some e => .ok e.f (r && e.r) (w && e.w) (x && e.x) k (wrap64 (l + 2))

theorem firstP_no {zs : List Int} {first second t a c v g : Int} {u : Bool} (h : firstP zs first second t a u = .no c v g) : c ≠ 0 := by
  unfold firstP at h
  split at h
  · split at h
    · cases h
    · cases h; exact fault_ne a
  · split at h
    · cases h
    · rename_i hn; cases h; exact walkR_no (fun f p c v g h => fsR_no h) hn
theorem firstP_frame {zs : List Int} {first second t a f l : Int} {u r w x k : Bool} (h0 : 0 ≤ t) (h : firstP zs first second t a u = .ok f r w x k l) : 0 ≤ f ∧ f < 65536 := by
  unfold firstP at h
  split at h
  · split at h
    · cases h; omega
    · cases h
  · split at h
    · rename_i hn; cases h; exact walkR_frame (fun f p e h => fsR_frame h) hn
    · cases h

set_option maxHeartbeats 1600000 in
theorem two_no_first (t a : Int) (u : Bool) (first second : Int) (b g : Nat) (zs : List Int) (h0 : 0 ≤ t) (h1 : t < 18446744073709551616) (hr1 : first < 9223372036854775808) (hs1 : second < 9223372036854775808) (c v g' : Int) (hz : firstP zs first second t a u = .no c v g') (W : World) (hS : St W b g zs) :
    Calls Tryd.prog 6 #[.iface 26 (.pointer (some ⟨b, 0, none⟩)), .int .i64 first, .int .i64 second, .int .u64 t, .int .i64 a, .bool u] W fun e W' => e = .returned (Fr.no c v g').val ∧ Below W.heap.size W W' := by
  have C := fun w h => first_any t a u first second b g zs h0 h1 hr1 hs1 w h
  have hx : ¬ c = 0 := firstP_no hz
  rw [hz] at C
  have HS : Hid (St W b g zs) := hS
  clear hS hz
  unfold Fr.val trapV askV foundV at *
  simp only at C ⊢
  go_enter Tryd.func6, Tryd.ntmps6
  go_wp2_with fail
  refine (C _ (HS.out.below ((((Below.refl _ _).alloc (Nat.le_refl _) _).alloc (by simp) _).alloc (by simp <;> omega) _))).mono ?_
  rintro e w1 ⟨rfl, hb1⟩
  have HB : Hid (Below W.heap.size W w1) := ((((Below.refl _ _).alloc (Nat.le_refl _) _).alloc (by simp) _).alloc (by simp <;> omega) _).trans (hb1.mono (by simp <;> omega))
  obtain ⟨n0, o0⟩ := bel_cell hb1 (b := W.heap.size) (by simp <;> omega)
  obtain ⟨n1, o1⟩ := bel_cell hb1 (b := W.heap.size + 1) (by simp)
  have hs1 : W.heap.size + 1 < w1.heap.size := by have := hb1.size; simp at this; omega
  have hs0 : W.heap.size < w1.heap.size := by omega
  clear hb1 C
  go_wp2_with fail
  go_region
  all_goals go_wp2_with fail
  refine bodyPost_ret (v := _) ?h1 rfl ⟨rfl, (((below_set63 HB.out (Nat.le_refl _) (by omega) _ _ _ _ _ _ _ _ _).alloc (by simp <;> omega) _).alloc (by simp <;> omega) _).drew⟩
  case h1 => simp [results, Tryd.results6, go_sem, n0, n1, hs0, hs1, Nat.lt_succ_of_lt hs0, show W.heap.size < W.heap.size + 1 + 1 from by omega]

set_option maxHeartbeats 1600000 in
theorem two_no_second (t a : Int) (u : Bool) (first second : Int) (b g : Nat) (zs : List Int) (h0 : 0 ≤ t) (h1 : t < 18446744073709551616) (hr1 : first < 9223372036854775808) (hs1 : second < 9223372036854775808) (f l : Int) (r w x k : Bool) (hz : firstP zs first second t a u = .ok f r w x k l) (hn : oneP zs second (f * 256 + t % 256) a true = none) (W : World) (hS : St W b g zs) :
    Calls Tryd.prog 6 #[.iface 26 (.pointer (some ⟨b, 0, none⟩)), .int .i64 first, .int .i64 second, .int .u64 t, .int .i64 a, .bool u] W fun e W' => e = .returned (Fr.no (faultP a 20 21 23) t (f * 256 + t % 256)).val ∧ Below W.heap.size W W' := by
  have C := fun w h => first_any t a u first second b g zs h0 h1 hr1 hs1 w h
  have hf := firstP_frame h0 hz
  have C2 := fun w h => second_any (f * 256 + t % 256) a second b g zs (by omega) (by omega) hs1 w h
  have C3 := beyond_any t a (f * 256 + t % 256) u
  have w1 : IntKind.u64.wrap f = f := wraps_u64 _ (by omega) (by omega)
  have w2 : IntKind.u64.wrap (f * 256) = f * 256 := wraps_u64 _ (by omega) (by omega)
  have w3 : IntKind.u64.wrap (f * 256 + t % 256) = f * 256 + t % 256 := wraps_u64 _ (by omega) (by omega)
  rw [hz] at C
  rw [hn] at C2
  have HS : Hid (St W b g zs) := hS
  clear hS hz hn
  unfold Fr.val trapV askV oneV foundV at *
  simp only at C C2 C3 ⊢
  generalize faultP a 20 21 23 = y at *
  go_enter Tryd.func6, Tryd.ntmps6
  go_wp2_with fail
  refine (C _ (HS.out.below ((((Below.refl _ _).alloc (Nat.le_refl _) _).alloc (by simp) _).alloc (by simp <;> omega) _))).mono ?_
  rintro e w1 ⟨rfl, hb1⟩
  have HB : Hid (Below W.heap.size W w1) := ((((Below.refl _ _).alloc (Nat.le_refl _) _).alloc (by simp) _).alloc (by simp <;> omega) _).trans (hb1.mono (by simp <;> omega))
  obtain ⟨n0, o0⟩ := bel_cell hb1 (b := W.heap.size) (by simp <;> omega)
  obtain ⟨n1, o1⟩ := bel_cell hb1 (b := W.heap.size + 1) (by simp <;> omega)
  obtain ⟨n2, o2⟩ := bel_cell hb1 (b := W.heap.size + 1 + 1) (by simp)
  have hs2 : W.heap.size + 1 + 1 < w1.heap.size := by have := hb1.size; simp at this; omega
  clear hb1 C
  go_wp2_with fail
  refine (C2 _ (HS.out.below ((HB.out.alloc (by omega) _).alloc (by simp <;> omega) _))).mono ?_
  rintro e wb ⟨rfl, hb2⟩
  have HB2 : Hid (Below W.heap.size W wb) := ((HB.out.alloc (by omega) _).alloc (by simp <;> omega) _).trans (hb2.mono (by simp <;> omega))
  have HC2 : Hid (Below w1.heap.size w1 wb) := (((Below.refl _ _).alloc (Nat.le_refl _) _).alloc (by simp) _).trans (hb2.mono (by simp <;> omega))
  obtain ⟨p2, q2⟩ := bel_cell HC2.out hs2
  have ht2 : W.heap.size + 1 + 1 < wb.heap.size := by have := hb2.size; simp at this; omega
  have ht3 : w1.heap.size < wb.heap.size := by have := hb2.size; simp at this; omega
  clear hb2 C2 HB
  go_wp2_with fail
  refine (C3 _).mono ?_
  rintro e wc ⟨rfl, hb3⟩
  have HB3 : Hid (Below W.heap.size W wc) := (HB2.out.alloc (by omega) _).trans (hb3.mono (by simp <;> omega))
  have HC3 : Below w1.heap.size w1 wc := (HC2.out.alloc (by omega) _).trans (hb3.mono (by simp <;> omega))
  obtain ⟨k0, l0⟩ := bel_cell HC3 (b := W.heap.size) (by omega)
  obtain ⟨k1, l1⟩ := bel_cell HC3 (b := W.heap.size + 1) (by omega)
  have hu1 : W.heap.size + 1 < wc.heap.size := by have := hb3.size; simp at this; omega
  clear hb3 HC3 C3 HC2 HB2 p2 q2
  go_wp2_with fail
  refine bodyPost_ret (v := _) ?h1 rfl ⟨rfl, below_set63 HB3.out (Nat.le_refl _) (by omega) _ _ _ _ _ _ _ _ _⟩
  case h1 => simp [results, Tryd.results6, go_sem, k0, k1, n0, n1, show W.heap.size < W.heap.size + 1 + 1 from by omega]

set_option maxHeartbeats 1600000 in
theorem two_found (t a : Int) (u : Bool) (first second : Int) (b g : Nat) (zs : List Int) (h0 : 0 ≤ t) (h1 : t < 18446744073709551616) (hr1 : first < 9223372036854775808) (hs1 : second < 9223372036854775808) (f l : Int) (r w x k : Bool) (hz : firstP zs first second t a u = .ok f r w x k l) (E : En) (hn : oneP zs second (f * 256 + t % 256) a true = some E) (W : World) (hS : St W b g zs) :
    Calls Tryd.prog 6 #[.iface 26 (.pointer (some ⟨b, 0, none⟩)), .int .i64 first, .int .i64 second, .int .u64 t, .int .i64 a, .bool u] W fun e W' => e = .returned (Fr.ok E.f (r && E.r) (w && E.w) (x && E.x) k (wrap64 (l + 2))).val ∧ Below W.heap.size W W' := by
  have C := fun w h => first_any t a u first second b g zs h0 h1 hr1 hs1 w h
  have hf := firstP_frame h0 hz
  have C2 := fun w h => second_any (f * 256 + t % 256) a second b g zs (by omega) (by omega) hs1 w h
  have C3 := both_any f E.f l 2 r w x k E.r E.w E.x E.u
  have w1 : IntKind.u64.wrap f = f := wraps_u64 _ (by omega) (by omega)
  have w2 : IntKind.u64.wrap (f * 256) = f * 256 := wraps_u64 _ (by omega) (by omega)
  have w3 : IntKind.u64.wrap (f * 256 + t % 256) = f * 256 + t % 256 := wraps_u64 _ (by omega) (by omega)
  rw [hz] at C
  rw [hn] at C2
  have HS : Hid (St W b g zs) := hS
  clear hS hz hn
  obtain ⟨xv, xr, xw, xx, xu, xs, xd, xf⟩ := E
  unfold Fr.val trapV askV oneV foundV at *
  simp only at C C2 C3 ⊢
  generalize (r && xr) = y1 at *
  generalize (w && xw) = y2 at *
  generalize (x && xx) = y3 at *
  generalize wrap64 (l + 2) = y4 at *
  go_enter Tryd.func6, Tryd.ntmps6
  go_wp2_with fail
  refine (C _ (HS.out.below ((((Below.refl _ _).alloc (Nat.le_refl _) _).alloc (by simp) _).alloc (by simp <;> omega) _))).mono ?_
  rintro e w1 ⟨rfl, hb1⟩
  have HB : Hid (Below W.heap.size W w1) := ((((Below.refl _ _).alloc (Nat.le_refl _) _).alloc (by simp) _).alloc (by simp <;> omega) _).trans (hb1.mono (by simp <;> omega))
  obtain ⟨n0, o0⟩ := bel_cell hb1 (b := W.heap.size) (by simp <;> omega)
  obtain ⟨n1, o1⟩ := bel_cell hb1 (b := W.heap.size + 1) (by simp <;> omega)
  have hs2 : W.heap.size + 1 + 1 < w1.heap.size := by have := hb1.size; simp at this; omega
  clear hb1 C
  go_wp2_with fail
  refine (C2 _ (HS.out.below ((HB.out.alloc (by omega) _).alloc (by simp <;> omega) _))).mono ?_
  rintro e wb ⟨rfl, hb2⟩
  have HB2 : Hid (Below W.heap.size W wb) := ((HB.out.alloc (by omega) _).alloc (by simp <;> omega) _).trans (hb2.mono (by simp <;> omega))
  have HC2 : Hid (Below w1.heap.size w1 wb) := (((Below.refl _ _).alloc (Nat.le_refl _) _).alloc (by simp) _).trans (hb2.mono (by simp <;> omega))
  obtain ⟨p2, q2⟩ := bel_cell hb2 (b := w1.heap.size) (by simp <;> omega)
  have ht3 : w1.heap.size < wb.heap.size := by have := hb2.size; simp at this; omega
  clear hb2 C2 HB
  go_wp2_with fail
  refine (C3 _).mono ?_
  rintro e wc ⟨rfl, hb3⟩
  have HB3 : Hid (Below W.heap.size W wc) := (HB2.out.alloc (by omega) _).trans (hb3.mono (by simp <;> omega))
  have HC3 : Below w1.heap.size w1 wc := (HC2.out.alloc (by omega) _).trans (hb3.mono (by simp <;> omega))
  obtain ⟨k0, l0⟩ := bel_cell HC3 (b := W.heap.size) (by omega)
  obtain ⟨k1, l1⟩ := bel_cell HC3 (b := W.heap.size + 1) (by omega)
  have hu1 : W.heap.size + 1 < wc.heap.size := by have := hb3.size; simp at this; omega
  clear hb3 HC3 C3 HC2 HB2 p2 q2
  go_wp2_with fail
  refine bodyPost_ret (v := _) ?h1 rfl ⟨rfl, below_set63 HB3.out (Nat.le_refl _) (by omega) _ _ _ _ _ _ _ _ _⟩
  case h1 => simp [results, Tryd.results6, go_sem, k0, k1, n0, n1, show W.heap.size < W.heap.size + 1 + 1 from by omega]

theorem two_any (t a : Int) (u : Bool) (first second : Int) (b g : Nat) (zs : List Int) (h0 : 0 ≤ t) (h1 : t < 18446744073709551616) (hr1 : first < 9223372036854775808) (hs1 : second < 9223372036854775808) (W : World) (hS : St W b g zs) :
    Calls Tryd.prog 6 #[.iface 26 (.pointer (some ⟨b, 0, none⟩)), .int .i64 first, .int .i64 second, .int .u64 t, .int .i64 a, .bool u] W fun e W' => e = .returned (twoP zs first second t a u).val ∧ Below W.heap.size W W' := by
  unfold twoP
  cases hz : firstP zs first second t a u with
  | no c v g' => exact two_no_first t a u first second b g zs h0 h1 hr1 hs1 c v g' hz W hS
  | ok f r w x k l =>
    cases hn : oneP zs second (f * 256 + t % 256) a true with
    | none => simp only [hn]; exact two_no_second t a u first second b g zs h0 h1 hr1 hs1 f l r w x k hz hn W hS
    | some E => simp only [hn]; exact two_found t a u first second b g zs h0 h1 hr1 hs1 f l r w x k hz E hn W hS
end Go.Proofs.YtbaagnfcdphddaaDoor
