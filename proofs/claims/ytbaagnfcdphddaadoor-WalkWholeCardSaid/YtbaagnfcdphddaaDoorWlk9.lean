/-
  What a walk through both tables tells, where a page is found: walk's contract there.
-/
import Derived.Test.YtbaagnfcdphddaaDoorWlk5
namespace Go.Proofs.YtbaagnfcdphddaaDoor
open Go.RowKit
set_option linter.unusedVariables false
set_option maxRecDepth 20000

set_option maxHeartbeats 1600000 in
theorem walk_found (F : FuncId) (caps : Array Value) (r : Option Nat) (I : Nat → World → Prop) (R : Int → Int → Rr) (root t a : Int) (u : Bool) (h0 : 0 ≤ t) (ht : t < 262144) (hr0 : 0 ≤ root) (hr1 : root < 9223372036854775808) (W : World)
    (hR : Reads F caps W.heap.size r I R) (hI : I 0 W) (tb : En) (hn : R root (t / 8192) = .ok tb) (hv : tb.v = true) (hl : leafP tb.v tb.r tb.x = false) (pg : En) (hm : R tb.f (t / 256 % 32) = .ok pg) (ha : allowP pg.v pg.r pg.w pg.x pg.u a u = true) :
    Calls Tryd.prog 19 #[askV t a u, .int .i64 root, .func (.func F) #[] caps] W fun e W' => e = .returned (Rr.ok pg).val ∧ W.grownBy W' r ∧ I 2 W' := by
  have C1 := split_any t h0 (by omega)
  have C3 := fun w hw hi => hR.call 0 root (t / 8192) w hr0 hr1 (by omega) (by omega) hw hi
  have hfr := hR.frame _ _ _ hn
  rw [hn] at C3
  unfold splitV at C1
  rw [if_pos ht] at C1
  have HI : Hid (I 0 W) := hI
  have HK : Hid (Reads F caps W.heap.size r I R) := hR
  have hcf := hR.enter
  have C5 := fun w hw hi => hR.call 1 tb.f (t / 256 % 32) w hfr.1 (by omega) (by omega) (by omega) hw hi
  rw [hm] at C5
  clear hI hR hn hm
  obtain ⟨v, xr, xw, xx, xu, xs, xd, xf⟩ := tb
  obtain rfl : v = true := hv
  have CL := leaf_any true xr xw xx xu xs xd xf
  simp only at hl
  rw [hl] at CL
  clear hl
  obtain ⟨pv, pr, pw, px, pu, ps, pd, pf⟩ := pg
  have CA := allows_any pv pr pw px pu ps pd pf a u
  simp only at ha
  rw [ha] at CA
  clear ha
  unfold Rr.val En.val ent trapV askV at *
  simp only [Rr.isOk] at C3 C5 ⊢
  generalize t / 8192 = q at *
  generalize t / 256 % 32 = q2 at *
  go_enter Tryd.func19, Tryd.ntmps19
  go_wp2_with fail
  refine (C1 _).mono ?_
  rintro e w1 ⟨rfl, rfl⟩
  go_wp2_with fail
  refine (C3 _ (by simp; omega) (HK.out.keep _ _ _ HI.out ((((Below.refl _ _).alloc (Nat.le_refl _) _).alloc (by simp) _).alloc (by simp; omega) _))).mono ?_
  rintro e w2 ⟨rfl, hg2, hI2⟩
  obtain ⟨hc0, hf0⟩ := gr_cell hg2 HK.out.lt (b := W.heap.size) (Nat.le_refl _) (by simp; omega)
  obtain ⟨hc1, hf1⟩ := gr_cell hg2 HK.out.lt (b := W.heap.size + 1) (by omega) (by simp)
  obtain ⟨hc2, hf2⟩ := gr_cell hg2 HK.out.lt (b := W.heap.size + 1 + 1) (by omega) (by simp)
  have HG : Hid (W.grownBy w2 r) := grown_trans (grown_some ((((Below.refl _ _).alloc (Nat.le_refl _) _).alloc (by simp) _).alloc (by simp; omega) _) _) hg2
  have hs2 : W.heap.size + 1 + 1 < w2.heap.size := by have := hg2.size; simp at this; omega
  have hs1 : W.heap.size + 1 < w2.heap.size := by omega
  have hs0 : W.heap.size < w2.heap.size := by omega
  have HI2 : Hid (I 1 w2) := hI2 trivial
  clear hg2 C1 C3 hI2
  go_wp2_with fail
  refine (CL _).mono ?_
  rintro e w3 ⟨rfl, hb3⟩
  have HB3 : Hid (Below W.heap.size w2 w3) := (((Below.refl _ _).alloc (by omega) _).alloc (by simp; omega) _).trans (hb3.mono (by simp; omega))
  have HC3 : Below w2.heap.size w2 w3 := (((Below.refl _ _).alloc (by omega) _).alloc (by simp) _).trans (hb3.mono (by simp; omega))
  obtain ⟨hd0, he0⟩ := bel_cell HC3 hs0
  obtain ⟨hd1, he1⟩ := bel_cell HC3 hs1
  obtain ⟨hd2, he2⟩ := bel_cell HC3 hs2
  obtain ⟨hn2, hm2⟩ := bel_cell hb3 (b := w2.heap.size) (by simp; omega)
  obtain ⟨hn3, hm3⟩ := bel_cell hb3 (b := w2.heap.size + 1) (by simp)
  have ht3 : w2.heap.size + 1 < w3.heap.size := by have := hb3.size; simp at this; omega
  clear hb3 HC3 CL
  go_wp2_with fail
  refine (C5 _ (by omega) (HK.out.keep _ _ _ HI2.out HB3.out)).mono ?_
  rintro e w4 ⟨rfl, hg4, hI4⟩
  obtain ⟨gd0, ge0⟩ := gr_cell hg4 HK.out.lt (b := W.heap.size) (Nat.le_refl _) (by omega)
  obtain ⟨gd1, ge1⟩ := gr_cell hg4 HK.out.lt (b := W.heap.size + 1) (by omega) (by omega)
  obtain ⟨gd2, ge2⟩ := gr_cell hg4 HK.out.lt (b := W.heap.size + 1 + 1) (by omega) (by omega)
  obtain ⟨gn3, gm3⟩ := gr_cell hg4 HK.out.lt (b := w2.heap.size + 1) (by omega) (by omega)
  have HG4 : Hid (W.grownBy w4 r) := grown_trans (gr_below HG.out HB3.out) hg4
  have hj4 : w2.heap.size + 1 < w4.heap.size := by have := hg4.size; omega
  have hj0 : W.heap.size < w4.heap.size := by omega
  have hj1 : W.heap.size + 1 < w4.heap.size := by omega
  have hj2 : W.heap.size + 1 + 1 < w4.heap.size := by omega
  have hk0 : W.heap.size ≠ w2.heap.size + 1 := by omega
  have hk1 : W.heap.size + 1 ≠ w2.heap.size + 1 := by omega
  have hk2 : W.heap.size + 1 + 1 ≠ w2.heap.size + 1 := by omega
  have HI4 : Hid (I 2 w4) := hI4 trivial
  clear hg4 C5 HI HI2 hI4
  go_wp2_with fail
  refine (CA _).mono ?_
  rintro e w5 ⟨rfl, hb5⟩
  have HB5 : Hid (Below W.heap.size w4 w5) := ((below_set3 (Below.refl _ _) (by omega) _ _ _).alloc (by simp; omega) _).trans (hb5.mono (by simp; omega))
  have HC5 : Below (w2.heap.size + 1) w4 w5 := ((below_set3 (Below.refl _ _) (by omega) _ _ _).alloc (by simp; omega) _).trans (hb5.mono (by simp; omega))
  obtain ⟨ld1, le1⟩ := bel_cell HC5 (b := W.heap.size + 1) (by omega)
  obtain ⟨ld2, le2⟩ := bel_cell HC5 (b := W.heap.size + 1 + 1) (by omega)
  obtain ⟨ln4, lm4⟩ := bel_cell hb5 (b := w4.heap.size) (by simp)
  have hl5 : w4.heap.size < w5.heap.size := by have := hb5.size; simp at this; omega
  clear hb5 HC5 CA
  go_wp2_with fail
  have HE : Below W.heap.size w4 _ := below_set83 HB5.out (b := W.heap.size + 1) (c := W.heap.size + 1 + 1) (by omega) (by omega) (.bool pv) (.bool pr) (.bool pw) (.bool px) (.bool pu) (.bool ps) (.bool pd) (.int .i64 pf) (.int .i64 0) (.int .u64 0) (.int .u64 0)
  refine bodyPost_ret (v := _) ?h1 rfl ⟨rfl, gr_below HG4.out HE, HK.out.keep _ _ _ HI4.out HE⟩
  case h1 => simp [results, Tryd.results19, go_sem, ld1, ld2, gd1, gd2, hd1, hd2, hc1, hc2]
end Go.Proofs.YtbaagnfcdphddaaDoor
