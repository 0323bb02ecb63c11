/-
  What a walk through both tables tells where the upper entry is no table's: walk's contract there.
-/
import Derived.Test.YtbaagnfcdphddaaDoorWlk5
namespace Go.Proofs.YtbaagnfcdphddaaDoor
open Go.RowKit
set_option linter.unusedVariables false
set_option maxRecDepth 20000

set_option maxHeartbeats 1600000 in
theorem walk_not_valid (F : FuncId) (caps : Array Value) (r : Option Nat) (I : Nat → World → Prop) (R : Int → Int → Rr) (root t a : Int) (u : Bool) (h0 : 0 ≤ t) (ht : t < 262144) (hr0 : 0 ≤ root) (hr1 : root < 9223372036854775808) (W : World)
    (hR : Reads F caps W.heap.size r I R) (hI : I 0 W) (tb : En) (hn : R root (t / 8192) = .ok tb) (hv : tb.v = false) :
    Calls Tryd.prog 19 #[askV t a u, .int .i64 root, .func (.func F) #[] caps] W fun e W' => e = .returned (refR t a).val ∧ W.grownBy W' r := by
  have C2 := refused_any t a u
  have C1 := split_any t h0 (by omega)
  have C3 := fun w hw hi => hR.call 0 root (t / 8192) w hr0 hr1 (by omega) (by omega) hw hi
  have hfr := hR.frame _ _ _ hn
  rw [hn] at C3
  unfold splitV at C1
  rw [if_pos ht] at C1
  have HI : Hid (I 0 W) := hI
  have HK : Hid (Reads F caps W.heap.size r I R) := hR
  have hcf := hR.enter
  clear hI hR hn
  obtain ⟨v, xr, xw, xx, xu, xs, xd, xf⟩ := tb
  obtain rfl : v = false := hv
  unfold refR Rr.val En.zero En.val ent trapV askV at *
  simp only [Rr.isOk] at C3 ⊢
  generalize faultP a 12 13 15 = x at *
  generalize t / 8192 = q at *
  generalize t / 256 % 32 = q2 at *
  go_enter Tryd.func19, Tryd.ntmps19
  go_wp2_with fail
  refine (C1 _).mono ?_
  rintro e w1 ⟨rfl, rfl⟩
  go_wp2_with fail
  refine (C3 _ (by simp; omega) (HK.out.keep _ _ _ HI.out ((((Below.refl _ _).alloc (Nat.le_refl _) _).alloc (by simp) _).alloc (by simp; omega) _))).mono ?_
  rintro e w2 ⟨rfl, hg2, hI2⟩
  obtain ⟨hc0, hf0⟩ := gr_cell hg2 HK.out.lt (b := W.heap.size) (Nat.le_refl _) (by simp; omega)
  obtain ⟨hc1, hf1⟩ := gr_cell hg2 HK.out.lt (b := W.heap.size + 1) (by omega) (by simp)
  obtain ⟨hc2, hf2⟩ := gr_cell hg2 HK.out.lt (b := W.heap.size + 1 + 1) (by omega) (by simp)
  have HG : Hid (W.grownBy w2 r) := grown_trans (grown_some ((((Below.refl _ _).alloc (Nat.le_refl _) _).alloc (by simp) _).alloc (by simp; omega) _) _) hg2
  have hs2 : W.heap.size + 1 + 1 < w2.heap.size := by have := hg2.size; simp at this; omega
  have hs1 : W.heap.size + 1 < w2.heap.size := by omega
  have hs0 : W.heap.size < w2.heap.size := by omega
  have HI2 : Hid (I 1 w2) := hI2 trivial
  clear hg2 C1 C3 hI2
  go_wp2_with fail
  refine (C2 _).mono ?_
  rintro e w3 ⟨rfl, hb3⟩
  have HB3 : Hid (Below W.heap.size w2 w3) := (((Below.refl _ _).alloc (by omega) _).alloc (by simp; omega) _).trans (hb3.mono (by simp; omega))
  have HC3 : Below w2.heap.size w2 w3 := (((Below.refl _ _).alloc (by omega) _).alloc (by simp) _).trans (hb3.mono (by simp; omega))
  obtain ⟨hd1, he1⟩ := bel_cell HC3 hs1
  obtain ⟨hd2, he2⟩ := bel_cell HC3 hs2
  have ht2 : W.heap.size + 1 + 1 < w3.heap.size := by have := hb3.size; simp at this; omega
  clear hb3 HC3 C2
  go_wp2_with fail
  refine bodyPost_ret (v := _) ?h1 rfl ⟨rfl, gr_below HG.out (below_set83 HB3.out (by omega) (by omega) _ _ _ _ _ _ _ _ _ _ _)⟩
  case h1 => simp [results, Tryd.results19, go_sem, hd1, hd2, hc1, hc2]

set_option maxHeartbeats 1600000 in
theorem walk_leaf (F : FuncId) (caps : Array Value) (r : Option Nat) (I : Nat → World → Prop) (R : Int → Int → Rr) (root t a : Int) (u : Bool) (h0 : 0 ≤ t) (ht : t < 262144) (hr0 : 0 ≤ root) (hr1 : root < 9223372036854775808) (W : World)
    (hR : Reads F caps W.heap.size r I R) (hI : I 0 W) (tb : En) (hn : R root (t / 8192) = .ok tb) (hv : tb.v = true) (hl : leafP tb.v tb.r tb.x = true) :
    Calls Tryd.prog 19 #[askV t a u, .int .i64 root, .func (.func F) #[] caps] W fun e W' => e = .returned (refR t a).val ∧ W.grownBy W' r := by
  have C2 := refused_any t a u
  have C1 := split_any t h0 (by omega)
  have C3 := fun w hw hi => hR.call 0 root (t / 8192) w hr0 hr1 (by omega) (by omega) hw hi
  have hfr := hR.frame _ _ _ hn
  rw [hn] at C3
  unfold splitV at C1
  rw [if_pos ht] at C1
  have HI : Hid (I 0 W) := hI
  have HK : Hid (Reads F caps W.heap.size r I R) := hR
  have hcf := hR.enter
  clear hI hR hn
  obtain ⟨v, xr, xw, xx, xu, xs, xd, xf⟩ := tb
  obtain rfl : v = true := hv
  have CL := leaf_any true xr xw xx xu xs xd xf
  simp only at hl
  rw [hl] at CL
  clear hl
  unfold refR Rr.val En.zero En.val ent trapV askV at *
  simp only [Rr.isOk] at C3 ⊢
  generalize faultP a 12 13 15 = x at *
  generalize t / 8192 = q at *
  generalize t / 256 % 32 = q2 at *
  go_enter Tryd.func19, Tryd.ntmps19
  go_wp2_with fail
  refine (C1 _).mono ?_
  rintro e w1 ⟨rfl, rfl⟩
  go_wp2_with fail
  refine (C3 _ (by simp; omega) (HK.out.keep _ _ _ HI.out ((((Below.refl _ _).alloc (Nat.le_refl _) _).alloc (by simp) _).alloc (by simp; omega) _))).mono ?_
  rintro e w2 ⟨rfl, hg2, hI2⟩
  obtain ⟨hc0, hf0⟩ := gr_cell hg2 HK.out.lt (b := W.heap.size) (Nat.le_refl _) (by simp; omega)
  obtain ⟨hc1, hf1⟩ := gr_cell hg2 HK.out.lt (b := W.heap.size + 1) (by omega) (by simp)
  obtain ⟨hc2, hf2⟩ := gr_cell hg2 HK.out.lt (b := W.heap.size + 1 + 1) (by omega) (by simp)
  have HG : Hid (W.grownBy w2 r) := grown_trans (grown_some ((((Below.refl _ _).alloc (Nat.le_refl _) _).alloc (by simp) _).alloc (by simp; omega) _) _) hg2
  have hs2 : W.heap.size + 1 + 1 < w2.heap.size := by have := hg2.size; simp at this; omega
  have hs1 : W.heap.size + 1 < w2.heap.size := by omega
  have hs0 : W.heap.size < w2.heap.size := by omega
  have HI2 : Hid (I 1 w2) := hI2 trivial
  clear hg2 C1 C3 hI2
  go_wp2_with fail
  refine (CL _).mono ?_
  rintro e w3 ⟨rfl, hb3⟩
  have HB3 : Hid (Below W.heap.size w2 w3) := (((Below.refl _ _).alloc (by omega) _).alloc (by simp; omega) _).trans (hb3.mono (by simp; omega))
  have HC3 : Below w2.heap.size w2 w3 := (((Below.refl _ _).alloc (by omega) _).alloc (by simp) _).trans (hb3.mono (by simp; omega))
  obtain ⟨hd0, he0⟩ := bel_cell HC3 hs0
  have HD3 : Hid (_) := HC3
  have ht2 : W.heap.size + 1 + 1 < w3.heap.size := by have := hb3.size; simp at this; omega
  have ht3 : w2.heap.size ≤ w3.heap.size := by have := hb3.size; simp at this; omega
  clear hb3 HC3 CL
  go_wp2_with fail
  refine (C2 _).mono ?_
  rintro e w4 ⟨rfl, hb4⟩
  have HB4 : Hid (Below W.heap.size w2 w4) := HB3.out.trans (hb4.mono (by omega))
  have HC4 : Below w2.heap.size w2 w4 := HD3.out.trans (hb4.mono (by omega))
  obtain ⟨hd1, he1⟩ := bel_cell HC4 hs1
  obtain ⟨hd2, he2⟩ := bel_cell HC4 hs2
  have ht4 : W.heap.size + 1 + 1 < w4.heap.size := by have := hb4.size; omega
  clear hb4 HC4 C2 hd0 he0 HD3 HB3
  go_wp2_with fail
  refine bodyPost_ret (v := _) ?h1 rfl ⟨rfl, gr_below HG.out (below_set83 HB4.out (by omega) (by omega) _ _ _ _ _ _ _ _ _ _ _)⟩
  case h1 => simp [results, Tryd.results19, go_sem, hd1, hd2, hc1, hc2]
end Go.Proofs.YtbaagnfcdphddaaDoor
