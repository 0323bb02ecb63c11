/-
  What read of package walk tells: its contract, whole.
-/
import Derived.Test.YtbaagnfcdphddaaDoorWlk3
namespace Go.Proofs.YtbaagnfcdphddaaDoor
open Go.RowKit
set_option linter.unusedVariables false
set_option maxRecDepth 20000

set_option maxHeartbeats 1600000 in
theorem read_no_entry (t a : Int) (u : Bool) (f p : Int) (b g : Nat) (zs : List Int) (h0 : 0 ≤ f) (hp : 0 ≤ p) (hp' : p < 32) (hf : f ≤ 72057594037927935) (hn : numE zs.length (atP f p) 8 = 0) (hu : ¬ unpackE (loadV zs (atP f p) 8) = 0) (W : World) (hS : St W b g zs) :
    Calls Tryd.prog 21 #[askV t a u, .iface 26 (.pointer (some ⟨b, 0, none⟩)), .int .i64 f, .int .i64 p] W fun e W' => e = .returned (rdV t a none) ∧ Below W.heap.size W W' := by
  have C2 := refused_any t a u
  have C1 := entryAt_any f p h0 (by omega) hp hp'
  have C3 := fun (W : World) (h : St W b g zs) => number_mm b g zs (atP f p) W h.sz h.mm (at_range f p).1 (at_range f p).2
  have hr := load_range zs hS.mm.bytes (atP f p)
  have C4 := fun (W : World) (h : St W b g zs) => unpack_en (loadV zs (atP f p) 8) hr.1 hr.2 W h.bt
  rw [decide_eq_true hf] at C1
  rw [decide_eq_true hn] at C3
  have HS : Hid (St W b g zs) := hS
  clear hS hn hr
  have hu' : (unpackE (loadV zs (atP f p) 8) != 0) = true := by rw [bne_iff_ne]; exact hu
  clear hu
  unfold rdV En.zero En.val ent trapV askV at *
  generalize faultP a 12 13 15 = x at *
  generalize atP f p = q at *
  generalize loadV zs q 8 = y at *
  generalize unpackE y = z at *
  generalize enOf y = E at *
  obtain ⟨v, r, w, xx, uu, s, d, ff⟩ := E
  simp only at *
  go_enter Tryd.func21, Tryd.ntmps21
  go_wp2_with fail
  refine (C1 _).mono ?_
  rintro e w1 ⟨rfl, rfl⟩
  go_wp2_with fail
  refine (C3 _ (HS.out.below ((((Below.refl _ _).alloc (Nat.le_refl _) _).alloc (by simp) _).alloc (by simp; omega) _))).mono ?_
  rintro e w2 ⟨rfl, hb2⟩
  have HB : Hid (Below W.heap.size W w2) := ((((Below.refl _ _).alloc (Nat.le_refl _) _).alloc (by simp) _).alloc (by simp; omega) _).trans (hb2.mono (by simp; omega))
  have HC : Hid (_) := hb2
  have hs2 : W.heap.size + 2 < w2.heap.size := by have := hb2.size; simp at this; omega
  clear hb2 C1 C3
  go_wp2_with fail
  refine (C4 _ (HS.out.below HB.out)).mono ?_
  rintro e w3 ⟨rfl, hb3⟩
  have HB3 : Hid (Below W.heap.size W w3) := HB.out.trans (hb3.mono (by omega))
  have HC3 : Hid (_) := HC.out.trans (hb3.mono (by simp; omega))
  obtain ⟨hc3, hf3⟩ := bcell HC3.out
  simp only [World.size_alloc] at hc3 hf3
  have hs3 : W.heap.size + 1 + 1 < w3.heap.size := by have := hb3.size; omega
  have hs31 : W.heap.size + 1 < w3.heap.size := by omega
  have hs30 : W.heap.size < w3.heap.size := by omega
  clear hb3 C4 HC HB hs2
  go_wp2_with fail
  refine (C2 _).mono ?_
  rintro e w4 ⟨rfl, hb4⟩
  have HB4 : Hid (Below W.heap.size W w4) := (HB3.out.alloc (by omega) _).trans (hb4.mono (by simp; omega))
  have HC4 := (HC3.out.alloc (by simp; omega) _).trans (hb4.mono (by simp; omega))
  clear hc3 hf3
  obtain ⟨hc4, hf4⟩ := bcell HC4
  simp only [World.size_alloc] at hc4 hf4
  have hs4 : W.heap.size + 2 < w4.heap.size := by have := hb4.size; simp at this; omega
  clear hb4 C2 HC4 HC3 HB3
  go_wp2_with fail
  refine bodyPost_ret (v := _) ?h1 rfl ⟨rfl, below_set83 HB4.out (by omega) (by omega) _ _ _ _ _ _ _ _ _ _ _⟩
  case h1 => simp [results, Tryd.results21, go_sem, hc4]

set_option maxHeartbeats 1600000 in
theorem read_yes (t a : Int) (u : Bool) (f p : Int) (b g : Nat) (zs : List Int) (h0 : 0 ≤ f) (hp : 0 ≤ p) (hp' : p < 32) (hf : f ≤ 72057594037927935) (hn : numE zs.length (atP f p) 8 = 0) (hu : unpackE (loadV zs (atP f p) 8) = 0) (W : World) (hS : St W b g zs) :
    Calls Tryd.prog 21 #[askV t a u, .iface 26 (.pointer (some ⟨b, 0, none⟩)), .int .i64 f, .int .i64 p] W fun e W' => e = .returned (rdV t a (some (enOf (loadV zs (atP f p) 8)))) ∧ Below W.heap.size W W' := by
  have C1 := entryAt_any f p h0 (by omega) hp hp'
  have C3 := fun (W : World) (h : St W b g zs) => number_mm b g zs (atP f p) W h.sz h.mm (at_range f p).1 (at_range f p).2
  have hr := load_range zs hS.mm.bytes (atP f p)
  have C4 := fun (W : World) (h : St W b g zs) => unpack_en (loadV zs (atP f p) 8) hr.1 hr.2 W h.bt
  rw [decide_eq_true hf] at C1
  rw [decide_eq_true hn] at C3
  have HS : Hid (St W b g zs) := hS
  clear hS hn hr
  rw [hu] at C4
  clear hu
  unfold rdV En.val ent trapV askV at *
  generalize atP f p = q at *
  generalize loadV zs q 8 = y at *
  generalize enOf y = E at *
  obtain ⟨v, r, w, xx, uu, s, d, ff⟩ := E
  simp only at *
  go_enter Tryd.func21, Tryd.ntmps21
  go_wp2_with fail
  refine (C1 _).mono ?_
  rintro e w1 ⟨rfl, rfl⟩
  go_wp2_with fail
  refine (C3 _ (HS.out.below ((((Below.refl _ _).alloc (Nat.le_refl _) _).alloc (by simp) _).alloc (by simp; omega) _))).mono ?_
  rintro e w2 ⟨rfl, hb2⟩
  have HB : Hid (Below W.heap.size W w2) := ((((Below.refl _ _).alloc (Nat.le_refl _) _).alloc (by simp) _).alloc (by simp; omega) _).trans (hb2.mono (by simp; omega))
  have HC : Hid (_) := hb2
  have hs2 : W.heap.size + 2 < w2.heap.size := by have := hb2.size; simp at this; omega
  clear hb2 C1 C3
  go_wp2_with fail
  refine (C4 _ (HS.out.below HB.out)).mono ?_
  rintro e w3 ⟨rfl, hb3⟩
  have HB3 : Hid (Below W.heap.size W w3) := HB.out.trans (hb3.mono (by omega))
  have HC3 : Hid (_) := HC.out.trans (hb3.mono (by simp; omega))
  obtain ⟨hc3, hf3⟩ := bcell HC3.out
  simp only [World.size_alloc] at hc3 hf3
  have hs3 : W.heap.size + 1 + 1 < w3.heap.size := by have := hb3.size; omega
  have hs31 : W.heap.size + 1 < w3.heap.size := by omega
  have hs30 : W.heap.size < w3.heap.size := by omega
  clear hb3 C4 HC HB hs2
  go_wp2_with fail
  refine bodyPost_ret (v := _) ?h1 rfl ⟨rfl, (below_set83 HB3.out (by omega) (by omega) _ _ _ _ _ _ _ _ _ _ _).alloc (by simp; omega) _⟩
  case h1 => simp [results, Tryd.results21, go_sem, hc3, hs3, hs31]

theorem read_any (t a : Int) (u : Bool) (f p : Int) (b g : Nat) (zs : List Int) (h0 : 0 ≤ f) (h1 : f < 9223372036854775808) (hp : 0 ≤ p) (hp' : p < 32) (W : World) (hS : St W b g zs) :
    Calls Tryd.prog 21 #[askV t a u, .iface 26 (.pointer (some ⟨b, 0, none⟩)), .int .i64 f, .int .i64 p] W fun e W' => e = .returned (rdV t a (readP zs f p)) ∧ Below W.heap.size W W' := by
  unfold readP
  by_cases c1 : f ≤ 72057594037927935
  · by_cases c2 : numE zs.length (atP f p) 8 = 0
    · by_cases c3 : unpackE (loadV zs (atP f p) 8) = 0
      · rw [if_pos ⟨c1, c2, c3⟩]; exact read_yes t a u f p b g zs h0 hp hp' c1 c2 c3 W hS
      · rw [if_neg (fun h => c3 h.2.2)]; exact read_no_entry t a u f p b g zs h0 hp hp' c1 c2 c3 W hS
    · rw [if_neg (fun h => c2 h.2.1)]; exact read_no_load t a u f p b g zs h0 hp hp' c1 c2 W hS
  · rw [if_neg (fun h => c1 h.1)]; exact read_no_fit t a u f p _ h0 h1 hp hp' c1 W
end Go.Proofs.YtbaagnfcdphddaaDoor
