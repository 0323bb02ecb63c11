/-
  What the document's Step does.
-/
import Derived.Test.YtioanbdmkiphfaaDoorRl
namespace Go.Proofs.YtioanbdmkiphfaaDoor
open Go.RowKit
set_option linter.unusedVariables false
set_option maxRecDepth 20000
theorem same_drewN (w : World) (n : Nat) : Below w.heap.size w (w.drewN n) := ⟨rfl, rfl, rfl, Nat.le_refl _, fun _ _ => rfl⟩
theorem RK.cells01 {w : World} {q b g s u n : Nat} {zs : List Int} {t : Int} {S T : Nat → Int} (h : RK w q b g s u zs t n S T) : w.cell? ⟨q, 0, none⟩ = some (.pointer (some ⟨b, 0, none⟩)) ∧ w.cell? ⟨q, 1, none⟩ = some (.int .u64 t) := ⟨h.cells.1, h.cells.2.1⟩
theorem upd_eq (S : Nat → Int) (d : Nat) : upd S d (S d) = S := by
  funext e
  unfold upd
  split
  · rename_i h; rw [h]
  · rfl
theorem rstep_no (q b g s u : Nat) (zs : List Int) (t : Int) (n : Nat) (S T : Nat → Int) (c : Int) (w : World) (h : RK w q b g s u zs t n S T) (hc : hasC n c = false) : Calls Tryd.prog 17 #[.pointer (some ⟨q, 0, none⟩), .int .i64 c] w fun e w' =>
    e = .returned (.tuple #[.int .i64 0, .int .i64 2]) ∧ w' = w := by
  have C := rhas_rk q b g s u zs t n S T c w h
  rw [hc] at C
  clear h hc
  go_enter Tryd.func17, Tryd.ntmps17
  go_wp2_with fail
  refine C.mono ?_
  rintro e w1 ⟨rfl, rfl⟩
  go_wp2_with fail
  go_ret2
  exact ⟨rfl, rfl⟩
theorem rload8 {w : World} {q b g s u n : Nat} {zs : List Int} {t : Int} {S T : Nat → Int} (h : RK w q b g s u zs t n S T) (t' : Int) (ht : t' = t ∨ t' = t + 8) : Calls Tryd.prog 29 #[.pointer (some ⟨b, 0, none⟩), .int .u64 t', .int .i64 8] w fun e w' => e = .returned (.tuple #[.int .u64 (loadV zs t' 8), .int .i64 0]) ∧ w' = w := by
  have hl := h.rm.len
  have t0 := h.t0
  have t8 := h.t8
  have t16 := h.t16
  have C := rmload_any b g zs t' 8 w h.rm (by omega) (by omega) (by decide)
  rw [num_ok zs.length t' (by omega) (by omega)] at C
  exact C
theorem rstep_stay (q b g s u : Nat) (zs : List Int) (t : Int) (n : Nat) (S T : Nat → Int) (c : Nat) (w : World) (h : RK w q b g s u zs t n S T) (hc : c < n) (k1 : S c ≠ 1) (k2 : S c ≠ 2) (k4 : S c ≠ 4) : Calls Tryd.prog 17 #[.pointer (some ⟨q, 0, none⟩), .int .i64 c] w fun e w' =>
    e = .returned (.tuple #[.int .i64 (S c), .int .i64 0]) ∧ Below w.heap.size w w' := by
  have C := rhas_rk q b g s u zs t n S T c w h
  rw [hasC_nat hc] at C
  obtain ⟨c0, c1, c2, c3⟩ := h.cells
  have hl := h.lt
  have hc' : (c : Int) < (n : Int) := by omega
  have ts : t + 16 ≤ 16777216 := by have := h.t16; have := h.rm.len; omega
  have t0 := h.t0
  have HX : Hid (RK w q b g s u zs t n S T) := h
  have HD : Hid (∀ m, Calls Tryd.prog 29 #[.pointer (some ⟨b, 0, none⟩), .int .u64 t, .int .i64 8] (w.drewN m) fun e w' => e = .returned (.tuple #[.int .u64 (loadV zs t 8), .int .i64 0]) ∧ w' = w.drewN m) := fun m => rload8 (h.below (same_drewN w m)) t (.inl rfl)
  obtain ⟨A, HA⟩ : ∃ A, Hid (loadV zs t 8 = A) := ⟨_, rfl⟩
  obtain ⟨B, HB⟩ : ∃ B, Hid (loadV zs (t + 8) 8 = B) := ⟨_, rfl⟩
  rw [HA.out] at HD
  have b1 : (S c == 1) = false := by simpa using k1
  have b2 : (S c == 2) = false := by simpa using k2
  have b4 : (S c == 4) = false := by simpa using k4
  clear k1 k2 k4
  clear h
  go_enter Tryd.func17, Tryd.ntmps17
  go_wp2_with fail
  refine C.mono ?_
  rintro e w1 ⟨rfl, rfl⟩
  go_wp2_with fail
  go_quiet ((go_at_call 29; refine Calls.quiet_of_same (HD.out _)))
  have hb1 := same_drewN w1 nq
  have h1 := HX.out.below hb1
  have HB1 : Hid (Below w1.heap.size w1 (w1.drewN nq)) := hb1
  generalize w1.drewN nq = y1 at *
  have HD1 : Hid (∀ m, Calls Tryd.prog 29 #[.pointer (some ⟨b, 0, none⟩), .int .u64 (t + 8), .int .i64 8] (y1.drewN m) fun e w' => e = .returned (.tuple #[.int .u64 (loadV zs (t + 8) 8), .int .i64 0]) ∧ w' = y1.drewN m) := fun m => rload8 (h1.below (same_drewN y1 m)) (t + 8) (.inr rfl)
  rw [HB.out] at HD1
  have HX1 : Hid (RK y1 q b g s u zs t n S T) := h1
  clear c0 c1 c2 c3 C HD hl
  obtain ⟨c0, c1, c2, c3⟩ := h1.cells
  have hl := h1.lt
  clear h1 hb1
  go_wp2_with fail
  go_quiet ((go_at_call 29; refine Calls.quiet_of_same (HD1.out _)))
  have hb2 := same_drewN y1 nq
  have h2 := HX1.out.below hb2
  have HB2 : Hid (Below w1.heap.size w1 (y1.drewN nq)) := HB1.out.trans (hb2.mono HB1.out.size)
  generalize y1.drewN nq = y2 at *
  have HX2 : Hid (RK y2 q b g s u zs t n S T) := h2
  clear c0 c1 c2 c3 HD1 hl HX1 HB1
  obtain ⟨c0, c1, c2, c3⟩ := h2.cells
  have hl := h2.lt
  have e0 := h2.rs.at c hc
  have hls := h2.rs.lt
  clear h2 hb2
  go_wp2_with fail
  go_ret2
  exact ⟨rfl, HB2.out⟩
theorem rstep_spins_no (q b g s u : Nat) (zs : List Int) (t : Int) (n : Nat) (S T : Nat → Int) (c : Nat) (w : World) (h : RK w q b g s u zs t n S T) (hc : c < n) (k2 : S c = 2) (kB : ¬ loadV zs (t + 8) 8 = T c) : Calls Tryd.prog 17 #[.pointer (some ⟨q, 0, none⟩), .int .i64 c] w fun e w' =>
    e = .returned (.tuple #[.int .i64 2, .int .i64 0]) ∧ Below w.heap.size w w' := by
  have C := rhas_rk q b g s u zs t n S T c w h
  rw [hasC_nat hc] at C
  obtain ⟨c0, c1, c2, c3⟩ := h.cells
  have hl := h.lt
  have hc' : (c : Int) < (n : Int) := by omega
  have ts : t + 16 ≤ 16777216 := by have := h.t16; have := h.rm.len; omega
  have t0 := h.t0
  have HX : Hid (RK w q b g s u zs t n S T) := h
  have HD : Hid (∀ m, Calls Tryd.prog 29 #[.pointer (some ⟨b, 0, none⟩), .int .u64 t, .int .i64 8] (w.drewN m) fun e w' => e = .returned (.tuple #[.int .u64 (loadV zs t 8), .int .i64 0]) ∧ w' = w.drewN m) := fun m => rload8 (h.below (same_drewN w m)) t (.inl rfl)
  obtain ⟨A, HA⟩ : ∃ A, Hid (loadV zs t 8 = A) := ⟨_, rfl⟩
  obtain ⟨B, HB⟩ : ∃ B, Hid (loadV zs (t + 8) 8 = B) := ⟨_, rfl⟩
  rw [HA.out] at HD
  have bB : (B == T c) = false := by rw [HB.out] at kB; simpa using kB
  clear kB
  clear h
  go_enter Tryd.func17, Tryd.ntmps17
  go_wp2_with fail
  refine C.mono ?_
  rintro e w1 ⟨rfl, rfl⟩
  go_wp2_with fail
  go_quiet ((go_at_call 29; refine Calls.quiet_of_same (HD.out _)))
  have hb1 := same_drewN w1 nq
  have h1 := HX.out.below hb1
  have HB1 : Hid (Below w1.heap.size w1 (w1.drewN nq)) := hb1
  generalize w1.drewN nq = y1 at *
  have HD1 : Hid (∀ m, Calls Tryd.prog 29 #[.pointer (some ⟨b, 0, none⟩), .int .u64 (t + 8), .int .i64 8] (y1.drewN m) fun e w' => e = .returned (.tuple #[.int .u64 (loadV zs (t + 8) 8), .int .i64 0]) ∧ w' = y1.drewN m) := fun m => rload8 (h1.below (same_drewN y1 m)) (t + 8) (.inr rfl)
  rw [HB.out] at HD1
  have HX1 : Hid (RK y1 q b g s u zs t n S T) := h1
  clear c0 c1 c2 c3 C HD hl
  obtain ⟨c0, c1, c2, c3⟩ := h1.cells
  have hl := h1.lt
  clear h1 hb1
  go_wp2_with fail
  go_quiet ((go_at_call 29; refine Calls.quiet_of_same (HD1.out _)))
  have hb2 := same_drewN y1 nq
  have h2 := HX1.out.below hb2
  have HB2 : Hid (Below w1.heap.size w1 (y1.drewN nq)) := HB1.out.trans (hb2.mono HB1.out.size)
  generalize y1.drewN nq = y2 at *
  have HX2 : Hid (RK y2 q b g s u zs t n S T) := h2
  clear c0 c1 c2 c3 HD1 hl HX1 HB1
  obtain ⟨c0, c1, c2, c3⟩ := h2.cells
  have hl := h2.lt
  have e0 := h2.rs.at c hc
  have hls := h2.rs.lt
  clear h2 hb2
  rw [k2] at e0
  have e1 := (HX2.out).rt.at c hc
  have hlu := (HX2.out).rt.lt
  clear k2
  go_wp2_with fail
  go_ret2
  exact ⟨rfl, HB2.out⟩
theorem rstep_spins_yes (q b g s u : Nat) (zs : List Int) (t : Int) (n : Nat) (S T : Nat → Int) (c : Nat) (w : World) (h : RK w q b g s u zs t n S T) (hc : c < n) (k2 : S c = 2) (kB : loadV zs (t + 8) 8 = T c) : Calls Tryd.prog 17 #[.pointer (some ⟨q, 0, none⟩), .int .i64 c] w fun e w' =>
    e = .returned (.tuple #[.int .i64 3, .int .i64 0]) ∧ RK w' q b g s u zs t n (upd S c 3) T ∧ Trn (ROwn s u g) w w' := by
  have C := rhas_rk q b g s u zs t n S T c w h
  rw [hasC_nat hc] at C
  obtain ⟨c0, c1, c2, c3⟩ := h.cells
  have hl := h.lt
  have hc' : (c : Int) < (n : Int) := by omega
  have ts : t + 16 ≤ 16777216 := by have := h.t16; have := h.rm.len; omega
  have t0 := h.t0
  have HX : Hid (RK w q b g s u zs t n S T) := h
  have HD : Hid (∀ m, Calls Tryd.prog 29 #[.pointer (some ⟨b, 0, none⟩), .int .u64 t, .int .i64 8] (w.drewN m) fun e w' => e = .returned (.tuple #[.int .u64 (loadV zs t 8), .int .i64 0]) ∧ w' = w.drewN m) := fun m => rload8 (h.below (same_drewN w m)) t (.inl rfl)
  obtain ⟨A, HA⟩ : ∃ A, Hid (loadV zs t 8 = A) := ⟨_, rfl⟩
  obtain ⟨B, HB⟩ : ∃ B, Hid (loadV zs (t + 8) 8 = B) := ⟨_, rfl⟩
  rw [HA.out] at HD
  have bB : (B == T c) = true := by rw [HB.out] at kB; simpa using kB
  clear kB
  clear h
  go_enter Tryd.func17, Tryd.ntmps17
  go_wp2_with fail
  refine C.mono ?_
  rintro e w1 ⟨rfl, rfl⟩
  go_wp2_with fail
  go_quiet ((go_at_call 29; refine Calls.quiet_of_same (HD.out _)))
  have hb1 := same_drewN w1 nq
  have h1 := HX.out.below hb1
  have HB1 : Hid (Below w1.heap.size w1 (w1.drewN nq)) := hb1
  generalize w1.drewN nq = y1 at *
  have HD1 : Hid (∀ m, Calls Tryd.prog 29 #[.pointer (some ⟨b, 0, none⟩), .int .u64 (t + 8), .int .i64 8] (y1.drewN m) fun e w' => e = .returned (.tuple #[.int .u64 (loadV zs (t + 8) 8), .int .i64 0]) ∧ w' = y1.drewN m) := fun m => rload8 (h1.below (same_drewN y1 m)) (t + 8) (.inr rfl)
  rw [HB.out] at HD1
  have HX1 : Hid (RK y1 q b g s u zs t n S T) := h1
  clear c0 c1 c2 c3 C HD hl
  obtain ⟨c0, c1, c2, c3⟩ := h1.cells
  have hl := h1.lt
  clear h1 hb1
  go_wp2_with fail
  go_quiet ((go_at_call 29; refine Calls.quiet_of_same (HD1.out _)))
  have hb2 := same_drewN y1 nq
  have h2 := HX1.out.below hb2
  have HB2 : Hid (Below w1.heap.size w1 (y1.drewN nq)) := HB1.out.trans (hb2.mono HB1.out.size)
  generalize y1.drewN nq = y2 at *
  have HX2 : Hid (RK y2 q b g s u zs t n S T) := h2
  clear c0 c1 c2 c3 HD1 hl HX1 HB1
  obtain ⟨c0, c1, c2, c3⟩ := h2.cells
  have hl := h2.lt
  have e0 := h2.rs.at c hc
  have hls := h2.rs.lt
  clear h2 hb2
  rw [k2] at e0
  have e1 := (HX2.out).rt.at c hc
  have hlu := (HX2.out).rt.lt
  have f0 := (HX2.out).rs.f c
  have HF : Hid (RK (y2.setCell ⟨s, c, none⟩ (.int .i64 3)) q b g s u zs t n (upd S c 3) T ∧ Trn (ROwn s u g) y2 (y2.setCell ⟨s, c, none⟩ (.int .i64 3))) := HX2.out.setS c hc 3
  have hqs : ¬ q = s := HX2.out.nes.1
  clear k2
  go_wp2_with fail
  go_ret2
  exact ⟨rfl, HF.out.1, (Trn.of_below HB2.out).trans HF.out.2⟩
set_option maxHeartbeats 1000000 in
theorem rstep_wants (q b g s u : Nat) (zs : List Int) (t : Int) (n : Nat) (S T : Nat → Int) (c : Nat) (w : World) (h : RK w q b g s u zs t n S T) (hc : c < n) (k1 : S c = 1) : Calls Tryd.prog 17 #[.pointer (some ⟨q, 0, none⟩), .int .i64 c] w fun e w' =>
    e = .returned (.tuple #[.int .i64 2, .int .i64 0]) ∧ RK w' q b g s u (storeV zs t 8 (inc (loadV zs t 8))) t n (upd S c 2) (upd T c (loadV zs t 8)) ∧ Trn (ROwn s u g) w w' := by
  have C := rhas_rk q b g s u zs t n S T c w h
  rw [hasC_nat hc] at C
  obtain ⟨c0, c1, c2, c3⟩ := h.cells
  have hl := h.lt
  have hc' : (c : Int) < (n : Int) := by omega
  have ts : t + 16 ≤ 16777216 := by have := h.t16; have := h.rm.len; omega
  have t0 := h.t0
  have HX : Hid (RK w q b g s u zs t n S T) := h
  have HD : Hid (∀ m, Calls Tryd.prog 29 #[.pointer (some ⟨b, 0, none⟩), .int .u64 t, .int .i64 8] (w.drewN m) fun e w' => e = .returned (.tuple #[.int .u64 (loadV zs t 8), .int .i64 0]) ∧ w' = w.drewN m) := fun m => rload8 (h.below (same_drewN w m)) t (.inl rfl)
  obtain ⟨A, HA⟩ : ∃ A, Hid (loadV zs t 8 = A) := ⟨_, rfl⟩
  obtain ⟨B, HB⟩ : ∃ B, Hid (loadV zs (t + 8) 8 = B) := ⟨_, rfl⟩
  rw [HA.out] at HD
  rw [HA.out]
  have hAU : U A := HA.out ▸ load_U zs h.rm.bytes t
  clear h
  go_enter Tryd.func17, Tryd.ntmps17
  go_wp2_with fail
  refine C.mono ?_
  rintro e w1 ⟨rfl, rfl⟩
  go_wp2_with fail
  go_quiet ((go_at_call 29; refine Calls.quiet_of_same (HD.out _)))
  have hb1 := same_drewN w1 nq
  have h1 := HX.out.below hb1
  have HB1 : Hid (Below w1.heap.size w1 (w1.drewN nq)) := hb1
  generalize w1.drewN nq = y1 at *
  have HD1 : Hid (∀ m, Calls Tryd.prog 29 #[.pointer (some ⟨b, 0, none⟩), .int .u64 (t + 8), .int .i64 8] (y1.drewN m) fun e w' => e = .returned (.tuple #[.int .u64 (loadV zs (t + 8) 8), .int .i64 0]) ∧ w' = y1.drewN m) := fun m => rload8 (h1.below (same_drewN y1 m)) (t + 8) (.inr rfl)
  rw [HB.out] at HD1
  have HX1 : Hid (RK y1 q b g s u zs t n S T) := h1
  clear c0 c1 c2 c3 C HD hl
  obtain ⟨c0, c1, c2, c3⟩ := h1.cells
  have hl := h1.lt
  clear h1 hb1
  go_wp2_with fail
  go_quiet ((go_at_call 29; refine Calls.quiet_of_same (HD1.out _)))
  have hb2 := same_drewN y1 nq
  have h2 := HX1.out.below hb2
  have HB2 : Hid (Below w1.heap.size w1 (y1.drewN nq)) := HB1.out.trans (hb2.mono HB1.out.size)
  generalize y1.drewN nq = y2 at *
  have HX2 : Hid (RK y2 q b g s u zs t n S T) := h2
  clear c0 c1 c2 c3 HD1 hl HX1 HB1
  obtain ⟨c0, c1, c2, c3⟩ := h2.cells
  have hl := h2.lt
  have e0 := h2.rs.at c hc
  have hls := h2.rs.lt
  clear h2 hb2
  rw [k1] at e0
  have e1 := (HX2.out).rt.at c hc
  have hlu := (HX2.out).rt.lt
  have f1 := (HX2.out).rt.f c
  obtain ⟨h3, r3⟩ := HX2.out.setT c hc A
  obtain ⟨nq1, nq2, _⟩ := h3.nes
  have HR3 : Hid (Trn (ROwn s u g) w1 (y2.setCell ⟨u, c, none⟩ (.int .u64 A))) := (Trn.of_below HB2.out).trans r3
  have H3 : Hid (RK (y2.setCell ⟨u, c, none⟩ (.int .u64 A)) q b g s u zs t n S (upd T c A)) := h3
  have nq2' : ¬ q = u := nq2
  clear k1 r3 h3
  go_wp2_with fail
  generalize y2.setCell ⟨u, c, none⟩ (.int .u64 A) = y3 at *
  have h3 := H3.out
  clear H3
  have h3d := h3.below (Below.refl _ _).drew
  have D := rmstore_any b g zs t 8 (inc A) y3.drew h3d.rm t0 (by omega) (by decide) (inc_U A).1 (inc_U A).2
  rw [num_ok zs.length t h3.t8 (by have := h3.t16; omega)] at D
  obtain ⟨d0, d1, d2, d3⟩ := h3d.cells
  have HX3 : Hid (RK y3.drew q b g s u zs t n S (upd T c A)) := h3d
  have hl3 := h3.lt
  have hp : w1.heap.size ≤ w1.heap.size := Nat.le_refl _
  clear h3 h3d c0 c1 c2 c3 hl HX2 HB2 e0 e1 f1 hls hlu
  go_region_held (fun w' => w'.cell? ⟨q, 0, none⟩ = some (.pointer (some ⟨b, 0, none⟩)) ∧ w'.cell? ⟨q, 1, none⟩ = some (.int .u64 t)) (first | exact ⟨d0, d1⟩ | exact x4)
    (first | (go_at_call 19; refine D.mono ?_; rintro e y4 ⟨rfl, hm4, hg4⟩; (have x4 := (HX3.out.mem hm4 (storeV_len _ _ _ _ t0) hg4).1.cells01)))
  all_goals
    obtain ⟨h4, r4⟩ := HX3.out.mem hm4 (storeV_len _ _ _ _ t0) hg4
    obtain ⟨g0, g1, g2, g3⟩ := h4.cells
    have e4 := h4.rs.at c hc
    have f4 := h4.rs.f c
    have l4 := h4.lt
    have ls4 := h4.rs.lt
    obtain ⟨h5, r5⟩ := h4.setS c hc 2
    have hqs : ¬ q = s := h4.nes.1
    have HF : Hid (RK (y4.setCell ⟨s, c, none⟩ (.int .i64 2)) q b g s u (storeV zs t 8 (inc A)) t n (upd S c 2) (upd T c A) ∧ Trn (ROwn s u g) w1 (y4.setCell ⟨s, c, none⟩ (.int .i64 2))) := ⟨h5, ((HR3.out.drew).trans r4).trans r5⟩
    clear h4 r4 h5 r5 hm4 hg4 x4 D d0 d1 d2 d3 HX3 HR3
    go_wp2_with fail
    go_ret2
    exact ⟨rfl, HF.out.1, HF.out.2⟩
set_option maxHeartbeats 2000000 in
theorem rstep_gives (q b g s u : Nat) (zs : List Int) (t : Int) (n : Nat) (S T : Nat → Int) (c : Nat) (w : World) (h : RK w q b g s u zs t n S T) (hc : c < n) (k4 : S c = 4) : Calls Tryd.prog 17 #[.pointer (some ⟨q, 0, none⟩), .int .i64 c] w fun e w' =>
    e = .returned (.tuple #[.int .i64 0, .int .i64 0]) ∧ RK w' q b g s u (storeV zs (t + 8) 8 (inc (loadV zs (t + 8) 8))) t n (upd S c 0) T ∧ Trn (ROwn s u g) w w' := by
  have C := rhas_rk q b g s u zs t n S T c w h
  rw [hasC_nat hc] at C
  obtain ⟨c0, c1, c2, c3⟩ := h.cells
  have hl := h.lt
  have hc' : (c : Int) < (n : Int) := by omega
  have ts : t + 16 ≤ 16777216 := by have := h.t16; have := h.rm.len; omega
  have t0 := h.t0
  have HX : Hid (RK w q b g s u zs t n S T) := h
  have HD : Hid (∀ m, Calls Tryd.prog 29 #[.pointer (some ⟨b, 0, none⟩), .int .u64 t, .int .i64 8] (w.drewN m) fun e w' => e = .returned (.tuple #[.int .u64 (loadV zs t 8), .int .i64 0]) ∧ w' = w.drewN m) := fun m => rload8 (h.below (same_drewN w m)) t (.inl rfl)
  obtain ⟨A, HA⟩ : ∃ A, Hid (loadV zs t 8 = A) := ⟨_, rfl⟩
  obtain ⟨B, HB⟩ : ∃ B, Hid (loadV zs (t + 8) 8 = B) := ⟨_, rfl⟩
  rw [HA.out] at HD
  rw [HB.out]
  have hBU : U B := HB.out ▸ load_U zs h.rm.bytes (t + 8)
  clear h
  go_enter Tryd.func17, Tryd.ntmps17
  go_wp2_with fail
  refine C.mono ?_
  rintro e w1 ⟨rfl, rfl⟩
  go_wp2_with fail
  go_quiet ((go_at_call 29; refine Calls.quiet_of_same (HD.out _)))
  have hb1 := same_drewN w1 nq
  have h1 := HX.out.below hb1
  have HB1 : Hid (Below w1.heap.size w1 (w1.drewN nq)) := hb1
  generalize w1.drewN nq = y1 at *
  have HD1 : Hid (∀ m, Calls Tryd.prog 29 #[.pointer (some ⟨b, 0, none⟩), .int .u64 (t + 8), .int .i64 8] (y1.drewN m) fun e w' => e = .returned (.tuple #[.int .u64 (loadV zs (t + 8) 8), .int .i64 0]) ∧ w' = y1.drewN m) := fun m => rload8 (h1.below (same_drewN y1 m)) (t + 8) (.inr rfl)
  rw [HB.out] at HD1
  have HX1 : Hid (RK y1 q b g s u zs t n S T) := h1
  clear c0 c1 c2 c3 C HD hl
  obtain ⟨c0, c1, c2, c3⟩ := h1.cells
  have hl := h1.lt
  clear h1 hb1
  go_wp2_with fail
  go_quiet ((go_at_call 29; refine Calls.quiet_of_same (HD1.out _)))
  have hb2 := same_drewN y1 nq
  have h2 := HX1.out.below hb2
  have HB2 : Hid (Below w1.heap.size w1 (y1.drewN nq)) := HB1.out.trans (hb2.mono HB1.out.size)
  generalize y1.drewN nq = y2 at *
  have HX2 : Hid (RK y2 q b g s u zs t n S T) := h2
  clear c0 c1 c2 c3 HD1 hl HX1 HB1
  obtain ⟨c0, c1, c2, c3⟩ := h2.cells
  have hl := h2.lt
  have e0 := h2.rs.at c hc
  have hls := h2.rs.lt
  clear h2 hb2
  rw [k4] at e0
  have HR3 : Hid (Trn (ROwn s u g) w1 y2) := .of_below HB2.out
  clear k4
  go_wp2_with fail
  have h3 := HX2.out
  have h3d := h3.below (Below.refl _ _).drew
  have D := rmstore_any b g zs (t + 8) 8 (inc B) y2.drew h3d.rm (by omega) (by omega) (by decide) (inc_U B).1 (inc_U B).2
  rw [num_ok zs.length (t + 8) (by have := h3.t8; omega) (by have := h3.t16; omega)] at D
  obtain ⟨d0, d1, d2, d3⟩ := h3d.cells
  have HX3 : Hid (RK y2.drew q b g s u zs t n S T) := h3d
  have hl3 := h3.lt
  have t08 : 0 ≤ t + 8 := by omega
  have ew : IntKind.u64.wrap (t + 8) = t + 8 := by rw [IntKind.wrap_u64]; omega
  clear h3 h3d c0 c1 c2 c3 hl HX2 HB2 e0 hls
  go_region_held (fun w' => w'.cell? ⟨q, 0, none⟩ = some (.pointer (some ⟨b, 0, none⟩)) ∧ w'.cell? ⟨q, 1, none⟩ = some (.int .u64 t)) (first | exact ⟨d0, d1⟩ | exact x4)
    (first | (go_at_call 19; refine D.mono ?_; rintro e y4 ⟨rfl, hm4, hg4⟩; (have x4 := (HX3.out.mem hm4 (storeV_len _ _ _ _ t08) hg4).1.cells01)))
  all_goals
    obtain ⟨h4, r4⟩ := HX3.out.mem hm4 (storeV_len _ _ _ _ t08) hg4
    obtain ⟨g0, g1, g2, g3⟩ := h4.cells
    have e4 := h4.rs.at c hc
    have f4 := h4.rs.f c
    have l4 := h4.lt
    have ls4 := h4.rs.lt
    obtain ⟨h5, r5⟩ := h4.setS c hc 0
    have hqs : ¬ q = s := h4.nes.1
    have HF : Hid (RK (y4.setCell ⟨s, c, none⟩ (.int .i64 0)) q b g s u (storeV zs (t + 8) 8 (inc B)) t n (upd S c 0) T ∧ Trn (ROwn s u g) w1 (y4.setCell ⟨s, c, none⟩ (.int .i64 0))) := ⟨h5, ((HR3.out.drew).trans r4).trans r5⟩
    clear h4 r4 h5 r5 hm4 hg4 x4 D d0 d1 d2 d3 HX3 HR3
    go_wp2_with fail
    go_ret2
    exact ⟨rfl, HF.out.1, HF.out.2⟩
theorem rstep_rk (q b g s u : Nat) (zs : List Int) (t : Int) (n : Nat) (S T : Nat → Int) (c : Nat) (w : World) (h : RK w q b g s u zs t n S T) (hc : c < n) (hs : 0 ≤ S c ∧ S c ≤ 4) : Calls Tryd.prog 17 #[.pointer (some ⟨q, 0, none⟩), .int .i64 c] w fun e w' =>
    e = .returned (.tuple #[.int .i64 (stpS t zs (S c) (T c)), .int .i64 0]) ∧ RK w' q b g s u (stpZ t zs (S c)) t n (upd S c (stpS t zs (S c) (T c))) (upd T c (stpT t zs (S c) (T c))) ∧ Trn (ROwn s u g) w w' := by
  by_cases k1 : S c = 1
  · refine (rstep_wants q b g s u zs t n S T c w h hc k1).mono ?_
    rintro e w' ⟨rfl, h1, h2⟩
    rw [k1]
    exact ⟨rfl, h1, h2⟩
  by_cases k2 : S c = 2
  · by_cases kB : loadV zs (t + 8) 8 = T c
    · refine (rstep_spins_yes q b g s u zs t n S T c w h hc k2 kB).mono ?_
      rintro e w' ⟨rfl, h1, h2⟩
      rw [k2, show stpS t zs 2 (T c) = 3 by simp [stpS, kB], show stpT t zs 2 (T c) = T c from rfl, show stpZ t zs 2 = zs from rfl, show upd T c (T c) = T from upd_eq T c]
      exact ⟨rfl, h1, h2⟩
    · refine (rstep_spins_no q b g s u zs t n S T c w h hc k2 kB).mono ?_
      rintro e w' ⟨rfl, h1⟩
      rw [k2, show stpS t zs 2 (T c) = 2 by simp [stpS, kB], show stpT t zs 2 (T c) = T c from rfl, show stpZ t zs 2 = zs from rfl, show upd T c (T c) = T from upd_eq T c, show upd S c 2 = S by rw [← k2]; exact upd_eq S c]
      exact ⟨rfl, h.below h1, .of_below h1⟩
  by_cases k4 : S c = 4
  · refine (rstep_gives q b g s u zs t n S T c w h hc k4).mono ?_
    rintro e w' ⟨rfl, h1, h2⟩
    rw [k4, show stpT t zs 4 (T c) = T c from rfl, show upd T c (T c) = T from upd_eq T c]
    exact ⟨rfl, h1, h2⟩
  · refine (rstep_stay q b g s u zs t n S T c w h hc k1 k2 k4).mono ?_
    rintro e w' ⟨rfl, h1⟩
    rw [show stpS t zs (S c) (T c) = S c by simp [stpS, k1, k2, k4], show stpT t zs (S c) (T c) = T c by simp [stpT, k1], show stpZ t zs (S c) = zs by simp [stpZ, k1, k4], upd_eq S c, upd_eq T c]
    exact ⟨rfl, h.below h1, .of_below h1⟩
end Go.Proofs.YtioanbdmkiphfaaDoor
