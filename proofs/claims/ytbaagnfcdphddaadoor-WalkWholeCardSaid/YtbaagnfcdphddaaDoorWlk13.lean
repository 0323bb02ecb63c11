/-
  What the closure of the first stage tells where the second one lets the entry's address through: its contract; and what firstStage's closure is to a walk.
-/
import Derived.Test.YtbaagnfcdphddaaDoorWlk12
namespace Go.Proofs.YtbaagnfcdphddaaDoor
open Go.RowKit
set_option linter.unusedVariables false
set_option maxRecDepth 20000

theorem gr_setCell {W w : World} {lv o : Nat} {v : Value} (h : W.grownBy w (some lv)) : W.grownBy (w.setCell ⟨lv, o, none⟩ v) (some lv) :=
  ⟨h.os, h.tape, h.output, by simpa [World.setCell] using h.size, fun k hk hr => (Below.heap_setCell _ _ _ _ (fun e => hr (by rw [e]))).trans (h.block k hk hr)⟩

set_option maxHeartbeats 1600000 in
theorem fs_yes (t a : Int) (u : Bool) (second f p L : Int) (b g c m sc lv : Nat) (zs : List Int) (w : World) (hS : St w b g zs) (hC : Caps w b c m sc t a u second) (hs1 : second < 9223372036854775808)
    (hf0 : 0 ≤ f) (hp0 : 0 ≤ p) (hp1 : p < 32) (hf : f ≤ 72057594037927935) (E : En) (hE : oneP zs second (atP f p) 1 true = some E)
    (hlv : 1 < lv) (hbv : b ≠ lv) (hgv : g ≠ lv) (hcv : c ≠ lv) (hmv : m ≠ lv) (hl : lv < w.heap.size) (hL : w.cell? ⟨lv, 0, none⟩ = some (.int .i64 L)) (hF : w.frozen? ⟨lv, 0, none⟩ = false) :
    Calls Tryd.prog 30 #[.int .i64 f, .int .i64 p, .pointer (some ⟨m, 0, none⟩), .pointer (some ⟨sc, 0, none⟩), .pointer (some ⟨c, 0, none⟩), .pointer (some ⟨lv, 0, none⟩)] w fun e w' => e = .returned (rdV t a (readP zs E.f p)) ∧ w.grownBy w' (some lv) ∧ w'.cell? ⟨lv, 0, none⟩ = some (.int .i64 (wrap64 (L + 3))) ∧ w'.frozen? ⟨lv, 0, none⟩ = false := by
  have C1 := entryAt_any f p hf0 (by omega) hp0 hp1
  have C2 := fun w h => second_any (atP f p) 1 second b g zs (at_range f p).1 (at_range f p).2 hs1 w h
  have hfr := oneP_frame hE
  have C5 := fun w h => read_any t a u E.f p b g zs hfr.1 (by omega) hp0 hp1 w h
  rw [hE] at C2
  rw [decide_eq_true hf] at C1
  obtain ⟨c0, c1, c2, m0, s0, cl, ml, sl⟩ := hC
  have HS : Hid (St w b g zs) := hS
  clear hS hE
  obtain ⟨xv, xr, xw, xx, xu, xs, xd, xf⟩ := E
  unfold oneV foundV askV at *
  simp only at *
  obtain ⟨ev, er, ew, ex, eu, es, ed, ef, tc, tv, tg, e5⟩ : ∃ ev er ew ex eu es ed ef tc tv tg, rdV t a (readP zs xf p) = .tuple #[.agg #[.bool ev, .bool er, .bool ew, .bool ex, .bool eu, .bool es, .bool ed, .int .i64 ef], .agg #[.int .i64 tc, .int .u64 tv, .int .u64 tg]] := by
    cases readP zs xf p
    · exact ⟨_, _, _, _, _, _, _, _, _, _, _, rfl⟩
    · exact ⟨_, _, _, _, _, _, _, _, _, _, _, rfl⟩
  rw [e5] at C5 ⊢
  clear e5
  generalize atP f p = q at *
  go_enter Tryd.func30, Tryd.ntmps30
  go_wp2_with fail
  refine (C1 _).mono ?_
  rintro e w1 ⟨rfl, rfl⟩
  go_wp2_with fail
  refine (C2 _ (HS.out.below (((Below.refl _ _).alloc (Nat.le_refl _) _).alloc (by simp) _))).mono ?_
  rintro e w2 ⟨rfl, hb2⟩
  have HB2 : Hid (Below w.heap.size w w2) := (((Below.refl _ _).alloc (Nat.le_refl _) _).alloc (by simp) _).trans (hb2.mono (by simp; omega))
  obtain ⟨n0, o0⟩ := bel_cell hb2 (b := w.heap.size) (by simp; omega)
  obtain ⟨n1, o1⟩ := bel_cell hb2 (b := w.heap.size + 1) (by simp)
  obtain ⟨nc, oc⟩ := bel_cell HB2.out cl
  obtain ⟨nm, om⟩ := bel_cell HB2.out ml
  obtain ⟨nl, ol⟩ := bel_cell HB2.out hl
  have hz1 : w.heap.size + 1 < w2.heap.size := by have := hb2.size; simp at this; omega
  have hz0 : w.heap.size < w2.heap.size := by omega
  have hcl : c < w2.heap.size := by omega
  have hml : m < w2.heap.size := by omega
  have hll : lv < w2.heap.size := by omega
  have k0 : w.heap.size ≠ lv := by omega
  have k1 : w.heap.size + 1 ≠ lv := by omega
  clear hb2 C1 C2
  go_wp2_with fail
  have HG5 : Hid (w.grownBy (w2.setCell ⟨lv, 0, none⟩ (.int .i64 (wrap64 (L + 3)))) (some lv)) := gr_setCell (grown_some HB2.out _)
  have hsz5 : (w2.setCell ⟨lv, 0, none⟩ (.int .i64 (wrap64 (L + 3)))).heap.size = w2.heap.size := by simp [World.setCell]
  refine (C5 _ (HS.out.kept hlv hbv hgv (gr_below HG5.out ((Below.refl _ _).alloc (by rw [hsz5]; omega) _)))).mono ?_
  rintro e w6 ⟨rfl, hb6⟩
  have HB6 : Hid (Below w2.heap.size (w2.setCell ⟨lv, 0, none⟩ (.int .i64 (wrap64 (L + 3)))) w6) := ((Below.refl _ _).alloc (by rw [hsz5]; omega) _).trans (hb6.mono (by simp))
  obtain ⟨r0, q0⟩ := bel_cell HB6.out hz0
  obtain ⟨r1, q1⟩ := bel_cell HB6.out hz1
  obtain ⟨rl, ql⟩ := bel_cell HB6.out hll
  have hz6 : w.heap.size + 1 < w6.heap.size := by have := HB6.out.size; rw [hsz5] at this; omega
  have HG6 : Hid (w.grownBy w6 (some lv)) := gr_below HG5.out (HB6.out.mono (by omega))
  have hL6 : w6.cell? ⟨lv, 0, none⟩ = some (.int .i64 (wrap64 (L + 3))) := (rl 0).trans (by simp [go_sem, nl, hL])
  have hF6 : w6.frozen? ⟨lv, 0, none⟩ = false := (ql 0).trans (by simp [go_sem, ol, hF])
  have HL6 : Hid (_) := hL6
  have HF6 : Hid (_) := hF6
  clear hb6 C5 rl ql nl ol hL6 hF6 hL hF HB6 hsz5 HG5
  go_wp2_with fail
  have HE : Below w.heap.size w6 _ := below_set83 (Below.refl _ w6) (b := w.heap.size) (c := w.heap.size + 1) (Nat.le_refl _) (by omega) (.bool ev) (.bool er) (.bool ew) (.bool ex) (.bool eu) (.bool es) (.bool ed) (.int .i64 ef) (.int .i64 tc) (.int .u64 tv) (.int .u64 tg)
  obtain ⟨fl, gl⟩ := bel_cell HE hl
  refine bodyPost_ret (v := _) ?h1 rfl ⟨rfl, gr_below HG6.out HE, (fl 0).trans HL6.out, (gl 0).trans HF6.out⟩
  case h1 => simp [results, Tryd.results30, go_sem, r0, r1, n0, n1]

theorem fs_reads (t a : Int) (u : Bool) (second : Int) (b g c m sc lv : Nat) (zs : List Int) (W0 : World) (hS : St W0 b g zs) (hC : Caps W0 b c m sc t a u second) (hs1 : second < 9223372036854775808)
    (hlv : 1 < lv) (hbv : b ≠ lv) (hgv : g ≠ lv) (hcv : c ≠ lv) (hmv : m ≠ lv) (hsv : sc ≠ lv) (hl : lv < W0.heap.size) :
    Reads 30 #[.pointer (some ⟨m, 0, none⟩), .pointer (some ⟨sc, 0, none⟩), .pointer (some ⟨c, 0, none⟩), .pointer (some ⟨lv, 0, none⟩)] W0.heap.size (some lv)
      (fun k w => W0.grownBy w (some lv) ∧ w.cell? ⟨lv, 0, none⟩ = some (.int .i64 (wrap64 (3 * k))) ∧ w.frozen? ⟨lv, 0, none⟩ = false) (fsR zs second t a) := by
  refine ⟨fun _ _ => (by kernel_rfl), ?_, fun k h => (by cases h; exact hl), ?_, fun f p c v g h => fsR_no h, fun f p e h => fsR_frame h⟩
  · rintro k w w' ⟨h1, h2, h3⟩ hb
    obtain ⟨fl, gl⟩ := bel_cell hb hl
    exact ⟨gr_below h1 hb, (fl 0).trans h2, (gl 0).trans h3⟩
  · rintro k f p w hf0 hf1 hp0 hp1 hN ⟨h1, h2, h3⟩
    have hS1 := hS.kept hlv hbv hgv h1
    obtain ⟨c0, c1, c2, m0, s0, cl, ml, sl⟩ := hC
    have e1 : ∀ x, x < W0.heap.size → x ≠ lv → ∀ o, w.cell? ⟨x, o, none⟩ = W0.cell? ⟨x, o, none⟩ := fun x hx hne o => World.cell?_of_block (a := ⟨x, o, none⟩) (h1.block x hx (by simpa using hne))
    have hsz := h1.size
    have hC1 : Caps w b c m sc t a u second := ⟨(e1 c cl hcv 0).trans c0, (e1 c cl hcv 1).trans c1, (e1 c cl hcv 2).trans c2, (e1 m ml hmv 0).trans m0, (e1 sc sl hsv 0).trans s0, by omega, by omega, by omega⟩
    have hneg : (f ≤ 72057594037927935 → oneP zs second (atP f p) 1 true = none) → Calls Tryd.prog 30 #[.int .i64 f, .int .i64 p, .pointer (some ⟨m, 0, none⟩), .pointer (some ⟨sc, 0, none⟩), .pointer (some ⟨c, 0, none⟩), .pointer (some ⟨lv, 0, none⟩)] w fun e w' => e = .returned (fsR zs second t a f p).val ∧ w.grownBy w' (some lv) ∧ ((fsR zs second t a f p).isOk = true → (W0.grownBy w' (some lv) ∧ w'.cell? ⟨lv, 0, none⟩ = some (.int .i64 (wrap64 (3 * ((k + 1 : Nat) : Int)))) ∧ w'.frozen? ⟨lv, 0, none⟩ = false)) := by
      intro hn
      have e : fsR zs second t a f p = .no (faultP a 20 21 23) t (atP f p) := by
        unfold fsR
        by_cases hf : f ≤ 72057594037927935
        · rw [if_pos hf, hn hf]
        · rw [if_neg hf]
      rw [e]
      exact (fs_no t a u second f p b g c m sc lv zs w hS1 hC1 hs1 hf0 hf1 hp0 hp1 hn).mono fun e w' ⟨x, y⟩ => ⟨x, grown_some y _, fun h => by cases h⟩
    by_cases hf : f ≤ 72057594037927935
    · cases hE : oneP zs second (atP f p) 1 true with
      | none => exact hneg fun _ => hE
      | some E =>
        have e : fsR zs second t a f p = rdR zs t a E.f p := by unfold fsR; rw [if_pos hf, hE]
        rw [e, rdR_val]
        exact (fs_yes t a u second f p _ b g c m sc lv zs w hS1 hC1 hs1 hf0 hp0 hp1 hf E hE hlv hbv hgv hcv hmv (by omega) h2 h3).mono fun e w' ⟨x, y, z, z'⟩ => ⟨x, y, fun _ => ⟨grown_trans h1 y, z.trans (by rw [lev_next]), z'⟩⟩
    · exact hneg fun h => absurd h hf
end Go.Proofs.YtbaagnfcdphddaaDoor
