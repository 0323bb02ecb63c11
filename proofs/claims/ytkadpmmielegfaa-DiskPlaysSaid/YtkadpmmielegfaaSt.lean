/-
  Blocks and what is pending are the document's: what stands does.
-/
import Derived.Test.YtkadpmmielegfaaRb
namespace Go.Proofs.Ytkadpmmielegfaa
open Go.RowKit Go.Maps
set_option linter.unusedVariables false
set_option maxRecDepth 20000

theorem Row.setId {T : TypeId} {w : World} {g c n : Nat} {F : Nat → Rq} (h : Row T w g c n F) (i : Nat) (hi : i < n) (z : Int) :
    Row T (w.setCell ⟨g, i * 4, none⟩ (.int .i64 z)) g c n (fun k => if k = i then ⟨z, (F k).w, (F k).b, (F k).f⟩ else F k) ∧ w.grownBy (w.setCell ⟨g, i * 4, none⟩ (.int .i64 z)) (some g) := by
  obtain ⟨cur, h0, h1, h2, h3, h4⟩ := h
  obtain ⟨cur', r1, r2, r3, r4⟩ := setCells_heap g T [.int .i64 z] (i * 4) w cur h0 (by simp; omega)
  have e : w.setCells g (i * 4) [.int .i64 z] = w.setCell ⟨g, i * 4, none⟩ (.int .i64 z) := rfl
  rw [e] at r1 r4
  refine ⟨⟨cur', r1, by omega, h2, h3, fun k hk => ?_⟩, r4⟩
  obtain ⟨a, b, c, d⟩ := h4 k hk
  simp only [List.length_singleton] at r3
  by_cases hki : k = i
  · subst hki
    rw [r3, r3, r3, r3, if_pos (by omega), if_neg (by omega), if_neg (by omega), if_neg (by omega)]
    simp [b, c, d]
  · rw [r3, r3, r3, r3, if_neg (by omega), if_neg (by omega), if_neg (by omega), if_neg (by omega)]
    simp only [hki, if_false]
    exact ⟨a, b, c, d⟩

set_option maxHeartbeats 1600000 in
theorem stands_any (N0 D m R rb B : Nat) (v u : Value) (ps : List Rq) (zs : List Int) (w : World) (h : DK N0 w D m B v ps zs) (hr : RD N0 w R rb B u ps zs) :
    Calls Try.prog 22 #[.pointer (some ⟨D, 0, none⟩), .pointer (some ⟨R, 0, none⟩)] w fun e w' => e = .returned (.bool true) ∧ Below w.heap.size w w' := by
  have PE := pending_dk N0 D m B v ps zs w h
  have HH : Hid (DK N0 w D m B v ps zs ∧ RD N0 w R rb B u ps zs) := ⟨h, hr⟩
  clear h hr
  go_enter Try.func22, Try.ntmps22
  go_wp2_with fail
  refine PE.mono ?_
  rintro e w1 ⟨g, rfl, hrow, hg, b1⟩
  clear PE
  obtain ⟨h0, r0⟩ := HH.out
  have h1 := h0.below b1
  have r1 := r0.below b1
  have BL : ∀ k, Calls Try.prog 24 #[.pointer (some ⟨D, 0, none⟩)] (w1.drewN k) fun e w' => e = .returned (.int .i64 B) ∧ w' = w1.drewN k := fun k => blocks_dk N0 D m B v ps zs _ (h1.below (below_drewN (Below.refl _ _) k))
  obtain ⟨a, c, hv, hc1, hc2⟩ := r1.ord.form
  have c0 := r1.c0
  rw [r1.len] at c0
  have c1 := r1.c1
  rw [hv] at c1
  have rl := r1.lt
  have pn := r1.pn
  have b2 := r1.b2
  have hdiv : ((B * 256 : Nat) : Int) / 256 = B := by omega
  have HR : Hid (RD N0 w1 R rb B u ps zs ∧ Row 38 w1 g ps.length ps.length (fun i => ps.getD i q0) ∧ Below w.heap.size w w1) := ⟨r1, hrow, b1⟩
  clear h0 r0 h1 r1 hrow b1 HH
  go_wp2_with fail
  go_quiet ((go_at_call 24; exact Calls.quiet_of_same (BL _)))
  clear BL
  go_wp2_with fail
  go_loopw [6] (fun i wr => ∃ (j : Nat) (F : Nat → Rq), j ≤ ps.length ∧ i = .int .i64 j ∧ Hid (RD N0 wr R rb B u ps zs ∧ Row 38 wr g ps.length ps.length F ∧ (∀ q, j ≤ q → q < ps.length → F q = ps.getD q q0) ∧ Below w.heap.size w wr)) (fun i _ => ps.length - (intOf i).toNat)
  case atStart =>
    have hb := below_drewN (Below.refl w1.heap.size w1) nq
    exact ⟨0, _, by omega, rfl, HR.out.1.below hb, HR.out.2.1.keep (hb.block g HR.out.2.1.lt), fun q _ _ => rfl, HR.out.2.2.trans (hb.mono HR.out.2.2.size)⟩
  case round =>
    obtain ⟨j, F, hj, rfl, E⟩ := hrel
    clear HR c0 c1 rl
    by_cases hjl : j < ps.length
    · have hj' : (j : Int) < (ps.length : Int) := by omega
      obtain ⟨rd, rw1, hF, bw⟩ := E.out
      have c1 := rd.c1
      rw [hv] at c1
      have rl := rd.lt
      obtain ⟨gg, c', hv', hrr⟩ := rd.ord.at hjl
      rw [hv] at hv'
      simp only [Value.slice.injEq] at hv'
      obtain ⟨rfl, _, rfl⟩ := hv'
      obtain ⟨x0, x1, x2, x3⟩ := hrr.c j hjl
      obtain ⟨y0, y1, y2, y3⟩ := rw1.c j hjl
      rw [hF j (Nat.le_refl _) hjl] at y0 y1 y2 y3
      have gl := rw1.lt
      have ggl := hrr.lt
      have fz := rw1.fz (j * 4)
      have HN : Hid (∀ k, ∃ F, RD N0 ((wr.drewN k).setCell ⟨g, j * 4, none⟩ (.int .i64 (-9))) R rb B u ps zs ∧ Row 38 ((wr.drewN k).setCell ⟨g, j * 4, none⟩ (.int .i64 (-9))) g ps.length ps.length F ∧ (∀ q, j + 1 ≤ q → q < ps.length → F q = ps.getD q q0) ∧ Below w.heap.size w ((wr.drewN k).setCell ⟨g, j * 4, none⟩ (.int .i64 (-9)))) := fun k => by
        have hb := below_drewN (Below.refl wr.heap.size wr) k
        have rd' := rd.below hb
        have rw' := rw1.keep (hb.block g rw1.lt)
        have bw' := bw.trans (hb.mono bw.size)
        obtain ⟨st1, st2⟩ := rw'.setId j hjl (-9)
        refine ⟨_, ?_, st1, fun q hq hql => ?_, bw'.grown st2 (by have := hb.size; have := bw.size; omega) (by intro q h; cases h; exact hg)⟩
        · obtain ⟨cur, hcur, _⟩ := rw'
          refine rd'.keep (S := fun q => q = g) (Trn.of_grown st2 rfl) (ne_typ rd'.cell hcur (by decide)) (ne_typ rd'.row hcur (by decide)) (fun q hq e => ?_)
          obtain ⟨cur2, hh⟩ := rd'.ord.typ q hq
          exact ne_typ hh hcur (by decide) e
        · rw [if_neg (by omega)]
          exact hF q (by omega) hql
      clear rd rw1 hF bw hrr E
      generalize ps.getD j q0 = r at *
      go_wp2_with fail
      go_quiet (fail)
      go_wp2_with fail
      go_roundw
      case rel =>
        obtain ⟨F', hF'⟩ := HN.out nq
        exact ⟨j + 1, F', by omega, by go_num, hF'⟩
      case measure => simp [intOf]; omega
    · have hj9 : (ps.length : Int) ≤ (j : Int) := by omega
      have bw := E.out.2.2.2
      have HB : Hid (_) := bw
      clear bw
      go_wp2_with fail
      go_ret
      exact ⟨rfl, HB.out⟩
end Go.Proofs.Ytkadpmmielegfaa
