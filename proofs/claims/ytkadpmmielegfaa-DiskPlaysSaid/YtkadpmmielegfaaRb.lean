/-
  What Submit, Put and Block of the document's disk do.
-/
import Derived.Test.YtkadpmmielegfaaRa
namespace Go.Proofs.Ytkadpmmielegfaa
open Go.RowKit Go.Maps
set_option linter.unusedVariables false
set_option maxRecDepth 20000

set_option maxHeartbeats 1600000 in
theorem rdsubmit_any (N0 R rb B : Nat) (v : Value) (ps : List Rq) (zs : List Int) (r : Rq) (w : World) (h : RD N0 w R rb B v ps zs) (hN : N0 ≤ w.heap.size) :
    Calls Try.prog 13 #[.pointer (some ⟨R, 0, none⟩), rv r] w fun e w' => e = .returned (.int .i64 (subE B ps r)) ∧ ∃ v', RD N0 w' R rb B v' (subP B ps r) zs ∧ Trn (SD R v) w w' := by
  have b0 : Below w.heap.size w (w.alloc (.cells (rc r).toArray 44)) := (Below.refl _ _).alloc (Nat.le_refl _) _
  have h0 := h.below b0
  have CH := rdhas_any N0 R rb B v ps zs r.b _ h0
  by_cases hb : 0 ≤ r.b ∧ r.b < B
  · rw [decide_eq_true hb] at CH
    obtain ⟨a, c, hv, hc1, hc2⟩ := h.ord.form
    have H0 : Hid (RD N0 (w.alloc (.cells (rc r).toArray 44)) R rb B v ps zs ∧ RD N0 w R rb B v ps zs ∧ Below w.heap.size w (w.alloc (.cells (rc r).toArray 44))) := ⟨h0, h, b0⟩
    have c1 := h.c1
    rw [hv] at c1
    have hl := h.lt
    have pn := h.pn
    clear h h0 b0
    simp only [rc, rv] at *
    go_enter Try.func13, Try.ntmps13
    go_wp2_with fail
    refine CH.mono ?_
    rintro e y ⟨rfl, rfl⟩
    clear CH
    go_wp2_with fail
    go_loopw [5] (fun i wr => ∃ (j k : Nat), j ≤ ps.length ∧ i = .int .i64 j ∧ wr = (w.alloc (.cells #[.int .i64 r.i, .bool r.w, .int .i64 r.b, .int .i64 r.f] 44)).drewN k ∧ Hid (∀ q, q < j → (ps.getD q q0).i ≠ r.i)) (fun i _ => ps.length - (intOf i).toNat)
    case atStart => exact ⟨0, 0, by omega, rfl, rfl, fun q hq => absurd hq (by omega)⟩
    case round =>
      obtain ⟨j, k, hj, rfl, rfl, HJ⟩ := hrel
      by_cases hjl : j < ps.length
      · have hj' : (j : Int) < (ps.length : Int) := by omega
        obtain ⟨gg, c', hv', hr⟩ := H0.out.2.1.ord.at hjl
        obtain ⟨c0, _, _, _⟩ := hr.c j hjl
        have hgl := hr.lt
        rw [hv] at hv'
        simp only [Value.slice.injEq] at hv'
        obtain ⟨rfl, _, rfl⟩ := hv'
        clear hr
        by_cases he : (ps.getD j q0).i = r.i
        · have hany : ps.any (fun q => q.i == r.i) = true := by
            rw [List.any_eq_true]
            refine ⟨ps[j], List.getElem_mem _, ?_⟩
            simpa [List.getD, List.getElem?_eq_getElem hjl] using he
          have HE : Hid (subE B ps r = 13 ∧ subP B ps r = ps) := by
            have e : subE B ps r = 13 := by simp [subE, hb, hany]
            exact ⟨e, by simp [subP, e]⟩
          clear hany
          rw [he] at c0
          clear he
          go_wp2_with fail
          go_quiet (fail)
          go_wp2_with fail
          go_ret
          refine ⟨ret_int HE.out.1.symm, v, ?_, Trn.of_below (below_drewN (below_drewN H0.out.2.2 _) _)⟩
          rw [HE.out.2]
          exact (H0.out.1.below (below_drewN (Below.refl _ _) _)).below (below_drewN (Below.refl _ _) _)
        · have hne : ((ps.getD j q0).i == r.i) = false := beq_false_of_ne he
          have HN : Hid (∀ q, q < j + 1 → (ps.getD q q0).i ≠ r.i) := fun q hq => by
            rcases Nat.lt_succ_iff_lt_or_eq.1 hq with h | rfl
            · exact HJ.out q h
            · exact he
          clear he
          generalize (ps.getD j q0).i = z at *
          go_wp2_with fail
          go_quiet (fail)
          go_wp2_with fail
          go_roundw
          case rel => exact ⟨j + 1, _, by omega, by go_num, rfl, HN⟩
          case measure => simp [intOf]; omega
      · have hany : ps.any (fun q => q.i == r.i) = false := by
          rw [List.any_eq_false]
          intro x hx
          obtain ⟨q, hq, rfl⟩ := List.getElem_of_mem hx
          have := HJ.out q (by omega)
          simpa [List.getD, List.getElem?_eq_getElem hq] using this
        have hj9 : (ps.length : Int) ≤ (j : Int) := by omega
        by_cases h8 : ps.length = 8
        · have HE : Hid (subE B ps r = 18 ∧ subP B ps r = ps) := by
            have e : subE B ps r = 18 := by simp [subE, hb, hany, h8]
            exact ⟨e, by simp [subP, e]⟩
          have h8' : (8 : Int) ≤ (ps.length : Int) := by omega
          clear hany
          go_wp2_with fail
          go_ret
          refine ⟨ret_int HE.out.1.symm, v, ?_, Trn.of_below (below_drewN H0.out.2.2 _)⟩
          rw [HE.out.2]
          exact H0.out.1.below (below_drewN (Below.refl _ _) _)
        · have h8' : (ps.length : Int) < 8 := by omega
          have HE : Hid (subE B ps r = 0 ∧ subP B ps r = ps ++ [r]) := by
            have e : subE B ps r = 0 := by simp [subE, hb, hany, h8]
            exact ⟨e, by simp [subP, e]⟩
          have h1 : RD N0 ((w.alloc (.cells (rc r).toArray 44)).drewN k) R rb B v ps zs := H0.out.1.below (below_drewN (Below.refl _ _) _)
          obtain ⟨w1, hw1⟩ : ∃ w1, w1 = (w.alloc (.cells (rc r).toArray 44)).drewN k := ⟨_, rfl⟩
          have hw1' : (w.alloc (.cells #[.int .i64 r.i, .bool r.w, .int .i64 r.b, .int .i64 r.f] 44)).drewN k = w1 := hw1.symm
          have bw1 : Below w.heap.size w w1 := by rw [hw1]; exact below_drewN H0.out.2.2 _
          have d : ∀ o, w1.cell? ⟨w.heap.size, o, none⟩ = (w.alloc (.cells (rc r).toArray 44)).cell? ⟨w.heap.size, o, none⟩ := fun o => by rw [hw1]; simp
          rw [← hw1] at h1
          rw [hw1']
          have d0 : w1.cell? ⟨w.heap.size, 0, none⟩ = some (.int .i64 r.i) := (d 0).trans (by simp [rc])
          have d1 : w1.cell? ⟨w.heap.size, 1, none⟩ = some (.bool r.w) := (d 1).trans (by simp [rc])
          have d2 : w1.cell? ⟨w.heap.size, 2, none⟩ = some (.int .i64 r.b) := (d 2).trans (by simp [rc])
          have d3 : w1.cell? ⟨w.heap.size, 3, none⟩ = some (.int .i64 r.f) := (d 3).trans (by simp [rc])
          have k1 : w1.cell? ⟨R, 1, none⟩ = some (.slice a ps.length c) := by rw [h1.c1, hv]
          have ql := h1.lt
          have hs1 : w.heap.size < w1.heap.size := by rw [hw1]; simp
          obtain ⟨v', w2, hrun, hord, hgr, hown⟩ := Ord.push (.inr ⟨rfl, rfl⟩) (h1.drew).ord r (by omega) (by simp; omega)
          have nD : v.ownBlock ≠ some R := fun e => by
            obtain ⟨cur, hh⟩ := h1.ord.typ R e
            exact ne_typ hh h1.cell (by decide) rfl
          have old : ∀ k, k < w1.heap.size → v.ownBlock ≠ some k → w2.heap[k]? = w1.heap[k]? := fun k hk hv => (hgr.block k (by simp; omega) (fun e => hv e.symm)).trans (heap_alloc_past w1.drew _ hk)
          have oD := old R h1.lt nD
          have hz : w1.heap.size + 1 ≤ w2.heap.size := by have := hgr.size; simpa using this
          have t2 : Trn (SD R v) w1 w2 := ⟨hgr.os, hgr.tape, hgr.output, by omega, fun k hk hn => old k hk (fun e => hn (.inr e))⟩
          obtain ⟨fin1, fin2⟩ := h1.stored t2 oD hord (by simp; omega) (by
            intro x hx
            rcases List.mem_append.1 hx with hx | hx
            · exact h1.bs x hx
            · simp at hx; subst hx; exact hb)
          obtain ⟨a', c', hv', _, _⟩ := hord.form
          have HF : Hid (RD N0 (w2.setCell ⟨R, 1, none⟩ v') R rb B v' (ps ++ [r]) zs ∧ Trn (SD R v) w (w2.setCell ⟨R, 1, none⟩ v')) := ⟨fin1, (Trn.of_below bw1).trans fin2⟩
          have y2 : w2.cell? ⟨R, 1, none⟩ = some v := by simp [World.cell?, oD, h1.cell]
          have yf : w2.frozen? ⟨R, 1, none⟩ = false := by simp [World.frozen?, oD, h1.cell]
          have yl : R < w2.heap.size := by omega
          rw [hv] at y2 hrun
          rw [hv'] at hrun HF
          simp only [rc] at hrun
          clear fin1 fin2 t2 oD old hgr hord hown nD h1 bw1 d H0 hv' hany hw1 hw1' HJ
          generalize (ps ++ [r]).length = n' at *
          go_wp2_with fail
          go_region_law (refine step_append_run rfl (.tmp 41) (.tmp 43) 78 rfl _ _ _ w2 (by rfl) (by rfl) hrun ?_)
          all_goals
            go_wp2_with fail
            go_ret
            refine ⟨ret_int HE.out.1.symm, .slice a' n' c', ?_⟩
            rw [HE.out.2]
            exact HF.out
  · rw [decide_eq_false hb] at CH
    have HE : Hid (subE B ps r = 12 ∧ subP B ps r = ps) := by
      have e : subE B ps r = 12 := by simp [subE, hb]
      exact ⟨e, by simp [subP, e]⟩
    have H0 : Hid (RD N0 (w.alloc (.cells (rc r).toArray 44)) R rb B v ps zs) := h0
    clear h h0
    simp only [rc, rv] at *
    go_enter Try.func13, Try.ntmps13
    go_wp2_with fail
    refine CH.mono ?_
    rintro e y ⟨rfl, rfl⟩
    clear CH
    go_wp2_with fail
    go_ret
    refine ⟨ret_int HE.out.1.symm, v, ?_, Trn.of_below b0⟩
    rw [HE.out.2]
    exact H0.out
end Go.Proofs.Ytkadpmmielegfaa
