/-
  What Submit, Pending and Block of a disk do.
-/
import Derived.Test.YtkadpmmielegfaaDk
namespace Go.Proofs.Ytkadpmmielegfaa
open Go.RowKit Go.Maps
set_option linter.unusedVariables false
set_option maxRecDepth 20000

/-- an append in a region, by what it comes to -/
theorem step_append_run {P : Program} {ops : Array Oper} {o : Oper} {a : Act} {w : World} {K : Act → World → Prop} {Q : Exit → Act → World → Prop} {E : Prop}
    (hg : o.guard = none) (s x : Operand) (t : TypeId) (hop : o.op = Op.call { callee := Callee.builtin Builtin.append, args := #[s, x], argTypes := #[t, t] })
    (vs vx v' : Value) (w' : World) (hs : a.eval s = vs) (hx : a.eval x = vx) (hrun : (Builtin.append_ #[t, t] o.type #[vs, vx]).run P w = .ok v' w') (hK : K (a.put o.dst v') w') :
    if Region.wanted o (yielded ops a.tmps) = true then Oper.wp P o a w K Q else E := by
  have hw : Region.wanted o (yielded ops a.tmps) = true := by simp [Region.wanted, hg]
  rw [if_pos hw]
  unfold Oper.wp
  simp [execOp, hop, resolve, invoke, builtin, hs, hx, hrun, Result.andThen]
  exact hK
theorem isPending_dk (N0 D m B : Nat) (v : Value) (ps : List Rq) (zs : List Int) (id : Int) (w : World) (h : DK N0 w D m B v ps zs) :
    Calls Try.prog 27 #[.pointer (some ⟨D, 0, none⟩), .int .i64 id] w fun e w' => e = .returned (.bool (ps.any (fun r => r.i == id))) ∧ Below w.heap.size w w' := by
  have hmf : ∀ (fn : Fn) (first cap : Array Value) (w : World), (Instr.makeFunc fn first cap).run Try.prog w = .ok (.func fn first cap) w := fun _ _ _ _ => rfl
  have hb : Below w.heap.size w (w.alloc (.cells #[.int .i64 id] 3)) := (Below.refl _ _).alloc (Nat.le_refl _) _
  have C := contains_any 38 w.heap.size N0 v (.cells #[.int .i64 id] 3 (0, 0)) ps _ (w.alloc (.cells #[.int .i64 id] 3)) (asks_id w.heap.size id) (h.below hb).ord (heap_alloc_at _ _)
  have c2 := h.c2
  have hl := h.lt
  clear h
  generalize ps.any (fun r => r.i == id) = R at *
  go_enter Try.func27, Try.ntmps27
  go_wp2_with fail
  refine C.mono ?_
  rintro e w1 ⟨rfl, hb1⟩
  go_wp2_with fail
  go_ret
  exact ⟨rfl, hb.trans (hb1.mono hb.size)⟩

/-- P12.2: the error of a request -/
def subE (B : Nat) (ps : List Rq) (r : Rq) : Int := if ¬ (0 ≤ r.b ∧ r.b < B) then 12 else if ps.any (fun q => q.i == r.i) then 13 else if ps.length = 8 then 18 else 0
def subP (B : Nat) (ps : List Rq) (r : Rq) : List Rq := if subE B ps r = 0 then ps ++ [r] else ps
/-- what a call may have turned: the disk, and the row of what is pending -/
def SD (D : Nat) (v : Value) : Nat → Prop := fun k => k = D ∨ v.ownBlock = some k
theorem sub_ids {B : Nat} {ps : List Rq} {r : Rq} (hp : ps.Pairwise (fun a b => a.i ≠ b.i)) (he : ps.any (fun q => q.i == r.i) = false) : (ps ++ [r]).Pairwise (fun a b => a.i ≠ b.i) := by
  rw [List.pairwise_append]
  refine ⟨hp, List.pairwise_singleton _ _, fun a ha b hb => ?_⟩
  simp at hb
  subst hb
  have := List.any_eq_false.1 he a ha
  simpa using this

/-- a new slice of what is pending in the disk -/
theorem DK.stored {N0 : Nat} {w w2 : World} {D m B : Nat} {v v' : Value} {ps qs : List Rq} {zs : List Int} (h : DK N0 w D m B v ps zs) (t : Trn (SD D v) w w2) (hc : w2.heap[D]? = w.heap[D]?) (ho : Ord 38 N0 w2 v' qs)
    (pn : qs.length ≤ 8) (ids : qs.Pairwise (fun a b => a.i ≠ b.i)) (bs : ∀ r ∈ qs, 0 ≤ r.b ∧ r.b < B) :
    DK N0 (w2.setCell ⟨D, 2, none⟩ v') D m B v' qs zs ∧ Trn (SD D v) w (w2.setCell ⟨D, 2, none⟩ v') := by
  have hb : w2.heap[D]? = _ := hc.trans h.cell
  have e := setCell_eq_setRow w2 D 2 _ 66 (0, 0) v' hb
  have h1 : (w2.setRow D (#[.int .i64 B, .map (some m), v].setIfInBounds 2 v')).heap[D]? = _ := setRow_heap w2 D _ _ 66 _ hb
  rw [e]
  have g2 : w2.grownBy (w2.setRow D (#[.int .i64 B, .map (some m), v].setIfInBounds 2 v')) (some D) := ⟨rfl, rfl, rfl, by simp [World.setRow], fun k hk hne => setRow_other w2 D k _ (fun e => hne (by rw [e]))⟩
  have tt : Trn (SD D v) w (w2.setRow D (#[.int .i64 B, .map (some m), v].setIfInBounds 2 v')) := t.trans (Trn.of_grown g2 (.inl rfl))
  obtain ⟨M, hM, hB⟩ := h.map
  obtain ⟨es, cl, hm⟩ := hM.typ
  have nm : ¬ SD D v m := by
    rintro (e | e)
    · exact ne_map h.cell hm e.symm
    · obtain ⟨cur, hh⟩ := h.ord.typ m e
      exact ne_map hh hm rfl
  refine ⟨⟨h1, ⟨M, hM.keep (tt.block m hM.lt nm), fun n hn => ?_⟩, ?_, h.b1, h.b2, h.len, h.bytes, pn, ids, bs⟩, tt⟩
  · rcases hB n hn with h0 | ⟨r, r1, r2, r3⟩
    · exact .inl h0
    · refine .inr ⟨r, r1, r2, (tt.block r (lt_of_heap r3) ?_).trans r3⟩
      rintro (e | e)
      · exact ne_typ h.cell r3 (by decide) e.symm
      · obtain ⟨cur, hh⟩ := h.ord.typ r e
        exact ne_typ hh r3 (by decide) rfl
  · refine ho.keep (fun k hk => gr_keep g2 (ho.lt k hk).2 (fun e => ?_))
    subst e
    obtain ⟨cur, hh⟩ := ho.typ k hk
    exact ne_typ hh hb (by decide) rfl

set_option maxHeartbeats 1600000 in
theorem submit_dk (N0 D m B : Nat) (v : Value) (ps : List Rq) (zs : List Int) (r : Rq) (w : World) (h : DK N0 w D m B v ps zs) (hN : N0 ≤ w.heap.size) :
    Calls Try.prog 12 #[.pointer (some ⟨D, 0, none⟩), rv r] w fun e w' => e = .returned (.int .i64 (subE B ps r)) ∧ ∃ v', DK N0 w' D m B v' (subP B ps r) zs ∧ Trn (SD D v) w w' := by
  have b0 : Below w.heap.size w (w.alloc (.cells (rc r).toArray 38)) := (Below.refl _ _).alloc (Nat.le_refl _) _
  have h0 := h.below b0
  have CH := has_dk N0 D m B v ps zs r.b _ h0
  by_cases hb : 0 ≤ r.b ∧ r.b < B
  · rw [show hasE B r.b = 0 by simp [hasE, hb]] at CH
    have CP := isPending_dk N0 D m B v ps zs r.i _ h0
    cases hp : ps.any (fun q => q.i == r.i)
    · rw [hp] at CP
      obtain ⟨a, c, hv, hc1, hc2⟩ := h.ord.form
      by_cases h8 : ps.length = 8
      · rw [show subP B ps r = ps by simp [subP, subE, hb, hp, h8], show subE B ps r = 18 by simp [subE, hb, hp, h8]]
        have c2 := h.c2
        rw [hv, h8] at c2
        have hl := h.lt
        have HH : Hid (DK N0 (w.alloc (.cells (rc r).toArray 38)) D m B v ps zs) := h0
        clear h h0 hp
        simp only [rc, rv] at *
        go_enter Try.func12, Try.ntmps12
        go_wp2_with fail
        refine CH.mono ?_
        rintro e y ⟨rfl, rfl⟩
        clear CH
        go_wp2_with fail
        refine CP.mono ?_
        rintro e w1 ⟨rfl, hb1⟩
        clear CP
        have q2 : w1.cell? ⟨D, 2, none⟩ = some (.slice a 8 c) := by rw [(HH.out.below hb1).c2, hv, h8]
        have ql : D < w1.heap.size := by have := hb1.size; simp at this; omega
        have HB : Hid (_) := hb1
        clear hb1
        go_wp2_with fail
        go_ret
        exact ⟨rfl, v, HH.out.below HB.out, (Trn.of_below b0).trans (Trn.of_below HB.out)⟩
      · have hlt : ps.length < 8 := by have := h.pn; omega
        rw [show subP B ps r = ps ++ [r] by simp [subP, subE, hb, hp, h8], show subE B ps r = 0 by simp [subE, hb, hp, h8]]
        have c2 := h.c2
        have hl := h.lt
        have HH : Hid (DK N0 (w.alloc (.cells (rc r).toArray 38)) D m B v ps zs) := h0
        have HW : Hid (DK N0 w D m B v ps zs) := h
        clear h h0
        simp only [rc, rv] at *
        go_enter Try.func12, Try.ntmps12
        go_wp2_with fail
        refine CH.mono ?_
        rintro e y ⟨rfl, rfl⟩
        clear CH
        go_wp2_with fail
        refine CP.mono ?_
        rintro e w1 ⟨rfl, hb1⟩
        clear CP
        have h1 := HH.out.below hb1
        have k1 : w1.cell? ⟨D, 2, none⟩ = some (.slice a ps.length c) := by rw [h1.c2, hv]
        have ql : D < w1.heap.size := h1.lt
        have hbb : Below w.heap.size w w1 := b0.trans (hb1.mono b0.size)
        have d := (bcell hb1).1 w.heap.size
        have d0 := d 0 (by simp)
        have d1 := d 1 (by simp)
        have d2 := d 2 (by simp)
        have d3 := d 3 (by simp)
        have hs1 : w.heap.size < w1.heap.size := by have := hb1.size; simp at this; omega
        obtain ⟨v', w2, hrun, hord, hgr, hown⟩ := Ord.push (.inl ⟨rfl, rfl⟩) (h1.drew).ord r (by omega) (by simp; omega)
        have nD : v.ownBlock ≠ some D := fun e => by
          obtain ⟨cur, hh⟩ := h1.ord.typ D e
          exact ne_typ hh h1.cell (by decide) rfl
        have old : ∀ k, k < w1.heap.size → v.ownBlock ≠ some k → w2.heap[k]? = w1.heap[k]? := fun k hk hv => (hgr.block k (by simp; omega) (fun e => hv e.symm)).trans (heap_alloc_past w1.drew _ hk)
        have oD := old D h1.lt nD
        have hz : w1.heap.size + 1 ≤ w2.heap.size := by have := hgr.size; simpa using this
        have t2 : Trn (SD D v) w1 w2 := ⟨hgr.os, hgr.tape, hgr.output, by omega, fun k hk hn => old k hk (fun e => hn (.inr e))⟩
        obtain ⟨fin1, fin2⟩ := h1.stored t2 oD hord (by simp; omega) (sub_ids (B := B) h1.ids hp) (by
          intro x hx
          rcases List.mem_append.1 hx with hx | hx
          · exact h1.bs x hx
          · simp at hx; subst hx; exact hb)
        obtain ⟨a', c', hv', _, _⟩ := hord.form
        have HF : Hid (DK N0 (w2.setCell ⟨D, 2, none⟩ v') D m B v' (ps ++ [r]) zs ∧ Trn (SD D v) w (w2.setCell ⟨D, 2, none⟩ v')) := ⟨fin1, (Trn.of_below hbb).trans fin2⟩
        have y2 : w2.cell? ⟨D, 2, none⟩ = some v := by simp [World.cell?, oD, h1.cell]
        have yf : w2.frozen? ⟨D, 2, none⟩ = false := by simp [World.frozen?, oD, h1.cell]
        have yl : D < w2.heap.size := by omega
        rw [hv] at y2 hrun
        rw [hv'] at hrun HF
        simp only [rc] at hrun
        clear fin1 fin2 t2 oD old hgr hord hown nD h1 hbb hb1 d hp HH HW hv'
        generalize (ps ++ [r]).length = n' at *
        generalize ps.length = n at *
        go_wp2_with fail
        go_region_law (refine step_append_run rfl (.tmp 27) (.tmp 29) 64 rfl _ _ _ w2 (by rfl) (by rfl) hrun ?_)
        all_goals
          go_wp2_with fail
          go_ret
          exact ⟨rfl, _, HF.out⟩
    · rw [show subP B ps r = ps by simp [subP, subE, hb, hp], show subE B ps r = 13 by simp [subE, hb, hp]]
      rw [hp] at CP
      have HH : Hid (DK N0 (w.alloc (.cells (rc r).toArray 38)) D m B v ps zs) := h0
      clear h h0 hp
      simp only [rc, rv] at *
      go_enter Try.func12, Try.ntmps12
      go_wp2_with fail
      refine CH.mono ?_
      rintro e y ⟨rfl, rfl⟩
      clear CH
      go_wp2_with fail
      refine CP.mono ?_
      rintro e w1 ⟨rfl, hb1⟩
      clear CP
      go_wp2_with fail
      go_ret
      exact ⟨rfl, v, HH.out.below hb1, (Trn.of_below b0).trans (Trn.of_below hb1)⟩
  · rw [show subP B ps r = ps by simp [subP, subE, hb], show subE B ps r = 12 by simp [subE, hb]]
    rw [show hasE B r.b = 12 by simp [hasE, hb]] at CH
    have HH : Hid (DK N0 (w.alloc (.cells (rc r).toArray 38)) D m B v ps zs) := h0
    clear h h0
    simp only [rc, rv] at *
    go_enter Try.func12, Try.ntmps12
    go_wp2_with fail
    refine CH.mono ?_
    rintro e y ⟨rfl, rfl⟩
    clear CH
    go_wp2_with fail
    go_ret
    exact ⟨rfl, v, HH.out, Trn.of_below b0⟩
end Go.Proofs.Ytkadpmmielegfaa
