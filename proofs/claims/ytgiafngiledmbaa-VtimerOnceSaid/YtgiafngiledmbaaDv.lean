/-
  The program's Due: its contract.
-/
import Derived.Test.YtgiafngiledmbaaDu
namespace Go.Proofs.Ytgiafngiledmbaa
open Go.RowKit Go.Maps
set_option linter.unusedVariables false
set_option maxRecDepth 100000
theorem step_append_run {P : Program} {w : World} {ops : Array Oper} {rest : List Oper} {o : Oper} {a : Act} {Q : Exit → Act → World → Prop} (hgd : o.guard = none) (s x : Operand) (t : TypeId)
    (ho : o.op = .call { callee := .builtin .append, args := #[s, x], argTypes := #[t, t] }) (vs vx v' : Value) (w' : World) (hs : a.eval s = vs) (hx : a.eval x = vx)
    (hrun : (Builtin.append_ #[t, t] o.type #[vs, vx]).run P w = .ok v' w') (h : wpList P ops Q rest (a.put o.dst v') w') : wpList P ops Q (o :: rest) a w := by
  refine wpList_plain hgd fun K hK => ?_
  unfold Oper.wp
  simp [execOp, ho, resolve, invoke, builtin, hs, hx, hrun, Result.andThen]
  exact hK _ _ h
section
variable {w : World} {t ms mt : Nat} {L : List Tm} {c : Int}
set_option maxHeartbeats 1600000 in
theorem due_vx (h : VX w t ms mt L) (hc : 0 ≤ c) : Calls Try.prog 19 #[.pointer (some ⟨t, 0, none⟩), .int .u64 c] w fun e w' => (∃ v, e = .returned v ∧ Li w.heap.size w' v (dueL L c)) ∧ VX w' t ms mt (aft L c) ∧ Trn (Sm ms mt) w w' := by
  have c1 := h.c1
  have hl := h.lt
  obtain ⟨N, hN, hN64⟩ := h.nle
  obtain ⟨w0, hrr, hrg, hg0, hs0⟩ := range_run Try.underlying39 hN
  have hb0 : Below w.heap.size w w0 := ⟨hg0.os, hg0.tape, hg0.output, hg0.size, fun k hk => hg0.block k hk (by simp)⟩
  have H0 : Hid (DR w w0 t ms mt L c (fun k => (TM L k).isSome) (fun k => (TM L k).isSome) N (.slice none 0 0) []) := by
    refine ⟨(hb0.block t h.lt).trans h.ob, h.sm.keep (hb0.block ms h.lts), hrg.congr (fun k _ => ?_) (fun _ _ => rfl), ⟨rfl, .inl ⟨rfl, rfl⟩⟩, by omega, List.nodup_nil, fun k => ?_, by simp; omega, Trn.of_below hb0⟩
    · unfold DM
      split
      · rename_i e
        have e1 : (TM L k).isSome = false := e.1
        cases hq : TM L k with
        | none => rfl
        | some y => rw [hq] at e1; cases e1
      · rfl
    · simp
      intro _ e
      rw [TM_eq] at e
      unfold dueB
      cases hx : fnd L k with
      | none => rfl
      | some x =>
        rw [hx] at e
        simp only [Option.bind_some, tmv] at e
        cases hs : x.set with
        | true => rw [hs] at e; cases e
        | false => simp [isd, hs]
  have HO : Hid (LOk L ∧ (t < w.heap.size ∧ ms < w.heap.size ∧ mt < w.heap.size) ∧ ms ≠ mt ∧ mt ≠ t) := ⟨h.ok, ⟨h.lt, h.lts, h.ltt⟩, h.ne, h.nt'⟩
  clear h hN hrg hg0 hb0
  go_enter Try.func19, Try.ntmps19
  go_wp2_with fail
  go_loopw [5] (fun q5 wr => ∃ left cnt v o, v = q5 ∧ Hid (DR w wr t ms mt L c left left cnt v o)) (fun _ wr => wr.rangeLeft mt w.heap.size)
  case atStart => exact ⟨_, _, _, _, rfl, H0⟩
  case round =>
    obtain ⟨left, cnt, v, o, rfl, HR⟩ := hrel
    rcases next_run HR.out.rg 0 with ⟨hc0, hl0, hnr⟩ | ⟨k, u, w1, cnt1, hk, hlk, hM, hnr, hrg1, hlt1, hg1, hs1, hen⟩
    · obtain ⟨hvx, hsort⟩ := HR.out.done HO.out.1 HO.out.2.2.1 hl0
      have HS := sort_lr HR.out.lr (by have := HR.out.le; omega)
      rw [hsort] at HS
      have HF : Hid (VX wr t ms mt (aft L c) ∧ Trn (fun k => k = mt) w wr ∧ w.heap.size + 1 ≤ wr.heap.size ∧ ∀ j, v.ownBlock = some j → w.heap.size + 1 ≤ j) := ⟨hvx, HR.out.tr, HR.out.sz, fun j hj => (HR.out.lr.own j hj).1⟩
      clear hvx hsort hl0 HR H0
      go_wp2_with fail
      refine HS.mono ?_
      rintro e w2 ⟨rfl, hli, hg⟩
      have HG : Hid (Li w.heap.size w2 v (dueL L c) ∧ VX w2 t ms mt (aft L c) ∧ Trn (Sm ms mt) w w2) := by
        obtain ⟨h1, h2, h3, h4⟩ := HF.out
        have hkp : ∀ j, j < w.heap.size + 1 → w2.heap[j]? = wr.heap[j]? := fun j hj => hg.block j (by omega) (fun e => by have := h4 j e.symm; omega)
        refine ⟨?_, h1.keep fun j hj => hkp j (by rcases hj with rfl | rfl | rfl; exact Nat.lt_succ_of_lt HO.out.2.1.1; exact Nat.lt_succ_of_lt HO.out.2.1.2.1; exact Nat.lt_succ_of_lt HO.out.2.1.2.2), ⟨hg.os.trans h2.os, hg.tape.trans h2.tape, hg.output.trans h2.output, Nat.le_trans h2.size hg.size, fun j hj hm => (hkp j (by omega)).trans (h2.block j hj fun e => hm (.inr e))⟩⟩
        obtain ⟨ad, cc, e, hr⟩ := hli
        refine ⟨ad, cc, e, fun i hi => ?_⟩
        obtain ⟨g, k1, k2, k3, k4⟩ := hr i hi
        exact ⟨g, k1, by omega, k3, k4⟩
      clear HF hli hg HS
      go_wp2_with fail
      go_ret
      exact ⟨⟨_, rfl, HG.out.1⟩, HG.out.2⟩
    · have hTM : ∃ x, fnd L k = some x ∧ x ∈ L ∧ x.id = k ∧ x.set = true ∧ u = .int .u64 x.due := by
        unfold DM at hM
        split at hM
        · cases hM
        · exact TM_some hM
      obtain ⟨x, hx, hxm, rfl, hxs, rfl⟩ := hTM
      have hm0 : wr.rangeLeft mt w.heap.size = cnt := HR.out.rg.left_eq
      have H1 : Hid (DR w w1 t ms mt L c left (fun z => left z && !(z == x.id)) cnt1 v o) := HR.out.step HO.out.2.1 hg1 hrg1 (by omega)
      have hle := HR.out.le
      have ho := HO.out.1.ok x hxm
      have d0 := H1.out.c0
      have dl := H1.out.lt
      have hlu := look_run Try.underlying38 (zeroS w1) H1.out.sm x.id hk
      have hsp : (SM L x.id).getD (.agg #[.int .u64 0, .bool false, .int .u64 0]) = spv x := by unfold SM; rw [hx]; rfl
      rw [hsp] at hlu
      unfold spv at hlu
      have hdb : dueB L c x.id = isd c x := by unfold dueB; rw [hx]
      have hb0 := ho.b0
      have hb1 := ho.b1
      have hd0 := ho.d0
      have hd1 := ho.d1
      clear hg1 hrg1 hM HR H0 hsp ho c1 hrr
      cases hh : x.halted with
      | true =>
        rw [hh] at hlu
        simp only [if_true] at hlu
        have hel : dueB L c x.id = false := by rw [hdb]; unfold isd; rw [hh]; simp
        have H2 : Hid (DR w (w1.alloc (.cells #[.int .u64 0, .bool true, .int .u64 x.still] 57)) t ms mt L c (fun z => left z && !(z == x.id)) (fun z => left z && !(z == x.id)) cnt1 v o) := (H1.out.pass hel).below (below_box _ _)
        clear H1 hel hdb
        go_wp2_with fail
        go_roundw
        case rel => exact ⟨_, _, _, _, rfl, H2⟩
        case measure => rw [H2.out.rg.left_eq, hm0]; exact hlt1
      | false =>
        rw [hh] at hlu
        simp only [Bool.false_eq_true, if_false] at hlu
        have K := fun w' => now_any x.base false 0 c hb0 hb1 hc w'
        have hnw : nowV x.base false 0 c = tm x c := by unfold nowV tm; rw [hh]; rfl
        rw [hnw] at K
        unfold sp at K
        have hde : isd c x = decide (x.due ≤ tm x c) := by unfold isd; rw [hh, hxs]; rfl
        have H2 : Hid (DR w (w1.alloc (.cells #[.int .u64 x.base, .bool false, .int .u64 0] 57)) t ms mt L c left (fun z => left z && !(z == x.id)) cnt1 v o) := H1.out.below (below_box _ _)
        clear H1
        go_wp2_with fail
        refine (K _).mono ?_
        rintro e w3 ⟨rfl, hb3⟩
        have H3 : Hid (DR w w3 t ms mt L c left (fun z => left z && !(z == x.id)) cnt1 v o) := H2.out.below hb3
        clear H2 hb3 K
        by_cases hlt : x.due ≤ tm x c
        · have hdu : dueB L c x.id = true := by rw [hdb, hde, decide_eq_true hlt]
          obtain ⟨v', w5, w6, cnt', hrun, e1, el, hrun6, H6, hc6⟩ := H3.out.take HO.out.2.1 HO.out.2.2.1 HO.out.2.2.2 hk hlk hdu (by omega) 0
          have H7 : Hid (DR w w6 t ms mt L c (fun z => left z && !(z == x.id)) (fun z => left z && !(z == x.id)) cnt' v' (o ++ [x.id])) := H6
          clear H3 H6 hdu hdb hde
          go_wp2_with (refine step_append_run rfl _ _ 46 rfl _ _ v' w5 rfl rfl hrun ?_)
          go_roundw
          case rel => exact ⟨_, _, _, _, rfl, H7⟩
          case measure => rw [H7.out.rg.left_eq, hm0]; omega
        · have hdu : dueB L c x.id = false := by rw [hdb, hde, decide_eq_false hlt]
          have H4 : Hid (DR w w3 t ms mt L c (fun z => left z && !(z == x.id)) (fun z => left z && !(z == x.id)) cnt1 v o) := H3.out.pass hdu
          clear H3 hdu hdb hde
          go_wp2_with fail
          go_roundw
          case rel => exact ⟨_, _, _, _, rfl, H4⟩
          case measure => rw [H4.out.rg.left_eq, hm0]; exact hlt1
end
end Go.Proofs.Ytgiafngiledmbaa
