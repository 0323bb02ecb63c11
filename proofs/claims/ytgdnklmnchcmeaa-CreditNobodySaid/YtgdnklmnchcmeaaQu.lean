/-
  queueUp, in the raw scheduler.
-/
import Derived.Test.YtgdnklmnchcmeaaLv
namespace Go.Proofs.Ytgdnklmnchcmeaa
open Go.RowKit Go.Maps
set_option linter.unusedVariables false
set_option maxRecDepth 100000
theorem step_append_run {P : Program} {w : World} {ops : Array Oper} {rest : List Oper} {o : Oper} {a : Act} {Q : Exit → Act → World → Prop} (hgd : o.guard = none) (s x : Operand) (t : TypeId)
    (ho : o.op = .call { callee := .builtin .append, args := #[s, x], argTypes := #[t, t] }) (vs vx v' : Value) (w' : World) (hs : a.eval s = vs) (hx : a.eval x = vx)
    (hrun : (Builtin.append_ #[t, t] o.type #[vs, vx]).run P w = .ok v' w') (h : wpList P ops Q rest (a.put o.dst v') w') : wpList P ops Q (o :: rest) a w := by
  refine wpList_plain hgd fun K hK => ?_
  unfold Oper.wp
  simp [execOp, ho, resolve, invoke, builtin, hs, hx, hrun, Result.andThen]
  exact hK _ _ h
/-- entries behind a store -/
def cnt (N : Nat) (M : Int → Option Value) (k : Int) : Nat := if (M k).isSome then N else N + 1
section
variable {w w' : World} {c m p n N : Nat} {per : Int} {M : Int → Option Value} {F : Nat → Pv} {Qf : Nat → List Int}
/-- a box that lies beside a scheduler -/
structure VB (W w : World) (c m p n : Nat) (per : Int) (N : Nat) (M : Int → Option Value) (F : Nat → Pv) (Qf : Nat → List Int) (G : Nat → Pv) (cs : Array Value) : Prop where
  vr : VR w c m p n per N M G Qf
  bx : w.heap[W.heap.size]? = some (.cells cs 36 (0, 0))
  tr : Trn (Sp m p n F) W w
  nw : Nw W n F G
  lo : ∀ k, Sp m p n F k → k < W.heap.size
theorem VB.start (h : VR w c m p n per N M F Qf) (cs : Array Value) : VB w (w.alloc (.cells cs 36)) c m p n per N M F Qf F cs :=
  ⟨h.below (below_box _ _), heap_alloc_at _ _, Trn.of_below (below_box _ _), Nw.refl _ _ _, fun k hk => h.splt hk⟩
variable {W : World} {G : Nat → Pv} {cs : Array Value}
theorem VB.off (h : VB W w c m p n per N M F Qf G cs) {k : Nat} (hk : Sp m p n G k) : k ≠ W.heap.size := by
  rcases hk with rfl | rfl | ⟨i, hi, hk⟩
  · exact Nat.ne_of_lt (h.lo _ (.inl rfl))
  · exact Nat.ne_of_lt (h.lo _ (.inr (.inl rfl)))
  · obtain ⟨_, cs', h1⟩ := (h.vr.qs i hi).lt k hk
    exact ne_typ h1 h.bx (by decide)
theorem VB.drewN (h : VB W w c m p n per N M F Qf G cs) (q : Nat) : VB W (w.drewN q) c m p n per N M F Qf G cs :=
  ⟨h.vr.keep rfl fun _ _ => rfl, h.bx, ⟨h.tr.os, h.tr.tape, h.tr.output, h.tr.size, h.tr.block⟩, h.nw, h.lo⟩
theorem VB.drew (h : VB W w c m p n per N M F Qf G cs) : VB W w.drew c m p n per N M F Qf G cs :=
  ⟨h.vr.keep rfl fun _ _ => rfl, h.bx, ⟨h.tr.os, h.tr.tape, h.tr.output, h.tr.size, h.tr.block⟩, h.nw, h.lo⟩
/-- the box turned -/
theorem VB.set (h : VB W w c m p n per N M F Qf G cs) (hc : c < W.heap.size) (o : Nat) (v : Value) : VB W (w.setCell ⟨W.heap.size, o, none⟩ v) c m p n per N M F Qf G (cs.setIfInBounds o v) := by
  have ht := trn_set1 h.bx o v
  refine ⟨h.vr.keep (ht.block c h.vr.lt (by omega)) fun k hk => ht.block k (h.vr.splt hk) (h.off hk), heap_setCell h.bx _ _, ?_, h.nw, h.lo⟩
  exact ⟨ht.os.trans h.tr.os, ht.tape.trans h.tr.tape, ht.output.trans h.tr.output, Nat.le_trans h.tr.size ht.size, fun k hk hs => (ht.block k (Nat.lt_of_lt_of_le hk h.tr.size) (by omega)).trans (h.tr.block k hk hs)⟩
/-- a call that turns the scheduler -/
theorem VB.step {N' : Nat} {M' : Int → Option Value} {H : Nat → Pv} {Qf' : Nat → List Int} (h : VB W w c m p n per N M F Qf G cs) (h1 : VR w' c m p n per N' M' H Qf') (ht : Trn (Sp m p n G) w w') (hn : Nw w n G H) : VB W w' c m p n per N' M' F Qf' H cs :=
  ⟨h1, (ht.block _ (lt_of_heap h.bx) fun e => h.off e rfl).trans h.bx, Sp.trans h.tr ht h.nw, h.nw.trans hn h.tr.size, h.lo⟩
theorem VB.below (h : VB W w c m p n per N M F Qf G cs) (hb : Below w.heap.size w w') : VB W w' c m p n per N M F Qf G cs :=
  h.step (h.vr.below hb) (Trn.of_below hb) (Nw.refl _ _ _)
theorem VB.b (h : VB W w c m p n per N M F Qf G cs) (o : Nat) : w.cell? ⟨W.heap.size, o, none⟩ = cs[o]? := cell_at h.bx o
theorem VB.bl (h : VB W w c m p n per N M F Qf G cs) : W.heap.size < w.heap.size := lt_of_heap h.bx
theorem VB.bf (h : VB W w c m p n per N M F Qf G cs) (o : Nat) : w.frozen? ⟨W.heap.size, o, none⟩ = false := fz_at h.bx o
/-- one stored in the map -/
theorem VR.store (h : VR w c m p n per N M F Qf) (k : Int) (hk : KW k) (u : Value) (hN : N < maxLen) :
    ∃ w1, (Instr.mapUpdate 41 (.map (some m)) (.int .i64 k) u).run Try.prog w = .ok () w1 ∧ VR w1 c m p n per (cnt N M k) (upd M k (some u)) F Qf ∧ Trn (Sp m p n F) w w1 := by
  obtain ⟨w1, h1, h2, h3⟩ := store_run Try.underlying41 h.mp k hk u hN
  obtain ⟨h4, h5⟩ := h.mapped h2 h3
  exact ⟨w1, h1, h4, h5⟩
/-- one pushed onto a queue -/
theorem VR.push (h : VR w c m p n per N M F Qf) {i : Nat} (hi : i < n) (k : Int) (hl : (Qf i).length ≤ 65536) :
    ∃ v w1, (Builtin.append_ #[57, 57] 57 #[(F i).q, .slice (some ⟨w.heap.size, 0, none⟩) 1 1]).run Try.prog (w.alloc (.cells #[.int .i64 k] 3)) = .ok v w1 ∧ (∃ ad ln cc, v = .slice ad ln cc) ∧
      (VR (w1.setCell ⟨p, i * 4, none⟩ v) c m p n per N M (fset F i (qset v)) (qput Qf i (Qf i ++ [k])) ∧ Trn (Sp m p n F) w (w1.setCell ⟨p, i * 4, none⟩ v) ∧ Nw w n F (fset F i (qset v))) ∧
      w1.cell? ⟨p, i * 4, none⟩ = some (F i).q ∧ w1.frozen? ⟨p, i * 4, none⟩ = false ∧ p < w1.heap.size := by
  obtain ⟨v, w1, h1, h2, h3, h4, h5⟩ := (h.qs i hi).push k hl
  obtain ⟨q1, q2, q3, q4, q5, q6, q7⟩ := h.queue hi h2 h3 (fun j hj => by
    rcases h5 with e | e
    · exact .inl (e ▸ hj)
    · rw [e] at hj; cases hj; exact .inr (Nat.le_succ _))
  obtain ⟨ad, cc, e⟩ := h2.form
  exact ⟨v, w1, h1, ⟨ad, _, cc, e⟩, ⟨q1, q2, q3⟩, (q5 _).trans (h.pr.all hi).1, q6, q7⟩
set_option maxHeartbeats 800000 in
theorem queueUp_vr (h : VR w c m p n per N M F Qf) (k : Int) (hk : KW k) (i : Nat) (hi : i < n) (s a b : Int) (hl : (Qf i).length ≤ 65536) (hN : N < maxLen) :
    Calls Try.prog 42 #[.pointer (some ⟨c, 0, none⟩), .int .i64 k, .agg #[.int .i64 s, .int .i64 i, .int .i64 a, .int .i64 b]] w fun e w' => e = .returned (.tuple #[]) ∧
      ∃ v, VR w' c m p n per (cnt N M k) (upd M k (some (.agg #[.int .i64 1, .int .i64 i, .int .i64 a, .int .i64 b]))) (fset F i (qset v)) (qput Qf i (Qf i ++ [k])) ∧ Trn (Sp m p n F) w w' ∧ Nw w n F (fset F i (qset v)) := by
  have B1 := (VB.start h #[.int .i64 1, .int .i64 i, .int .i64 a, .int .i64 b]).drew
  have g0 := B1.b 0
  have g1 := B1.b 1
  have g2 := B1.b 2
  have g3 := B1.b 3
  have gl := B1.bl
  have c0 := B1.vr.c0
  have cl := B1.vr.lt
  have nn := h.nn
  obtain ⟨w2, hrun, hv, ht⟩ := B1.vr.store k hk (.agg #[.int .i64 1, .int .i64 i, .int .i64 a, .int .i64 b]) hN
  have B2 : Hid (_) := B1.step hv ht (Nw.refl _ _ _)
  simp at g0 g1 g2 g3
  clear B1 h hv ht
  go_enter Try.func42, Try.ntmps42
  go_wp2_with fail
  go_region
  have b1 := B2.out.b 1
  have bl := B2.out.bl
  have c1 := B2.out.vr.c1
  have cl2 := B2.out.vr.lt
  simp at b1
  clear hrun g0 g1 g2 g3 gl c0 cl
  go_wp2_with fail
  go_quiet (fail)
  have B3 : Hid (_) := B2.out.drewN nq
  clear B2 b1 bl c1 cl2
  generalize World.drewN _ nq = y at *
  obtain ⟨v, w3, hrun, ⟨ad, ln, cc, rfl⟩, ⟨q1, q2, q3⟩, d0, f0, l0⟩ := B3.out.vr.push hi k hl
  have B4 : Hid (_) := B3.out.step q1 q2 q3
  have e0 := (B3.out.vr.pr.all hi).1
  have e1 := B3.out.vr.pr.lt
  clear q1 q2 q3 B3
  go_wp2_with (refine step_append_run rfl _ _ 57 rfl _ _ _ _ rfl rfl hrun ?_)
  exact bodyPost_end (v := .tuple #[]) (by simp [results, Try.results42]) rfl ⟨rfl, _, B4.out.vr, B4.out.tr, B4.out.nw⟩
end
end Go.Proofs.Ytgdnklmnchcmeaa
