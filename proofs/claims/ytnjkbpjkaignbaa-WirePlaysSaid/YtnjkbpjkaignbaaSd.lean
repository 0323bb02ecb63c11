/-
  What put and Receive do.
-/
import Derived.Test.YtnjkbpjkaignbaaMy
namespace Go.Proofs.Ytnjkbpjkaignbaa
open Go.RowKit Go.Conc
set_option linter.unusedVariables false
set_option maxRecDepth 20000

theorem np_seq_sel {P : Program} {Q : Exit → Act → World → Prop} {a : Act} {w : World} {y : Code} {id : Nat} {o : Oper} {l : List Oper} {cases : Array CommCase} {v : Value} {w' : World} (hg : o.guard = none)
    (hr : (execOp a.eval o).run P w = .ok (.comm cases false .select) w)
    (hs : ∀ fr cs es, stepG P true (G fr cs) w = .comm (G fr cs) cases false .select w es → step P (solo (G fr cs) w) = .next (solo (G (fr.finish v) cs) w'))
    (h : ∀ K : Act → World → Prop, (∀ a w, NP P y Q a w → K a w) → wpList P (o :: l).toArray (Exit.then K Q) l (a.put o.dst v) w') : NP P (.seq (.region id (o :: l).toArray false) y) Q a w :=
  np_seq (np_region_sel hg hr hs (h _ fun _ _ h => h))
/-- no message -/
def z42 : Value := .agg #[.int .i64 0, .slice none 0 0]
theorem copy_new {w : World} (a : Option Addr) (c : Nat) (bs : List Int) (hs : SL w a bs.length bs) : ∃ w3, (Builtin.copy_ #[32, 32] 3 #[.slice (some ⟨w.heap.size, 0, none⟩) bs.length bs.length, .slice a bs.length c]).run Try.prog (w.alloc (.cells ((List.replicate bs.length (0 : Int)).map (Value.int .u8)).toArray 5)) = .ok (goInt bs.length) w3 ∧ w3.heap[w.heap.size]? = some (.cells (bv bs) 5 (0, 0)) ∧ Below w.heap.size w w3 := by
  have hb : Below w.heap.size w (w.alloc (.cells ((List.replicate bs.length (0 : Int)).map (Value.int .u8)).toArray 5)) := (Below.refl _ _).alloc (Nat.le_refl _) _
  obtain ⟨w3, hr3, hg3, hgr3⟩ := run_copy_sl 3 w.heap.size 0 bs.length (some ⟨w.heap.size, 0, none⟩) a bs.length c bs.length (List.replicate bs.length 0) bs (heap_alloc_at w _) (hs.below hb) rfl (.inr rfl) (by simp)
  rw [splice_all _ _ (by simp)] at hg3
  exact ⟨w3, hr3, hg3, hb.grown hgr3 hb.size (by intro k h; cases h; exact Nat.le_refl _)⟩
set_option maxHeartbeats 1000000 in
theorem put_any {w : World} {b i ci : Nat} (c1 : w.cell? ⟨b, i * 2 + 1, none⟩ = some (.chan (some ci))) (hb : b < w.heap.size) (fr : Int) (a : Option Addr) (c : Nat) (bs : List Int) (hs : SL w a bs.length bs) (hm : bs.length ≤ 2048) (R : Ending → World → Prop)
    (hR : ∀ w3, Below w.heap.size w w3 → w3.heap[w.heap.size]? = some (.cells (bv bs) 5 (0, 0)) → ∃ k w2, (∀ fr' cs es, stepG Try.prog true (G fr' cs) w3 = .comm (G fr' cs) #[scase ci (mv ⟨fr, w.heap.size, bs⟩) z42] false .select w3 es → step Try.prog (solo (G fr' cs) w3) = .next (solo (G (fr'.finish (.tuple #[goInt k, .bool false])) cs) w2)) ∧ ((k = 0 ∧ R (.returned (.bool true)) w2) ∨ (k = -1 ∧ R (.returned (.bool false)) w2))) :
    Calls Try.prog 22 #[.pointer (some ⟨b, i * 2, none⟩), .int .i64 fr, .slice a bs.length c] w R := by
  have hmk := run_make_bytes bs.length (by omega) w
  obtain ⟨w3, hr3, hg3, hb3⟩ := copy_new a c bs hs
  obtain ⟨k, w2, hs2, hk⟩ := hR w3 hb3 hg3
  have d1 := ((bcell hb3).1 b (i * 2 + 1) hb).trans c1
  have hb' : b < w3.heap.size := Nat.lt_of_lt_of_le hb hb3.size
  have HS : Hid (∀ fr' cs es, stepG Try.prog true (G fr' cs) w3 = .comm (G fr' cs) #[scase ci (mv ⟨fr, w.heap.size, bs⟩) z42] false .select w3 es → step Try.prog (solo (G fr' cs) w3) = .next (solo (G (fr'.finish (.tuple #[goInt k, .bool false])) cs) w2)) := hs2
  clear hR hs2 hs hg3 hb3 c1
  generalize (List.replicate bs.length (0 : Int)).map (Value.int .u8) = zz at *
  rcases hk with ⟨rfl, hR⟩ | ⟨rfl, hR⟩
  all_goals
    refine calls_of_np Try.func22 rfl ?_
    simp only [Try.ntmps22, List.size_toArray, List.length_cons, List.length_nil, Nat.reduceAdd, Nat.reduceSub, Array.replicate_succ, Array.replicate_zero, List.push_toArray, List.append_toArray, List.nil_append, List.cons_append]
    refine np_seq_k fun K hK => ?_
    go_wp2_with fail
    refine np_seq_k fun K hK => ?_
    go_wp2_with fail
    refine np_seq_k fun K hK => ?_
    go_wp2_with fail
    refine np_seq_k fun K hK => ?_
    go_wp2_with fail
    refine np_seq_sel rfl (by simp [go_sem, execOp, Act.eval]; rfl) HS.out fun K hK => ?_
    simp only [Act.put, List.setIfInBounds_toArray, List.set_cons_succ, List.set_cons_zero]
    go_wp2_with fail
    refine np_of_wp ?_
    go_wp2_with fail
    exact hR
theorem results_cell_row2 {P : Program} {fn : Func} {p u : Tmp} {ty : TypeId} (h : fn.results = #[.cell p ty, .tmp u]) (tmps : Array Value) (w : World) (g : Nat) (t : TypeId) (cs : Array Value) (fr : Nat × Nat) (d : TypeDesc)
    (hp : tmps.getD p undef = .pointer (some ⟨g, 0, none⟩)) (hg : w.heap[g]? = some (.cells cs t fr))
    (hu : P.underlying ty = some d) (hd : (match d with | .struct _ | .array _ _ => true | _ => false) = true) (hi : (P.info? ty).map (·.size) = some cs.size) :
    (results fn tmps).run P w = .ok (.tuple #[.agg cs, tmps.getD u undef]) w := by
  rw [results_cell_tmp h, hp]
  simp [asAddr, run_loadVar_row w g t ty cs fr d hg hu hd hi]
theorem inf42 : (Try.prog.info? 42).map (·.size) = some 2 := by kernel_rfl
/-- both cells of a block of two are written -/
theorem set2 {w : World} {g : Nat} {c d : Value} {t : TypeId} (h : w.heap[g]? = some (.cells #[c, d] t (0, 0))) (a b : Value) :
    ((w.setCell ⟨g, 0, none⟩ a).setCell ⟨g, 1, none⟩ b).heap[g]? = some (.cells #[a, b] t (0, 0)) ∧ Trn (fun k => k = g) w ((w.setCell ⟨g, 0, none⟩ a).setCell ⟨g, 1, none⟩ b) := by
  have h1 := setRow_heap w g #[c, d] (#[c, d].setIfInBounds 0 a) t _ h
  rw [← setCell_eq_setRow w g 0 #[c, d] t (0, 0) a h] at h1
  have h2 := setRow_heap _ g _ ((#[c, d].setIfInBounds 0 a).setIfInBounds 1 b) t _ h1
  rw [← setCell_eq_setRow _ g 1 _ t (0, 0) b h1] at h2
  exact ⟨h2, (trn_setCell (fun k => k = g) h rfl 0 a).trans (trn_setCell (fun k => k = g) h1 rfl 1 b)⟩
set_option maxHeartbeats 1000000 in
theorem receive_any {B : Nat} {w : World} {l b n : Nat} {C : Nat → Nat} {Gr : Nat → Int} {Q : Nat → List Msg} {N : Nat → Prop} (h : WW B w l b n C Gr Q N) {i : Nat} (hi : i < n) (x : Int) (sv : Value) (k : Int) (ok : Bool) (w2 : World) (R : Ending → World → Prop) (hx : ∃ ad n c, sv = .slice ad n c)
    (hs : ∀ fr cs es, stepG Try.prog true (G fr cs) (w.alloc (.cells #[.int .i64 0, .slice none 0 0] 42)) = .comm (G fr cs) #[rcase (C i) z42] false .select (w.alloc (.cells #[.int .i64 0, .slice none 0 0] 42)) es → step Try.prog (solo (G fr cs) (w.alloc (.cells #[.int .i64 0, .slice none 0 0] 42))) = .next (solo (G (fr.finish (.tuple #[goInt k, .bool ok, .agg #[.int .i64 x, sv]])) cs) w2))
    (hk : (k = 0 ∧ (∀ w', Trn (fun k => k = w.heap.size) w2 w' → R (.returned (.tuple #[.agg #[.int .i64 x, sv], .bool true])) w')) ∨ (k = -1 ∧ (∀ w', Trn (fun k => k = w.heap.size) w2 w' → R (.returned (.tuple #[z42, .bool false])) w')))
    (h2 : w2.heap[w.heap.size]? = some (.cells #[.int .i64 0, .slice none 0 0] 42 (0, 0))) :
    Calls Try.prog 14 #[.pointer (some ⟨l, 0, none⟩), .int .i64 i] w R := by
  have H : Hid (Of l b i (w.alloc (.cells #[.int .i64 0, .slice none 0 0] 42))) := of_ok (h.below ((Below.refl _ _).alloc (Nat.le_refl _) _)) hi
  obtain ⟨c0, c1⟩ := h.r hi
  have hb := h.blt
  obtain ⟨ad, sn, sc, rfl⟩ := hx
  have HS : Hid (∀ fr cs es, stepG Try.prog true (G fr cs) (w.alloc (.cells #[.int .i64 0, .slice none 0 0] 42)) = .comm (G fr cs) #[rcase (C i) z42] false .select (w.alloc (.cells #[.int .i64 0, .slice none 0 0] 42)) es → step Try.prog (solo (G fr cs) (w.alloc (.cells #[.int .i64 0, .slice none 0 0] 42))) = .next (solo (G (fr.finish (.tuple #[goInt k, .bool ok, .agg #[.int .i64 x, .slice ad sn sc]])) cs) w2)) := hs
  have e0 : w2.cell? ⟨w.heap.size, 0, none⟩ = some (.int .i64 0) := by simp [World.cell?, h2]
  have e1 : w2.cell? ⟨w.heap.size, 1, none⟩ = some (.slice none 0 0) := by simp [World.cell?, h2]
  have f0 : w2.frozen? ⟨w.heap.size, 0, none⟩ = false := by simp [World.frozen?, h2]
  have f1 : w2.frozen? ⟨w.heap.size, 1, none⟩ = false := by simp [World.frozen?, h2]
  have hl2 : w.heap.size < w2.heap.size := lt_of_heap h2
  have H1 : Hid (∀ a b, ((w2.setCell ⟨w.heap.size, 0, none⟩ a).setCell ⟨w.heap.size, 1, none⟩ b).heap[w.heap.size]? = some (.cells #[a, b] 42 (0, 0)) ∧ Trn (fun k => k = w.heap.size) w2 ((w2.setCell ⟨w.heap.size, 0, none⟩ a).setCell ⟨w.heap.size, 1, none⟩ b)) := fun a b => set2 h2 a b
  have H2 : Hid (∀ a b o, (((w2.setCell ⟨w.heap.size, 0, none⟩ a).setCell ⟨w.heap.size, 1, none⟩ b).alloc o).heap[w.heap.size]? = some (.cells #[a, b] 42 (0, 0)) ∧ Trn (fun k => k = w.heap.size) w2 (((w2.setCell ⟨w.heap.size, 0, none⟩ a).setCell ⟨w.heap.size, 1, none⟩ b).alloc o)) := fun a b o => by
    obtain ⟨p, q⟩ := set2 h2 a b
    exact ⟨(heap_alloc_past _ _ (lt_of_heap p)).trans p, q.trans (Trn.of_below ((Below.refl _ _).alloc (Nat.le_refl _) _))⟩
  clear h hs h2
  rcases hk with ⟨rfl, hR⟩ | ⟨rfl, hR⟩
  all_goals
    refine calls_of_np Try.func14 rfl ?_
    simp only [Try.ntmps14, List.size_toArray, List.length_cons, List.length_nil, Nat.reduceAdd, Nat.reduceSub, Array.replicate_succ, Array.replicate_zero, List.push_toArray, List.append_toArray, List.nil_append, List.cons_append]
    refine np_seq_k fun K hK => ?_
    go_wp2_with fail
    refine np_seq_k fun K hK => ?_
    go_wp2_with fail
    refine Calls.mono H.out ?_
    rintro e w1 ⟨rfl, rfl⟩
    go_wp2_with fail
    refine np_seq_k fun K hK => ?_
    go_wp2_with fail
    refine np_seq_k fun K hK => ?_
    go_wp2_with fail
    refine np_seq_sel rfl (by simp [go_sem, execOp, Act.eval]; rfl) HS.out fun K hK => ?_
    simp only [Act.put, List.setIfInBounds_toArray, List.set_cons_succ, List.set_cons_zero]
    go_wp2_with fail
    refine np_of_wp ?_
    go_wp2_with fail
    first
      | exact bodyPost_ret (v := _) (results_cell_row2 Try.results14 _ _ _ _ _ _ _ rfl (H2.out _ _ _).1 Try.underlying42 rfl inf42) rfl (hR _ (H2.out _ _ _).2)
      | exact bodyPost_ret (v := _) (results_cell_row2 Try.results14 _ _ _ _ _ _ _ rfl (H1.out _ _).1 Try.underlying42 rfl inf42) rfl (hR _ (H1.out _ _).2)
section
variable {B : Nat} {w : World} {l b n : Nat} {C : Nat → Nat} {Gr : Nat → Int} {Q : Nat → List Msg} {N : Nat → Prop}
theorem receive_off {p : Value} {port c : Int} (h : Off p port c (w.alloc (.cells #[.int .i64 0, .slice none 0 0] 42))) (hc : ¬ c = 0) : Calls Try.prog 14 #[p, .int .i64 port] w fun e w' => e = .returned (.tuple #[z42, .bool false]) ∧ Below w.heap.size w w' := by
  have H : Hid (Off p port c (w.alloc (.cells #[.int .i64 0, .slice none 0 0] 42))) := h
  clear h
  have HB : Hid (∀ o, Below w.heap.size w (w.alloc o)) := fun o => (Below.refl _ _).alloc (Nat.le_refl _) o
  go_enter Try.func14, Try.ntmps14
  go_wp2_with fail
  refine Calls.mono H.out ?_
  rintro e w1 ⟨rfl, rfl⟩
  go_wp2_with fail
  exact bodyPost_ret (v := _) (results_cell_row2 Try.results14 _ _ _ _ _ _ _ rfl (heap_alloc_at _ _) Try.underlying42 rfl inf42) rfl ⟨rfl, HB.out _⟩
/-- a world in which nothing but new blocks has turned -/
theorem trn_new {w w1 w2 : World} {g : Nat} {S : Nat → Prop} (h : Trn S w w1) (hg : w.heap.size ≤ g) (k : Trn (fun k => k = g) w1 w2) : Trn S w w2 :=
  ⟨k.os.trans h.os, k.tape.trans h.tape, k.output.trans h.output, Nat.le_trans h.size k.size, fun i hi hr => (k.block i (Nat.lt_of_lt_of_le hi h.size) (by omega)).trans (h.block i hi hr)⟩
theorem receive_none (h : WW B w l b n C Gr Q N) {i : Nat} (hi : i < n) (hq : Q i = []) :
    Calls Try.prog 14 #[.pointer (some ⟨l, 0, none⟩), .int .i64 i] w fun e w' => e = .returned (.tuple #[z42, .bool false]) ∧ Below w.heap.size w w' := by
  have hb : Below w.heap.size w (w.alloc (.cells #[.int .i64 0, .slice none 0 0] 42)) := (Below.refl _ _).alloc (Nat.le_refl _) _
  obtain ⟨s, r, hc⟩ := (h.below hb).ch i hi
  rw [hq] at hc
  refine receive_any h hi 0 (.slice none 0 0) (-1) false _ _ ⟨_, _, _, rfl⟩ (fun fr cs es hst => step_lone_select_default hst hc) (.inr ⟨rfl, fun w' ht => ⟨rfl, ?_⟩⟩) (heap_alloc_at _ _)
  exact ⟨ht.os.trans hb.os, ht.tape.trans hb.tape, ht.output.trans hb.output, Nat.le_trans hb.size ht.size, fun k hk => (ht.block k (Nat.lt_of_lt_of_le hk hb.size) (by omega)).trans (hb.block k hk)⟩
theorem receive_some (h : WW B w l b n C Gr Q N) {i : Nat} (hi : i < n) (m : Msg) (q : List Msg) (hq : Q i = m :: q) :
    Calls Try.prog 14 #[.pointer (some ⟨l, 0, none⟩), .int .i64 i] w fun e w' => e = .returned (.tuple #[mv m, .bool true]) ∧ WW B w' l b n C Gr (upd Q i q) (fun k => N k ∨ k = m.X) ∧ Trn (WS b n C) w w' ∧ w'.heap[m.X]? = some (.cells (bv m.bs) 5 (0, 0)) ∧ B ≤ m.X ∧ m.X < w.heap.size ∧ m.bs.length ≤ 2048 ∧ Bytes m.bs := by
  have hb : Below w.heap.size w (w.alloc (.cells #[.int .i64 0, .slice none 0 0] 42)) := (Below.refl _ _).alloc (Nat.le_refl _) _
  have h1 := h.below hb
  obtain ⟨s, r, hc⟩ := h1.ch i hi
  rw [hq] at hc
  have hst := fun fr cs es hst => step_lone_select_recv_buf (P := Try.prog) (fr := fr) (cs := cs) (w := w.alloc (.cells #[.int .i64 0, .slice none 0 0] 42)) (w₁ := w.alloc (.cells #[.int .i64 0, .slice none 0 0] 42)) (es := es) (z := z42) hst hc (by rw [ev_size]; simp)
  simp only [ev_head, ev_rest] at hst
  obtain ⟨p1, p2, p3, p4, p5, p6⟩ := h1.pop hi m q hq s (r + 1)
  have hx := (h.xne hi (m := m) (by rw [hq]; simp)).1
  have hcl := h.clt hi
  refine receive_any h hi m.fr (.slice (some ⟨m.X, 0, none⟩) m.bs.length m.bs.length) 0 true _ _ ⟨_, _, _, rfl⟩ hst (.inl ⟨rfl, fun w' ht => ⟨rfl, ?_, ?_, ?_, p4, hx, p5, p6⟩⟩) ?_
  · refine p1.keep ht.size fun k hk hs => ht.block k hk fun e => ?_
    subst e
    have hl := h.lt
    have hbl := h.blt
    rcases hs with e | (e | ⟨j, hj, e⟩) | ⟨j, hj, m', hm', e⟩
    · omega
    · omega
    · have := h.clt hj; omega
    · by_cases hji : j = i
      · subst hji
        rw [upd_self] at hm'
        have := (h.xne hj (m := m') (by rw [hq]; simp [hm'])).1
        omega
      · rw [upd_other _ _ _ hji] at hm'
        have := (h.xne hj hm').1
        omega
  · exact trn_new ((Trn.of_below hb).trans p2) (Nat.le_refl _) ht
  · rw [ht.block _ (lt_of_heap p3) (by omega)]
    exact p3
  · have ht' := trn_setChan (fun k => k = C i) (w.alloc (.cells #[.int .i64 0, .slice none 0 0] 42)) (C i) 16 (ev q) false s (r + 1) false rfl
    rw [ht'.block _ (by simp) (by omega)]
    exact heap_alloc_at _ _
theorem put_room (h : WW B w l b n C Gr Q N) {i : Nat} (hi : i < n) (fr : Int) (a : Option Addr) (c : Nat) (bs : List Int) (hs : SL w a bs.length bs) (hm : bs.length ≤ 2048) (hq : (Q i).length < 16) :
    Calls Try.prog 22 #[.pointer (some ⟨b, i * 2, none⟩), .int .i64 fr, .slice a bs.length c] w fun e w' => e = .returned (.bool true) ∧ WW B w' l b n C Gr (upd Q i (Q i ++ [⟨fr, w.heap.size, bs⟩])) N ∧ Trn (WS b n C) w w' := by
  refine put_any (h.r hi).2 h.blt fr a c bs hs hm _ fun w3 hb3 hg3 => ?_
  obtain ⟨s, r, hc⟩ := (h.below hb3).ch i hi
  refine ⟨0, _, fun fr' cs es hst => step_lone_select_send_room hst hc (by rw [ev_size]; exact hq), .inl ⟨rfl, rfl, ?_⟩⟩
  rw [ev_push]
  exact h.push hi hb3 ⟨fr, w.heap.size, bs⟩ (Nat.le_refl _) hg3 hm hs.2.1 hq _ _
theorem put_full (h : WW B w l b n C Gr Q N) {i : Nat} (hi : i < n) (fr : Int) (a : Option Addr) (c : Nat) (bs : List Int) (hs : SL w a bs.length bs) (hm : bs.length ≤ 2048) (hq : 16 ≤ (Q i).length) :
    Calls Try.prog 22 #[.pointer (some ⟨b, i * 2, none⟩), .int .i64 fr, .slice a bs.length c] w fun e w' => e = .returned (.bool false) ∧ Below w.heap.size w w' := by
  refine put_any (h.r hi).2 h.blt fr a c bs hs hm _ fun w3 hb3 hg3 => ?_
  obtain ⟨s, r, hc⟩ := (h.below hb3).ch i hi
  exact ⟨-1, _, fun fr' cs es hst => step_lone_select_send_full hst hc (by rw [ev_size]; exact hq), .inr ⟨rfl, rfl, hb3⟩⟩
end
/-- a message is put behind those that wait, if there is room -/
def addA (q : List (Int × List Int)) (m : Int × List Int) : List (Int × List Int) := if q.length < 16 then q ++ [m] else q
section
variable {B : Nat} {w : World} {l b n : Nat} {C : Nat → Nat} {Gr : Nat → Int} {A : Nat → List (Int × List Int)} {N : Nat → Prop}
theorem xput (h : WX B w l b n C Gr A N) {i : Nat} (hi : i < n) (fr : Int) (a : Option Addr) (c : Nat) (bs : List Int) (hs : SL w a bs.length bs) (hm : bs.length ≤ 2048) :
    Calls Try.prog 22 #[.pointer (some ⟨b, i * 2, none⟩), .int .i64 fr, .slice a bs.length c] w fun e w' => e = .returned (.bool (decide ((A i).length < 16))) ∧ WX B w' l b n C Gr (upd A i (addA (A i) (fr, bs))) N ∧ Trn (WS b n C) w w' := by
  have h0 := h
  obtain ⟨Q, h, e⟩ := h
  have el : (Q i).length = (A i).length := by rw [← e i hi, List.length_map]
  by_cases hq : (Q i).length < 16
  · refine (put_room h hi fr a c bs hs hm hq).mono fun r w' ⟨he, hw, ht⟩ => ⟨by rw [he, decide_eq_true (by omega)], ⟨_, hw, fun k hk => ?_⟩, ht⟩
    by_cases hki : k = i
    · subst hki
      rw [upd_self, upd_self, addA, if_pos (by omega), List.map_append, e k hk]; rfl
    · rw [upd_other _ _ _ hki, upd_other _ _ _ hki]; exact e k hk
  · refine (put_full h hi fr a c bs hs hm (by omega)).mono fun r w' ⟨he, hb⟩ => ⟨by rw [he, decide_eq_false (by omega)], ?_, Trn.of_below hb⟩
    rw [addA, if_neg (by omega), upd_same]
    exact h0.below hb
theorem xoff (h : WX B w l b n C Gr A N) {port : Int} (hi : port < 0 ∨ (n : Int) ≤ port) : Off (.pointer (some ⟨l, 0, none⟩)) port 2 w := by
  obtain ⟨Q, h, e⟩ := h
  exact of_bad h hi
theorem xof (h : WX B w l b n C Gr A N) {i : Nat} (hi : i < n) : Of l b i w := by
  obtain ⟨Q, h, e⟩ := h
  exact of_ok h hi
theorem xwaiting (h : WX B w l b n C Gr A N) {i : Nat} (hi : i < n) : Calls Try.prog 19 #[.pointer (some ⟨l, 0, none⟩), .int .i64 i] w fun e w' => e = .returned (.int .i64 (A i).length) ∧ w' = w := by
  obtain ⟨Q, h, e⟩ := h
  have el : (Q i).length = (A i).length := by rw [← e i hi, List.length_map]
  have := waiting_ok h hi
  rw [el] at this
  exact this
theorem xjoin (h : WX B w l b n C Gr A N) {i : Nat} (hi : i < n) (x : Int) : Calls Try.prog 16 #[.pointer (some ⟨l, 0, none⟩), .int .i64 i, .int .i64 x] w fun e w' => e = .returned (.int .i64 0) ∧ WX B w' l b n C (upd Gr i x) A N ∧ Trn (WS b n C) w w' := by
  obtain ⟨Q, h, e⟩ := h
  exact (join_ok h hi x).mono fun r w' ⟨he, hw, ht⟩ => ⟨he, ⟨Q, hw, e⟩, ht⟩
theorem xjoined (h : WX B w l b n C Gr A N) {i j : Nat} (hi : i < n) (hj : j < n) : Calls Try.prog 25 #[.pointer (some ⟨l, 0, none⟩), .int .i64 i, .int .i64 j] w fun e w' => e = .returned (.bool (decide (i ≠ j ∧ Gr i = Gr j))) ∧ ∃ k, w' = w.drewN k := by
  obtain ⟨Q, h, e⟩ := h
  exact joined_ok h hi hj
theorem xmay (h : WX B w l b n C Gr A N) {i : Nat} (hi : i < n) (to : Int) (a : Option Addr) (m c : Nat) : Calls Try.prog 20 #[.pointer (some ⟨l, 0, none⟩), .int .i64 i, .int .i64 to, .slice a m c] w fun e w' => e = .returned (.int .i64 (mayE n Gr i to m)) ∧ ∃ k, w' = w.drewN k := by
  obtain ⟨Q, h, e⟩ := h
  exact may_ok h hi to a m c
theorem xreceive_none (h : WX B w l b n C Gr A N) {i : Nat} (hi : i < n) (hq : A i = []) :
    Calls Try.prog 14 #[.pointer (some ⟨l, 0, none⟩), .int .i64 i] w fun e w' => e = .returned (.tuple #[z42, .bool false]) ∧ Below w.heap.size w w' := by
  obtain ⟨Q, h, e⟩ := h
  exact receive_none h hi (List.map_eq_nil_iff.1 ((e i hi).trans hq))
theorem xreceive_some (h : WX B w l b n C Gr A N) {i : Nat} (hi : i < n) (fr : Int) (bs : List Int) (q : List (Int × List Int)) (hq : A i = (fr, bs) :: q) :
    Calls Try.prog 14 #[.pointer (some ⟨l, 0, none⟩), .int .i64 i] w fun e w' => ∃ X, e = .returned (.tuple #[.agg #[.int .i64 fr, .slice (some ⟨X, 0, none⟩) bs.length bs.length], .bool true]) ∧ WX B w' l b n C Gr (upd A i q) (fun k => N k ∨ k = X) ∧ Trn (WS b n C) w w' ∧ w'.heap[X]? = some (.cells (bv bs) 5 (0, 0)) ∧ B ≤ X ∧ X < w.heap.size ∧ bs.length ≤ 2048 ∧ Bytes bs := by
  obtain ⟨Q, h, e⟩ := h
  have e1 := (e i hi).trans hq
  obtain ⟨m, q', hQ, hm, hq'⟩ := List.map_eq_cons_iff.1 e1
  obtain ⟨mf, X, mb⟩ := m
  simp only [Msg.ab, Prod.mk.injEq] at hm
  obtain ⟨rfl, rfl⟩ := hm
  refine (receive_some h hi ⟨mf, X, mb⟩ q' hQ).mono fun r w' ⟨he, hw, ht, hx, r1, r2, r3, r4⟩ => ⟨X, he, ⟨_, hw, fun k hk => ?_⟩, ht, hx, r1, r2, r3, r4⟩
  by_cases hki : k = i
  · subst hki; rw [upd_self, upd_self]; exact hq'
  · rw [upd_other _ _ _ hki, upd_other _ _ _ hki]; exact e k hk
end
end Go.Proofs.Ytnjkbpjkaignbaa
