/-
  What Send and Take do.
-/
import Derived.Test.YtdmegoglcnggoaaSm
namespace Go.Proofs.Ytdmegoglcnggoaa
open Go.RowKit Go.Conc
set_option linter.unusedVariables false
set_option maxRecDepth 20000

section
variable {w : World} {p : Value} {core c : Int}
theorem send_off (h : Off p core c w) (hc : ¬ c = 0) (x : Int) : Calls Try.prog 11 #[p, .int .i64 core, .int .i64 x] w fun e w' => e = .returned (.int .i64 c) ∧ w' = w := by
  have H : Hid (Off p core c w) := h
  clear h
  go_enter Try.func11, Try.ntmps11
  go_wp2_with fail
  refine Calls.mono H.out ?_
  rintro e w ⟨rfl, rfl⟩
  go_wp2_with fail
  go_ret
  exact ⟨rfl, rfl⟩
theorem take_off (h : Off p core c w) (hc : ¬ c = 0) : Calls Try.prog 13 #[p, .int .i64 core] w fun e w' => e = .returned (.tuple #[.int .i64 0, .bool false]) ∧ w' = w := by
  have H : Hid (Off p core c w) := h
  clear h
  go_enter Try.func13, Try.ntmps13
  go_wp2_with fail
  refine Calls.mono H.out ?_
  rintro e w ⟨rfl, rfl⟩
  go_wp2_with fail
  go_ret2
  exact ⟨rfl, rfl⟩
end
theorem np_seq_sel {P : Program} {Q : Exit → Act → World → Prop} {a : Act} {w : World} {y : Code} {id : Nat} {o : Oper} {l : List Oper} {cases : Array CommCase} {v : Value} {w' : World} (hg : o.guard = none)
    (hr : (execOp a.eval o).run P w = .ok (.comm cases false .select) w)
    (hs : ∀ fr cs es, stepG P true (G fr cs) w = .comm (G fr cs) cases false .select w es → step P (solo (G fr cs) w) = .next (solo (G (fr.finish v) cs) w'))
    (h : ∀ K : Act → World → Prop, (∀ a w, NP P y Q a w → K a w) → wpList P (o :: l).toArray (Exit.then K Q) l (a.put o.dst v) w') : NP P (.seq (.region id (o :: l).toArray false) y) Q a w :=
  np_seq (np_region_sel hg hr hs (h _ fun _ _ h => h))
section
variable {B : Nat} {w w' : World} {l b n : Nat} {C : Nat → Nat} {S : Nat → Ln}
theorem send_any (h : LW B w l b n C S) {i : Nat} (hi : i < n) (x : Int) (k : Int) (w2 : World) (R : Ending → World → Prop)
    (hs : ∀ fr cs es, stepG Try.prog true (G fr cs) w = .comm (G fr cs) #[scase (C i) (.int .i64 x) (.int .i64 0)] false .select w es → step Try.prog (solo (G fr cs) w) = .next (solo (G (fr.finish (.tuple #[goInt k, .bool false])) cs) w2))
    (hk : (k = 0 ∧ R (.returned (.int .i64 0)) w2) ∨ (k = -1 ∧ R (.returned (.int .i64 18)) w2)) :
    Calls Try.prog 11 #[.pointer (some ⟨l, 0, none⟩), .int .i64 i, .int .i64 x] w R := by
  have H : Hid (Of l b i w) := of_ok h hi
  obtain ⟨c0, c1, c2, c3⟩ := h.r hi
  have hb := h.blt
  have HS : Hid (∀ fr cs es, stepG Try.prog true (G fr cs) w = .comm (G fr cs) #[scase (C i) (.int .i64 x) (.int .i64 0)] false .select w es → step Try.prog (solo (G fr cs) w) = .next (solo (G (fr.finish (.tuple #[goInt k, .bool false])) cs) w2)) := hs
  clear h hs
  rcases hk with ⟨rfl, hR⟩ | ⟨rfl, hR⟩
  all_goals
    refine calls_of_np Try.func11 rfl ?_
    simp only [Try.ntmps11, List.size_toArray, List.length_cons, List.length_nil, Nat.reduceAdd, Nat.reduceSub, Array.replicate_succ, Array.replicate_zero, List.push_toArray, List.append_toArray, List.nil_append, List.cons_append]
    refine np_seq_k fun K hK => ?_
    go_wp2_with fail
    refine np_seq_k fun K hK => ?_
    go_wp2_with fail
    refine Calls.mono H.out ?_
    rintro e w ⟨rfl, rfl⟩
    go_wp2_with fail
    refine np_seq_k fun K hK => ?_
    go_wp2_with fail
    refine np_seq_k fun K hK => ?_
    go_wp2_with fail
    refine np_seq_sel rfl (by simp [go_sem, execOp, Act.eval]; rfl) HS.out fun K hK => ?_
    simp only [Act.put, List.setIfInBounds_toArray, List.set_cons_succ, List.set_cons_zero]
    go_wp2_with fail
    refine np_of_wp ?_
    go_wp2_with fail
    exact hR
theorem take_any (h : LW B w l b n C S) {i : Nat} (hi : i < n) (x k : Int) (ok : Bool) (w2 : World) (R : Ending → World → Prop)
    (hs : ∀ fr cs es, stepG Try.prog true (G fr cs) w = .comm (G fr cs) #[rcase (C i) (.int .i64 0)] false .select w es → step Try.prog (solo (G fr cs) w) = .next (solo (G (fr.finish (.tuple #[goInt k, .bool ok, .int .i64 x])) cs) w2))
    (hk : (k = 0 ∧ R (.returned (.tuple #[.int .i64 x, .bool true])) w2) ∨ (k = -1 ∧ R (.returned (.tuple #[.int .i64 0, .bool false])) w2)) :
    Calls Try.prog 13 #[.pointer (some ⟨l, 0, none⟩), .int .i64 i] w R := by
  have H : Hid (Of l b i w) := of_ok h hi
  obtain ⟨c0, c1, c2, c3⟩ := h.r hi
  have hb := h.blt
  have HS : Hid (∀ fr cs es, stepG Try.prog true (G fr cs) w = .comm (G fr cs) #[rcase (C i) (.int .i64 0)] false .select w es → step Try.prog (solo (G fr cs) w) = .next (solo (G (fr.finish (.tuple #[goInt k, .bool ok, .int .i64 x])) cs) w2)) := hs
  clear h hs
  rcases hk with ⟨rfl, hR⟩ | ⟨rfl, hR⟩
  all_goals
    refine calls_of_np Try.func13 rfl ?_
    simp only [Try.ntmps13, List.size_toArray, List.length_cons, List.length_nil, Nat.reduceAdd, Nat.reduceSub, Array.replicate_succ, Array.replicate_zero, List.push_toArray, List.append_toArray, List.nil_append, List.cons_append]
    refine np_seq_k fun K hK => ?_
    go_wp2_with fail
    refine np_seq_k fun K hK => ?_
    go_wp2_with fail
    refine Calls.mono H.out ?_
    rintro e w ⟨rfl, rfl⟩
    go_wp2_with fail
    refine np_seq_k fun K hK => ?_
    go_wp2_with fail
    refine np_seq_k fun K hK => ?_
    go_wp2_with fail
    refine np_seq_sel rfl (by simp [go_sem, execOp, Act.eval]; rfl) HS.out fun K hK => ?_
    simp only [Act.put, List.setIfInBounds_toArray, List.set_cons_succ, List.set_cons_zero]
    go_wp2_with fail
    refine np_of_wp ?_
    go_wp2_with fail
    exact hR
theorem send_room (h : LW B w l b n C S) {i : Nat} (hi : i < n) (x : Int) (hq : (S i).q.length < 16) :
    Calls Try.prog 11 #[.pointer (some ⟨l, 0, none⟩), .int .i64 i, .int .i64 x] w fun e w' => e = .returned (.int .i64 0) ∧ LW B w' l b n C (upd S i ⟨(S i).q ++ [x], (S i).ck, (S i).tm, (S i).on⟩) ∧ Trn (LS b n C) w w' := by
  obtain ⟨s, r, hc⟩ := h.ch i hi
  refine send_any h hi x 0 _ _ (fun fr cs es hst => step_lone_select_send_room hst hc (by rw [ev_size]; exact hq)) (.inl ⟨rfl, rfl, ?_⟩)
  rw [ev_push]
  exact h.setq hi _ (by simp; omega) _ _
theorem send_full (h : LW B w l b n C S) {i : Nat} (hi : i < n) (x : Int) (hq : 16 ≤ (S i).q.length) :
    Calls Try.prog 11 #[.pointer (some ⟨l, 0, none⟩), .int .i64 i, .int .i64 x] w fun e w' => e = .returned (.int .i64 18) ∧ w' = w := by
  obtain ⟨s, r, hc⟩ := h.ch i hi
  exact send_any h hi x (-1) _ _ (fun fr cs es hst => step_lone_select_send_full hst hc (by rw [ev_size]; exact hq)) (.inr ⟨rfl, rfl, rfl⟩)
theorem take_some (h : LW B w l b n C S) {i : Nat} (hi : i < n) (x : Int) (q : List Int) (hq : (S i).q = x :: q) :
    Calls Try.prog 13 #[.pointer (some ⟨l, 0, none⟩), .int .i64 i] w fun e w' => e = .returned (.tuple #[.int .i64 x, .bool true]) ∧ LW B w' l b n C (upd S i ⟨q, (S i).ck, (S i).tm, (S i).on⟩) ∧ Trn (LS b n C) w w' := by
  obtain ⟨s, r, hc⟩ := h.ch i hi
  have hl := (h.rg i hi).2.2
  rw [hq] at hc hl
  have hst := fun fr cs es hst => step_lone_select_recv_buf (P := Try.prog) (fr := fr) (cs := cs) (w := w) (w₁ := w) (es := es) (z := .int .i64 0) hst hc (by rw [ev_size]; simp)
  simp only [ev_head, ev_rest] at hst
  refine take_any h hi x 0 true _ _ hst (.inl ⟨rfl, rfl, ?_⟩)
  exact h.setq hi _ (by simp at hl; omega) _ _
theorem take_none (h : LW B w l b n C S) {i : Nat} (hi : i < n) (hq : (S i).q = []) :
    Calls Try.prog 13 #[.pointer (some ⟨l, 0, none⟩), .int .i64 i] w fun e w' => e = .returned (.tuple #[.int .i64 0, .bool false]) ∧ w' = w := by
  obtain ⟨s, r, hc⟩ := h.ch i hi
  rw [hq] at hc
  exact take_any h hi 0 (-1) false _ _ (fun fr cs es hst => step_lone_select_default hst hc) (.inr ⟨rfl, rfl, rfl⟩)
end
end Go.Proofs.Ytdmegoglcnggoaa
