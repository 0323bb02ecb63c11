/-
  What the document's put does.
-/
import Derived.Test.YtnjkbpjkaignbaaRb
namespace Go.Proofs.Ytnjkbpjkaignbaa
open Go.RowKit
set_option linter.unusedVariables false
set_option maxRecDepth 20000

theorem step_append_run {P : Program} {w : World} {ops : Array Oper} {o : Oper} {a : Act} {K : Act → World → Prop} {Q : Exit → Act → World → Prop} {E : Prop} (hgd : o.guard = none) (s x : Operand) (t : TypeId)
    (ho : o.op = .call { callee := .builtin .append, args := #[s, x], argTypes := #[t, t] }) (vs vx v' : Value) (w' : World) (hs : a.eval s = vs) (hx : a.eval x = vx)
    (hrun : (Builtin.append_ #[t, t] o.type #[vs, vx]).run P w = .ok v' w') (h : K (a.put o.dst v') w') : if Region.wanted o (yielded ops a.tmps) = true then Oper.wp P o a w K Q else E := by
  have hw : Region.wanted o (yielded ops a.tmps) = true := by simp [Region.wanted, hgd]
  rw [if_pos hw]
  unfold Oper.wp
  simp [execOp, ho, resolve, invoke, builtin, hs, hx, hrun, Result.andThen]
  exact h
section
variable {B : Nat} {w w' : World} {r g d n gc : Nat} {V : Nat → Value} {Gr : Nat → Int} {A : Nat → List (Int × List Int)}
theorem rput_full (h : RW B w r g d n gc V Gr A) {i : Nat} (hi : i < n) (fr : Int) (v : Value) (hq : 16 ≤ (A i).length) : Calls Try.prog 23 #[.pointer (some ⟨r, 0, none⟩), .int .i64 i, .int .i64 fr, v] w fun e w' => e = .returned (.bool false) ∧ w' = w := by
  obtain ⟨c0, c1⟩ := h.cc
  have hl := h.lt
  have hdl := h.dlt
  have ci := h.di hi
  obtain ⟨a, cp, hv⟩ := (h.qs i hi).form
  rw [hv] at ci
  have hi' : (i : Int) < (n : Int) := by omega
  have hq' : (16 : Int) ≤ ((A i).length : Int) := by omega
  clear h hv
  go_enter Try.func23, Try.ntmps23
  go_wp2_with fail
  go_ret
  exact ⟨rfl, rfl⟩
set_option maxHeartbeats 2000000 in
theorem rput_room (h : RW B w r g d n gc V Gr A) {i : Nat} (hi : i < n) (fr : Int) (a : Option Addr) (m c : Nat) (bs : List Int) (hs : SL w a m bs) (hq : (A i).length < 16) : Calls Try.prog 23 #[.pointer (some ⟨r, 0, none⟩), .int .i64 i, .int .i64 fr, .slice a m c] w fun e w' => e = .returned (.bool true) ∧ (∃ V', RW B w' r g d n gc V' Gr (upd A i (A i ++ [(fr, bs)])) ∧ (∀ k, RS g d n V' k → RS g d n V k ∨ w.heap.size ≤ k)) ∧ Trn (RS g d n V) w w' := by
  obtain ⟨c0, c1⟩ := h.cc
  have hl := h.lt
  have hdl := h.dlt
  have ci := h.di hi
  have hf := (h.f i).1
  have hi' : (i : Int) < (n : Int) := by omega
  have hbd : Below w.heap.size w w.drew := (Below.refl _ _).drew
  have hcv := conv_sl c (hs.below hbd)
  obtain ⟨v1, w1, hrun0, hQ1, hg1, hown⟩ := ((h.below hbd).qs i hi).push (fr, bs) (by omega) h.bw
  obtain ⟨a1, cp1, hv1⟩ := hQ1.form
  have hv2 : ∃ m1, v1 = .slice a1 m1 cp1 := ⟨_, hv1⟩
  clear hv1
  obtain ⟨m1, rfl⟩ := hv2
  have ht1 : Trn (fun k => (V i).ownBlock = some k) w w1 := by
    have hs := hg1.size
    rw [World.size_alloc] at hs
    have hs' : w.heap.size + 1 ≤ w1.heap.size := hs
    refine ⟨hg1.os, hg1.tape, hg1.output, by omega, fun k hk hn => ?_⟩
    rw [hg1.block k (by rw [World.size_alloc]; show k < w.heap.size + 1; omega) (fun e => hn e.symm)]
    exact heap_alloc_past w.drew _ hk
  have hZ := h.setv hi (.slice a1 m1 cp1) _ (by simp; omega) hQ1 hown ht1
  have HZ : Hid ((∃ V', RW B (w1.setCell ⟨d, i, none⟩ (.slice a1 m1 cp1)) r g d n gc V' Gr (upd A i (A i ++ [(fr, bs)])) ∧ (∀ k, RS g d n V' k → RS g d n V k ∨ w.heap.size ≤ k)) ∧ Trn (RS g d n V) w (w1.setCell ⟨d, i, none⟩ (.slice a1 m1 cp1))) := by
    refine ⟨⟨_, hZ.1, fun k hk => ?_⟩, hZ.2⟩
    rcases hk with e | e | ⟨j, hj, e⟩
    · exact .inl (.inl e)
    · exact .inl (.inr (.inl e))
    · by_cases hji : j = i
      · subst hji
        rw [upd_self] at e
        rcases hown k e with h' | h'
        · exact .inl (.inr (.inr ⟨j, hj, h'⟩))
        · exact .inr h'
      · rw [upd_other _ _ _ hji] at e
        exact .inl (.inr (.inr ⟨j, hj, e⟩))
  have hrun : (Builtin.append_ #[52, 52] 52 #[V i, .slice (some ⟨w.heap.size, 0, none⟩) 1 1]).run Try.prog (w.alloc (.cells #[.int .i64 fr, .string (strOfNums bs)] 46)).drew = .ok (.slice a1 m1 cp1) w1 := hrun0
  have hno : ¬ (V i).ownBlock = some d := fun e => (h.one hi e).2.2 rfl
  have hnr : ¬ (V i).ownBlock = some r := fun e => (h.one hi e).1 rfl
  have e1 : w1.cell? ⟨r, 1, none⟩ = some (.slice (some ⟨d, 0, none⟩) n n) := by simp only [World.cell?, ht1.block r hl hnr, h.ob]; rfl
  obtain ⟨cur, r1, r2, r3⟩ := h.ds
  have e2 : w1.cell? ⟨d, i, none⟩ = some (V i) := by rw [cell_at ((ht1.block d hdl hno).trans r1)]; exact r3 i hi
  have e3 : w1.frozen? ⟨d, i, none⟩ = false := by simp [World.frozen?, (ht1.block d hdl hno).trans r1]
  obtain ⟨a2, cp, hv⟩ := (h.qs i hi).form
  have hq' : ¬ ((16 : Int) ≤ ((A i).length : Int)) := by omega
  rw [hv] at ci hrun e2
  have hd1 : d < w1.heap.size := by have := ht1.size; omega
  have hr1 : r < w1.heap.size := by have := ht1.size; omega
  clear h hv hZ hrun0 hQ1 hg1 hown ht1 hno hnr r1 r2 r3 hbd hs
  generalize strOfNums bs = st at hcv hrun
  go_enter Try.func23, Try.ntmps23
  go_wp2_with fail
  go_region_law ((refine step_append_run (by rfl) _ _ 52 (by rfl) _ _ (.slice a1 m1 cp1) w1 (by rfl) (by rfl) hrun ?_))
  all_goals
    go_wp2_with fail
    go_ret
    exact ⟨rfl, HZ.out.1, HZ.out.2⟩
end
end Go.Proofs.Ytnjkbpjkaignbaa
