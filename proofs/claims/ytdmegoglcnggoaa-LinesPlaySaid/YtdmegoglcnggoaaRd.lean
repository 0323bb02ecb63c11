/-
  What the document's Send does.
-/
import Derived.Test.YtdmegoglcnggoaaRb
namespace Go.Proofs.Ytdmegoglcnggoaa
open Go.RowKit
set_option linter.unusedVariables false
set_option maxRecDepth 20000

theorem info3 : ∃ i, Try.prog.info? 3 = some i ∧ i.zero = some (.int .i64 0) ∧ i.size = 1 ∧ i.bytes = 8 := by
  have h : (Try.prog.info? 3).map (fun i => (i.zero, i.size, i.bytes)) = some (some (.int .i64 0), 1, 8) := by kernel_rfl
  obtain ⟨i, hi, hb⟩ := Option.map_eq_some_iff.1 h
  simp only [Prod.mk.injEq] at hb
  exact ⟨i, hi, hb.1, hb.2.1, hb.2.2⟩
theorem add_plain (b o j : Nat) : (⟨b, o, none⟩ : Addr).add j = ⟨b, o + j, none⟩ := by unfold Addr.add; split <;> simp_all
def iv (q : List Int) : List Value := q.map (Value.int .i64)
/-- a row of the call's own -/
theorem qs_of_row {B : Nat} {w : World} {v : Value} {q : List Int} (h : w.ownsRow B 3 1 v q.length (iv q)) : Qs B w v q := by
  obtain ⟨_, ⟨rfl, h0⟩ | ⟨g, c, cur, rfl, hB, h, h2, h3, h1, h4⟩⟩ := h
  · exact .inl ⟨rfl, List.eq_nil_of_length_eq_zero h0⟩
  · refine .inr ⟨g, 0, c, by simp, hB, cur, h, by simp at h1 ⊢; omega, h2, h3, fun i hi => ?_⟩
    have e : (cur.toList.take (q.length * 1))[i]? = (iv q)[i]? := by rw [h4]
    rw [List.getElem?_take_of_lt (by omega)] at e
    rw [Nat.zero_add, ← Array.getElem?_toList, e]
    simp [iv, hi]
theorem Qs.push {B : Nat} {w : World} {v : Value} {q : List Int} (h : Qs B w v q) (x : Int) (hl : q.length ≤ 16) (hB : B ≤ w.heap.size) :
    ∃ v' w', (Builtin.append_ #[49, 49] 49 #[v, .slice (some ⟨w.heap.size, 0, none⟩) 1 1]).run Try.prog (w.alloc (.cells #[.int .i64 x] 3)) = .ok v' w' ∧ Qs B w' v' (q ++ [x]) ∧
      (w.alloc (.cells #[.int .i64 x] 3)).grownBy w' v.ownBlock ∧ ∀ k, v'.ownBlock = some k → v.ownBlock = some k ∨ w.heap.size ≤ k := by
  obtain ⟨i, hi, hz, hs, hby⟩ := info3
  have hnew : ∀ j u, [Value.int .i64 x][j]? = some u → (w.alloc (.cells #[.int .i64 x] 3)).cell? ((⟨w.heap.size, 0, none⟩ : Addr).add j) = some u := fun j u hu => by
    rw [add_plain]
    simp only [World.cell?, heap_alloc_at, Nat.zero_add]
    simpa using hu
  have hone : ∀ u ∈ [Value.int .i64 x], u.oneCell' = true := fun u hu => by simp at hu; subst hu; rfl
  have hbytes : (q.length + 1) * i.bytes ≤ 140737488355328 := by rw [hby]; omega
  have hml : (17 : Nat) ≤ maxLen := by decide
  rcases h with ⟨rfl, rfl⟩ | ⟨g, o, c, rfl, hgB, hrow⟩
  · obtain ⟨v', w', hrun, h1, h2, _, h4⟩ := run_append_own_at (P := Try.prog) (w.alloc (.cells #[.int .i64 x] 3)) B 49 49 3 i _ 1 i.bytes Try.underlying49 hi hz hs rfl rfl (by decide) (.slice none 0 0) 0 [] (World.ownsRow_nil _ _ _ _) ⟨w.heap.size, 0, none⟩ 1 1 [.int .i64 x] rfl hnew hone (by unfold maxLen; omega) (by simpa using hbytes) (by simp; omega)
    refine ⟨v', w', hrun, qs_of_row (by simpa [iv] using h1), h2, fun k hk => ?_⟩
    rcases h4 with h4 | h4
    · rw [h4] at hk; cases hk
    · rw [h4] at hk
      cases hk
      right; simp
  · have hgl := hrow.lt
    have hrow1 : Row (w.alloc (.cells #[.int .i64 x] 3)) g o c q := hrow.keep (heap_alloc_past w _ hgl)
    obtain ⟨cur, r1, r2, r3, r4, r5⟩ := hrow1
    by_cases hroom : q.length + 1 ≤ c
    · have hrun := run_append_room_cells (P := Try.prog) (w.alloc (.cells #[.int .i64 x] 3)) 49 49 3 i Try.underlying49 hi g o q.length c ⟨w.heap.size, 0, none⟩ 1 1 [.int .i64 x] (by rw [hs]; rfl) hnew hone hroom
        (fun j hj => by rw [hs]; simp at hj; simp [World.cell?, r1]; omega) (fun j hj => by simp [World.frozen?, r1])
      rw [hs, Nat.mul_one] at hrun
      have e1 : (w.alloc (.cells #[.int .i64 x] 3)).setCells g (o + q.length) [.int .i64 x] = (w.alloc (.cells #[.int .i64 x] 3)).setCell ⟨g, o + q.length, none⟩ (.int .i64 x) := rfl
      rw [e1, setCell_eq_setRow _ g (o + q.length) cur 3 (0, 0) (.int .i64 x) r1] at hrun
      have hh := setRow_heap (w.alloc (.cells #[.int .i64 x] 3)) g cur (cur.setIfInBounds (o + q.length) (.int .i64 x)) 3 _ r1
      refine ⟨_, _, hrun, .inr ⟨g, o, c, by simp, hgB, _, hh, by simpa using r2, by simpa using hroom, r4, fun j hj => ?_⟩, ⟨rfl, rfl, rfl, by simp [World.setRow], fun k hk hne => setRow_other _ g k _ (fun e => hne (by rw [e]; rfl))⟩, fun k hk => .inl hk⟩
      simp only [List.length_append, List.length_singleton] at hj
      rw [Array.getElem?_setIfInBounds]
      by_cases hjl : j < q.length
      · rw [if_neg (by omega), r5 j hjl]
        simp [List.getElem?_append_left hjl]
      · obtain rfl : j = q.length := by omega
        rw [if_pos rfl, if_pos (by omega)]
        simp
    · have hlen : (iv q).length = q.length * 1 := by simp [iv]
      obtain ⟨v', w', hrun, h1, h2⟩ := run_append_arg_grows (P := Try.prog) (w.alloc (.cells #[.int .i64 x] 3)) 49 49 3 i _ 1 i.bytes Try.underlying49 hi hz hs rfl rfl (by decide) ⟨g, o, none⟩ q.length c (iv q) hlen
        (fun j u hu => by
          have hj : j < q.length := by have := (List.getElem?_eq_some_iff.1 hu).1; simpa [iv] using this
          rw [add_plain, cell_at r1, r5 j hj]
          simpa [iv, hj] using hu) ⟨w.heap.size, 0, none⟩ 1 1 [.int .i64 x] rfl hnew (by omega) (by unfold maxLen; omega) hbytes
      have h1' : w'.ownsRow (w.heap.size + 1) 3 1 v' (q ++ [x]).length (iv (q ++ [x])) := by
        simp only [iv, List.length_append, List.map_append]
        simpa [iv] using h1
      have hI := qs_of_row h1'
      refine ⟨v', w', hrun, ?_, ⟨h2.os, h2.tape, h2.output, h2.size, fun k hk _ => h2.block k hk (by simp)⟩, fun k hk => ?_⟩
      · rcases hI with h' | ⟨g', o', c', e, hB', hr'⟩
        · exact .inl h'
        · exact .inr ⟨g', o', c', e, by omega, hr'⟩
      · right
        have := (hI.lt k hk).1
        omega
theorem step_append_run {P : Program} {w : World} {ops : Array Oper} {o : Oper} {a : Act} {K : Act → World → Prop} {Q : Exit → Act → World → Prop} {E : Prop} (hgd : o.guard = none) (s x : Operand) (t : TypeId)
    (ho : o.op = .call { callee := .builtin .append, args := #[s, x], argTypes := #[t, t] }) (vs vx v' : Value) (w' : World) (hs : a.eval s = vs) (hx : a.eval x = vx)
    (hrun : (Builtin.append_ #[t, t] o.type #[vs, vx]).run P w = .ok v' w') (h : K (a.put o.dst v') w') : if Region.wanted o (yielded ops a.tmps) = true then Oper.wp P o a w K Q else E := by
  have hw : Region.wanted o (yielded ops a.tmps) = true := by simp [Region.wanted, hgd]
  rw [if_pos hw]
  unfold Oper.wp
  simp [execOp, ho, resolve, invoke, builtin, hs, hx, hrun, Result.andThen]
  exact h
section
variable {B : Nat} {w w' : World} {r d n : Nat} {V : Nat → Value} {S : Nat → Ln}
theorem rsend_full (h : RW B w r d n V S) {i : Nat} (hi : i < n) (x : Int) (hq : 16 ≤ (S i).q.length) : Calls Try.prog 12 #[.pointer (some ⟨r, 0, none⟩), .int .i64 i, .int .i64 x] w fun e w' => e = .returned (.int .i64 18) ∧ w' = w := by
  have H : Hid (IsHas r i w) := has_ok h hi
  have c := h.cc
  have hl := h.lt
  have hi' : (i : Int) < (n : Int) := by omega
  obtain ⟨c0, c1, c2, c3⟩ := h.ri hi
  have hb := h.dlt
  obtain ⟨a, cp, hv⟩ := (h.qs i hi).form
  rw [hv] at c0
  have hq' : (16 : Int) ≤ ((S i).q.length : Int) := by omega
  clear h hv
  go_enter Try.func12, Try.ntmps12
  go_wp2_with fail
  refine Calls.mono H.out ?_
  rintro e w ⟨rfl, rfl⟩
  go_wp2_with fail
  go_ret
  exact ⟨rfl, rfl⟩
set_option maxHeartbeats 2000000 in
theorem rsend_room (h : RW B w r d n V S) {i : Nat} (hi : i < n) (x : Int) (hq : (S i).q.length < 16) : Calls Try.prog 12 #[.pointer (some ⟨r, 0, none⟩), .int .i64 i, .int .i64 x] w fun e w' => e = .returned (.int .i64 0) ∧ (∃ V', RW B w' r d n V' (upd S i ⟨(S i).q ++ [x], (S i).ck, (S i).tm, (S i).on⟩)) ∧ Trn (RS d n V) w w' := by
  have H : Hid (IsHas r i w) := has_ok h hi
  have c := h.cc
  have hl := h.lt
  have hi' : (i : Int) < (n : Int) := by omega
  obtain ⟨c0, c1, c2, c3⟩ := h.ri hi
  have hb := h.dlt
  have hf := h.f (i * 4)
  have hbd : Below w.heap.size w w.drew := (Below.refl _ _).drew
  obtain ⟨v1, w1, hrun0, hQ1, hg1, hown⟩ := ((h.below hbd).qs i hi).push x (by omega) h.bw
  obtain ⟨a1, cp1, hv1⟩ := hQ1.form
  have hv2 : ∃ m1, v1 = .slice a1 m1 cp1 := ⟨_, hv1⟩
  clear hv1
  obtain ⟨m1, rfl⟩ := hv2
  have ht1 : Trn (fun k => (V i).ownBlock = some k) w w1 := by
    have hs := hg1.size
    rw [World.size_alloc] at hs
    have hs' : w.heap.size + 1 ≤ w1.heap.size := hs
    refine ⟨hg1.os, hg1.tape, hg1.output, by omega, fun k hk hn => ?_⟩
    rw [hg1.block k (by rw [World.size_alloc]; show k < w.heap.size + 1; omega) (fun e => hn e.symm)]
    exact heap_alloc_past w.drew _ hk
  have hZ := h.setv hi (.slice a1 m1 cp1) _ (by simp; omega) hQ1 hown ht1
  have HZ : Hid (RW B (w1.setCell ⟨d, i * 4, none⟩ (.slice a1 m1 cp1)) r d n (updV V i (.slice a1 m1 cp1)) (upd S i ⟨(S i).q ++ [x], (S i).ck, (S i).tm, (S i).on⟩) ∧ Trn (RS d n V) w (w1.setCell ⟨d, i * 4, none⟩ (.slice a1 m1 cp1))) := hZ
  have hrun : (Builtin.append_ #[49, 49] 49 #[V i, .slice (some ⟨w.heap.size, 0, none⟩) 1 1]).run Try.prog (w.alloc (.cells #[.int .i64 x] 3)).drew = .ok (.slice a1 m1 cp1) w1 := hrun0
  have hno : ¬ (V i).ownBlock = some d := fun e => (h.one hi e).1 rfl
  have hnr : ¬ (V i).ownBlock = some r := fun e => (h.one hi e).2 rfl
  have e1 : w1.cell? ⟨r, 0, none⟩ = some (.slice (some ⟨d, 0, none⟩) n n) := by simp only [World.cell?, ht1.block r hl hnr, h.ob]; rfl
  obtain ⟨cur, r1, r2, r3⟩ := h.rows
  have e2 : w1.cell? ⟨d, i * 4, none⟩ = some (V i) := by rw [cell_at ((ht1.block d hb hno).trans r1)]; exact (r3 i hi).1
  have e3 : w1.frozen? ⟨d, i * 4, none⟩ = false := by simp [World.frozen?, (ht1.block d hb hno).trans r1]
  obtain ⟨a, cp, hv⟩ := (h.qs i hi).form
  have hq' : ¬ ((16 : Int) ≤ ((S i).q.length : Int)) := by omega
  rw [hv] at c0 hrun e2
  have hd1 : d < w1.heap.size := by have := ht1.size; omega
  have hr1 : r < w1.heap.size := by have := ht1.size; omega
  clear h hv hZ hrun0 hQ1 hg1 hown ht1 hno hnr r1 r2 r3 hbd
  go_enter Try.func12, Try.ntmps12
  go_wp2_with fail
  refine Calls.mono H.out ?_
  rintro e w ⟨rfl, rfl⟩
  go_wp2_with fail
  go_region_law ((refine step_append_run (by rfl) _ _ 49 (by rfl) _ _ (.slice a1 m1 cp1) w1 (by rfl) (by rfl) hrun ?_))
  all_goals
    go_wp2_with fail
    go_ret
    exact ⟨rfl, ⟨_, HZ.out.1⟩, HZ.out.2⟩
end
end Go.Proofs.Ytdmegoglcnggoaa
