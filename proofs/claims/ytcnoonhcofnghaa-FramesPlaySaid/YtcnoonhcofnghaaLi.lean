/-
  What List tells.
-/
import Derived.Test.YtcnoonhcofnghaaOw
import Derived.Maps.AppendAt
import Derived.Laws.MakeOwn
namespace Go.Proofs.Ytcnoonhcofnghaa
open Go.RowKit Go.ChangeMaps
set_option linter.unusedVariables false
set_option maxRecDepth 20000

theorem info3 : ∃ i, Try.prog.info? 3 = some i ∧ i.zero = some (.int .i64 0) ∧ i.size = 1 ∧ i.bytes = 8 := by
  have h : (Try.prog.info? 3).map (fun i => (i.zero, i.size, i.bytes)) = some (some (.int .i64 0), 1, 8) := by kernel_rfl
  obtain ⟨i, hi, hb⟩ := Option.map_eq_some_iff.1 h
  simp only [Prod.mk.injEq] at hb
  exact ⟨i, hi, hb.1, hb.2.1, hb.2.2⟩
theorem add_plain (b o j : Nat) : (⟨b, o, none⟩ : Addr).add j = ⟨b, o + j, none⟩ := by unfold Addr.add; split <;> simp_all
/-- the frames below j that stand so, rising -/
def lsL (cl : Nat → Nat) (a j : Nat) : List Nat := (List.range j).filter (fun i => decide (cl i = a))
theorem lsL_succ (cl : Nat → Nat) (a j : Nat) : lsL cl a (j + 1) = lsL cl a j ++ if cl j = a then [j] else [] := by
  by_cases h : cl j = a <;> simp [lsL, List.range_succ, List.filter_append, h]
theorem lsL_length (cl : Nat → Nat) (a j : Nat) : (lsL cl a j).length = cn cl j a := by
  simp [lsL, cn, List.countP_eq_length_filter]
theorem lsL_mem {cl : Nat → Nat} {a j k : Nat} : k ∈ lsL cl a j ↔ k < j ∧ cl k = a := by simp [lsL]
theorem lsL_nodup (cl : Nat → Nat) (a j : Nat) : (lsL cl a j).Nodup := List.Nodup.sublist List.filter_sublist List.nodup_range
def nv (xs : List Nat) : List Value := xs.map (fun k : Nat => Value.int .i64 (k : Int))
/-- a row of numbers that is the call's own -/
def LR (base : Nat) (w : World) (v : Value) (xs : List Nat) : Prop := w.ownsRow base 3 1 v xs.length (nv xs)
theorem LR.push {base : Nat} {w : World} {v : Value} {xs : List Nat} (h : LR base w v xs) (x : Nat) (hl : xs.length ≤ 65536) (hB : base ≤ w.heap.size) :
    ∃ v' w', (Builtin.append_ #[45, 45] 45 #[v, .slice (some ⟨w.heap.size, 0, none⟩) 1 1]).run Try.prog (w.alloc (.cells #[.int .i64 x] 3)) = .ok v' w' ∧ LR base w' v' (xs ++ [x]) ∧ w.grownBy w' v.ownBlock ∧ w.heap.size ≤ w'.heap.size := by
  obtain ⟨i, hi, hz, hs, hby⟩ := info3
  have hnew : ∀ j u, [Value.int .i64 (x : Int)][j]? = some u → (w.alloc (.cells #[.int .i64 x] 3)).cell? ((⟨w.heap.size, 0, none⟩ : Addr).add j) = some u := fun j u hu => by
    rw [add_plain]
    simp only [World.cell?, heap_alloc_at, Nat.zero_add]
    simpa using hu
  have hone : ∀ u ∈ [Value.int .i64 (x : Int)], u.oneCell' = true := fun u hu => by simp at hu; subst hu; rfl
  have ha : w.grownBy (w.alloc (.cells #[.int .i64 x] 3)) v.ownBlock := World.grownBy_alloc w _ _
  have h0 : (w.alloc (.cells #[.int .i64 x] 3)).ownsRow base 3 1 v xs.length (nv xs) := World.ownsRow.alloc h _
  obtain ⟨v', w', hrun, h1, h2, _, h4⟩ := run_append_own_at (P := Try.prog) (w.alloc (.cells #[.int .i64 x] 3)) base 45 45 3 i _ 1 i.bytes Try.underlying45 hi hz hs rfl rfl (by decide) v xs.length (nv xs) h0 ⟨w.heap.size, 0, none⟩ 1 1 [.int .i64 x] rfl hnew hone (by unfold maxLen; omega) (by rw [hby]; omega) (by simp; omega)
  refine ⟨v', w', hrun, ?_, ?_, ?_⟩
  · unfold LR
    simpa [nv] using h1
  · exact ⟨h2.os.trans ha.os, h2.tape.trans ha.tape, h2.output.trans ha.output, Nat.le_trans ha.size h2.size, fun k hk hr => (h2.block k (Nat.lt_of_lt_of_le hk ha.size) hr).trans (ha.block k hk hr)⟩
  · have := ha.size
    have := h2.size
    omega
theorem LR.form {base : Nat} {w : World} {v : Value} {xs : List Nat} (h : LR base w v xs) : ∃ ad c, v = .slice ad xs.length c := by
  obtain ⟨_, ⟨rfl, h0⟩ | ⟨g, c, cur, rfl, _⟩⟩ := h
  · exact ⟨none, 0, by rw [h0]⟩
  · exact ⟨_, c, rfl⟩
theorem LR.own {base : Nat} {w : World} {v : Value} {xs : List Nat} (h : LR base w v xs) : ∀ k, v.ownBlock = some k → base ≤ k := fun k hk => by
  obtain ⟨_, ⟨rfl, h0⟩ | ⟨g, c, cur, rfl, hb, _⟩⟩ := h
  · cases hk
  · simp [Value.ownBlock] at hk
    omega
theorem LR.below {base : Nat} {w w' : World} {v : Value} {xs : List Nat} (h : LR base w v xs) (hk : Below w.heap.size w w') : LR base w' v xs := by
  obtain ⟨h1, ⟨rfl, h0⟩ | ⟨g, c, cur, rfl, hb, h2, h3⟩⟩ := h
  · exact ⟨h1, .inl ⟨rfl, h0⟩⟩
  · exact ⟨h1, .inr ⟨g, c, cur, rfl, hb, (hk.block g (lt_of_heap h2)).trans h2, h3⟩⟩
/-- its cells -/
theorem LR.c {base : Nat} {w : World} {v : Value} {xs : List Nat} (h : LR base w v xs) {i : Nat} (hi : i < xs.length) : ∃ g c, v = .slice (some ⟨g, 0, none⟩) xs.length c ∧ base ≤ g ∧ g < w.heap.size ∧ w.cell? ⟨g, i, none⟩ = some (.int .i64 (xs.getD i 0 : Nat)) := by
  obtain ⟨h1, ⟨rfl, h0⟩ | ⟨g, c, cur, rfl, hb, h2, h3, h4, h5, h6⟩⟩ := h
  · omega
  · refine ⟨g, c, rfl, hb, lt_of_heap h2, ?_⟩
    rw [cell_at h2]
    have e : (cur.toList.take (xs.length * 1))[i]? = (nv xs)[i]? := by rw [h6]
    rw [List.getElem?_take_of_lt (by omega)] at e
    rw [← Array.getElem?_toList, e]
    simp [nv, hi]
theorem wpList_append_run {P : Program} {w : World} {ops : Array Oper} {rest : List Oper} {o : Oper} {a : Act} {Q : Exit → Act → World → Prop} (hgd : o.guard = none) (s x : Operand) (t : TypeId)
    (ho : o.op = .call { callee := .builtin .append, args := #[s, x], argTypes := #[t, t] }) (vs vx v' : Value) (w' : World) (hs : a.eval s = vs) (hx : a.eval x = vx)
    (hrun : (Builtin.append_ #[t, t] o.type #[vs, vx]).run P w = .ok v' w') (h : wpList P ops Q rest (a.put o.dst v') w') : wpList P ops Q (o :: rest) a w := by
  refine wpList_plain hgd fun K hK => ?_
  unfold Oper.wp
  simp [execOp, ho, resolve, invoke, builtin, hs, hx, hrun, Result.andThen]
  exact hK _ _ h
section
variable {B : Nat} {w w' : World} {D : Nat} {S : Fs}
set_option maxHeartbeats 800000 in
theorem list_yes (h : FX B w D S) (a : Nat) (ha : a ≤ 16) : Calls Try.prog 15 #[.pointer (some ⟨D, 0, none⟩), .int .i64 a] w fun e w' => ∃ v, e = .returned v ∧ LR w.heap.size w' v (lsL S.cl a S.n) ∧ Below w.heap.size w w' := by
  obtain ⟨r, C, s, h⟩ := h
  have hl := h.ob.lt
  have M := made_fr h
  have O := isowner a w
  rw [decide_eq_true (show isO a from ⟨by omega, by omega⟩)] at O
  have c0 := h.ob.c0
  have ca := h.ob.cc (k := a) (by omega)
  have n2 := h.ok.n2
  have ha' : (a : Int) < 18 := by omega
  have hct : S.ct a ≤ 65536 := by have := cn_le S.cl S.n a; unfold Fs.ct; omega
  obtain ⟨i0, hi0, hz, hs, hby⟩ := info3
  obtain ⟨w0, m1, m2, m3⟩ := run_make_own (P := Try.prog) w w.heap.size 45 3 i0 _ 1 Try.underlying45 hi0 hz hs .i64 .i64 (S.ct a) (by rw [hby]; omega) (by unfold maxLen; omega) (Nat.le_refl _)
  have HF : Hid (FR B w D r S C s) := h
  have b0 : Below w.heap.size w w0 := ⟨m3.os, m3.tape, m3.output, m3.size, fun k hk => m3.block k hk (by simp)⟩
  have HM : Hid (LR w.heap.size w0 (.slice (some ⟨w.heap.size, 0, none⟩) 0 (S.ct a)) [] ∧ Below w.heap.size w w0) := ⟨m2, b0⟩
  have c0' := ((bcell b0).1 D 0 hl).trans c0
  have hl0 : D < w0.heap.size := by have := b0.size; omega
  clear h m2 m3 hi0 hz hs hby b0
  go_enter Try.func15, Try.ntmps15
  go_wp2_with fail
  refine M.mono ?_
  rintro e w ⟨rfl, rfl⟩
  go_wp2_with fail
  refine O.mono ?_
  rintro e w ⟨rfl, rfl⟩
  go_wp2_with fail
  go_loopw [5, 27] (fun v i wr => ∃ j : Nat, j ≤ S.n ∧ i = .int .i64 j ∧ Hid (LR w.heap.size wr v (lsL S.cl a j) ∧ Below w.heap.size w wr)) (fun _ i _ => S.n - (intOf i).toNat)
  case atStart => exact ⟨0, by omega, rfl, HM.out⟩
  case round =>
    obtain ⟨j, hj, rfl, HJ⟩ := hrel
    by_cases hjn : j < S.n
    · have hjn' : (j : Int) < S.n := by omega
      have h1 := HF.out.below HJ.out.2
      have cr := h1.row.c hjn
      have hrl := h1.row.lt
      have c1 := h1.ob.c0
      have hl1 := h1.ob.lt
      have lk := h1.look hjn ha
      by_cases h2 : S.cl j = a
      · have hx : lkS S j a = S.ti j := by unfold lkS; rw [if_pos h2]
        rw [hx] at lk
        have ht := ((h1.ok.t j hjn).2 (by omega)).1
        have ht' : (0 : Int) < (S.ti j : Int) := by omega
        obtain ⟨v', w', hrun, p1, p2, p3⟩ := HJ.out.1.push j (by rw [lsL_length]; have := cn_le S.cl j a; omega) HJ.out.2.size
        have HN : Hid (LR w.heap.size w' v' (lsL S.cl a (j + 1)) ∧ Below w.heap.size w w') := by
          rw [lsL_succ, if_pos h2]
          have hb := HJ.out.2
          refine ⟨p1, p2.os.trans hb.os, p2.tape.trans hb.tape, p2.output.trans hb.output, Nat.le_trans hb.size p2.size, fun k hk => (p2.block k (Nat.lt_of_lt_of_le hk hb.size) (fun e => ?_)).trans (hb.block k hk)⟩
          have := HJ.out.1.own k e.symm
          omega
        clear h1 p1 p2 p3 ht
        generalize ((S.ti j : Nat) : Int) = t at *
        go_wp2_with (refine wpList_append_run rfl _ _ 45 rfl _ _ v' w' rfl rfl hrun ?_)
        go_roundw
        case rel => exact ⟨j + 1, by omega, by go_num, HN.out⟩
        case measure => simp [intOf]; omega
      · have hx : lkS S j a = 0 := by unfold lkS; rw [if_neg h2]
        rw [hx] at lk
        have HN : Hid (LR w.heap.size wr u5 (lsL S.cl a (j + 1)) ∧ Below w.heap.size w wr) := by
          rw [lsL_succ, if_neg h2, List.append_nil]
          exact HJ.out
        clear h1
        go_wp2_with fail
        go_roundw
        case rel => exact ⟨j + 1, by omega, by go_num, HN.out⟩
        case measure => simp [intOf]; omega
    · obtain rfl : j = S.n := by omega
      go_wp2_with fail
      go_ret
      exact ⟨_, rfl, HJ.out⟩
theorem list_no (h : FX B w D S) (o : Int) (ho : ¬ isO o) : Calls Try.prog 15 #[.pointer (some ⟨D, 0, none⟩), .int .i64 o] w fun e w' => e = .returned (.slice none 0 0) ∧ w' = w := by
  obtain ⟨r, C, s, h⟩ := h
  have M := made_fr h
  have O := isowner o w
  rw [decide_eq_false ho] at O
  clear h ho
  go_enter Try.func15, Try.ntmps15
  go_wp2_with fail
  refine M.mono ?_
  rintro e w ⟨rfl, rfl⟩
  go_wp2_with fail
  refine O.mono ?_
  rintro e w ⟨rfl, rfl⟩
  go_wp2_with fail
  go_ret
  exact ⟨rfl, rfl⟩
end
end Go.Proofs.Ytcnoonhcofnghaa
