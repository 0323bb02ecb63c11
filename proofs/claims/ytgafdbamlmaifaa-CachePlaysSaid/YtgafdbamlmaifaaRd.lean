/-
  The document's cache: what its Put does.
-/
import Derived.Test.YtgafdbamlmaifaaRc
namespace Go.Proofs.Ytgafdbamlmaifaa.R
open Go.RowKit
set_option linter.unusedVariables false
set_option maxRecDepth 20000

theorem wpList_append_run {P : Program} {w : World} {ops : Array Oper} {rest : List Oper} {o : Oper} {a : Act} {Q : Exit → Act → World → Prop} (hgd : o.guard = none) (s x : Operand) (t : TypeId)
    (ho : o.op = .call { callee := .builtin .append, args := #[s, x], argTypes := #[t, t] }) (vs vx v' : Value) (w' : World) (hs : a.eval s = vs) (hx : a.eval x = vx)
    (hrun : (Builtin.append_ #[t, t] o.type #[vs, vx]).run P w = .ok v' w') (h : wpList P ops Q rest (a.put o.dst v') w') : wpList P ops Q (o :: rest) a w :=
  wpList_plain hgd fun _ hK => by
    unfold Oper.wp
    simp [execOp, ho, resolve, invoke, builtin, hs, hx, hrun, Result.andThen]
    exact hK _ _ h

/-- the items turned -/
theorem RC.set {B : Nat} {w : World} {r room : Nat} {v : Value} {is : List It} (h : RC B w r room v is) (v' : Value) :
    (w.setCell ⟨r, 1, none⟩ v').heap[r]? = some (.cells #[.int .i64 room, v'] 43 (0, 0)) ∧ w.grownBy (w.setCell ⟨r, 1, none⟩ v') (some r) := by
  rw [setCell_eq_setRow w r 1 _ 43 (0, 0) v' h.ob]
  exact ⟨setRow_heap w r _ _ 43 _ h.ob, ⟨rfl, rfl, rfl, by simp [World.setRow], fun k hk hne => setRow_other w r k _ (fun e => hne (by rw [e]))⟩⟩

set_option maxHeartbeats 800000 in
theorem put_hit (B r room : Nat) (v : Value) (is : List It) (g k x : Int) (i : Nat) (hi : Hit is g k i) (w : World) (h : RC B w r room v is)
    (C : Calls Try.prog 32 #[.pointer (some ⟨r, 0, none⟩), .int .i64 g, .int .u64 k] w fun e w' => e = .returned (.int .i64 i) ∧ w' = w) :
    Calls Try.prog 11 #[.pointer (some ⟨r, 0, none⟩), .int .i64 g, .int .u64 k, .int .i64 x] w fun e w' => e = .returned (.tuple #[]) ∧ ∃ v', RC B w' r room v' (is.set i ⟨g, k, x⟩) ∧ Turn w w' r v v' := by
  have c1 := h.c1
  have hrl := h.lt
  have hlen := h.len
  have hr2 := h.room2
  obtain ⟨gg, o, c, rfl, hB, hrow⟩ := row_of h hi.1
  have hgl := hrow.lt
  obtain ⟨d0, d1, d2⟩ := hrow.c i hi.1
  have hf := hrow.fz (o * 3 + i * 3 + 2)
  have hi1 : (i : Int) < (is.length : Int) := by have := hi.1; omega
  have hi2 : (0 : Int) ≤ (i : Int) := by omega
  have hgr : gg ≠ r := fun e => h.gr (by rw [← e]; rfl)
  have HF : Hid (RC B (w.setCell ⟨gg, o * 3 + i * 3 + 2, none⟩ (.int .i64 x)) r room (.slice (some ⟨gg, o * 3, none⟩) is.length c) (is.set i ⟨g, k, x⟩) ∧ Turn w (w.setCell ⟨gg, o * 3 + i * 3 + 2, none⟩ (.int .i64 x)) r (.slice (some ⟨gg, o * 3, none⟩) is.length c) (.slice (some ⟨gg, o * 3, none⟩) is.length c)) := by
    obtain ⟨cur, r1, r2, r3, r4, r5⟩ := hrow
    obtain ⟨cur', q1, q2, q3, q4⟩ := U.setCells_heap gg 74 [.int .i64 x] (o * 3 + i * 3 + 2) w cur r1 (by simp; omega)
    have e : w.setCells gg (o * 3 + i * 3 + 2) [.int .i64 x] = w.setCell ⟨gg, o * 3 + i * 3 + 2, none⟩ (.int .i64 x) := rfl
    rw [e] at q1 q4
    refine ⟨⟨(gr_keep q4 hrl (fun e => hgr e.symm)).trans h.ob, .inr ⟨gg, o, c, by simp, hB, cur', q1, by omega, by simpa using r3, r4, fun j hj => ?_⟩, h.rB, h.gr, h.room1, h.room2, by simpa using h.len⟩, ⟨⟨q4.os, q4.tape, q4.output, q4.size, fun k hk hn => gr_keep q4 hk (fun e => hn (.inr (by rw [e]; rfl)))⟩, fun k hk => .inl hk⟩⟩
    have hj' : j < is.length := by simpa using hj
    have hji := r5 j hj'
    rw [q3, q3, q3]
    simp only [List.length_singleton]
    by_cases hjl : j = i
    · subst hjl
      rw [if_neg (by omega), if_neg (by omega), if_pos (by omega), show (o + j) * 3 + 2 - (o * 3 + j * 3 + 2) = 0 by omega]
      obtain ⟨_, e1, e2⟩ := hi
      simp only [e1, e2] at hji
      simp [hj', hji]
    · rw [if_neg (by omega), if_neg (by omega), if_neg (by omega)]
      have e2 : (is.set i ⟨g, k, x⟩).getD j i0 = is.getD j i0 := by simp [List.getElem?_set_ne (Ne.symm hjl)]
      simp only [e2]
      exact hji
  clear h hrow hi
  go_enter Try.func11, Try.ntmps11
  go_wp2_with fail
  refine C.mono ?_
  rintro e w1 ⟨rfl, rfl⟩
  go_wp2_with fail
  exact bodyPost_ret (v := .tuple #[]) (by simp [results, Try.results11]) rfl ⟨rfl, _, HF.out⟩

/-- the places behind Put of a new one -/
def putI (room : Nat) (is : List It) (it : It) : List It := if is.length < room then is ++ [it] else (is ++ [it]).drop 1

set_option maxHeartbeats 1600000 in
theorem put_miss (B r room : Nat) (v : Value) (is : List It) (g k x : Int) (w : World) (h : RC B w r room v is) (hBw : B ≤ w.heap.size)
    (C : Calls Try.prog 32 #[.pointer (some ⟨r, 0, none⟩), .int .i64 g, .int .u64 k] w fun e w' => e = .returned (.int .i64 (-1)) ∧ w' = w) :
    Calls Try.prog 11 #[.pointer (some ⟨r, 0, none⟩), .int .i64 g, .int .u64 k, .int .i64 x] w fun e w' => e = .returned (.tuple #[]) ∧ ∃ v', RC B w' r room v' (putI room is (⟨g, k, x⟩ : It)) ∧ Turn w w' r v v' := by
  have c1 := h.c1
  have hrl := h.lt
  have hlen := h.len
  have hr1 := h.room1
  have hr2 := h.room2
  obtain ⟨v1, w1, hrun, hI1, hg1, hown⟩ := h.its.push (⟨g, k, x⟩ : It) (by omega) hBw
  have hsz1 : w.heap.size < w1.heap.size := by have := hg1.size; simp at this; omega
  have old : ∀ j, j < w.heap.size → v.ownBlock ≠ some j → w1.heap[j]? = w.heap[j]? := fun j hj hv => (hg1.block j (by simp; omega) (fun e => hv e.symm)).trans (heap_alloc_past w _ hj)
  have hob1 : w1.heap[r]? = some (.cells #[.int .i64 room, v] 43 (0, 0)) := (old r hrl h.gr).trans h.ob
  have gr1 : v1.ownBlock ≠ some r := fun e => by
    rcases hown r e with h' | h'
    · exact h.gr h'
    · omega
  have o2 : (w1.setCell ⟨r, 1, none⟩ v1).heap[r]? = some (.cells #[.int .i64 room, v1] 43 (0, 0)) ∧ w1.grownBy (w1.setCell ⟨r, 1, none⟩ v1) (some r) := by
    rw [setCell_eq_setRow w1 r 1 _ 43 (0, 0) v1 hob1]
    exact ⟨setRow_heap w1 r _ _ 43 _ hob1, ⟨rfl, rfl, rfl, by simp [World.setRow], fun k hk hne => setRow_other w1 r k _ (fun e => hne (by rw [e]))⟩⟩
  have hI2 : Its B (w1.setCell ⟨r, 1, none⟩ v1) v1 (is ++ [(⟨g, k, x⟩ : It)]) := hI1.keep (fun j hj => gr_keep o2.2 (hI1.lt j hj).2 (fun e => gr1 (by rw [← e]; exact hj)))
  have hT2 : Turn w (w1.setCell ⟨r, 1, none⟩ v1) r v v1 := by
    refine ⟨⟨o2.2.os.trans hg1.os, o2.2.tape.trans hg1.tape, o2.2.output.trans hg1.output, by have := o2.2.size; omega, fun j hj hn => ?_⟩, hown⟩
    exact (gr_keep o2.2 (by omega) (fun e => hn (.inl e))).trans (old j hj (fun e => hn (.inr e)))
  obtain ⟨a1, n1, cc, rfl, hn1⟩ := its_form hI1
  obtain ⟨a0, n0, cc0, rfl, hn0⟩ := its_form h.its
  simp only [List.length_append, List.length_singleton] at hn1
  have x1 : w1.cell? ⟨r, 1, none⟩ = some (.slice a0 n0 cc0) := by simp [World.cell?, hob1]
  have xf : w1.frozen? ⟨r, 1, none⟩ = false := by simp [World.frozen?, hob1]
  have y0 : (w1.setCell ⟨r, 1, none⟩ (.slice a1 n1 cc)).cell? ⟨r, 0, none⟩ = some (.int .i64 room) := by simp [World.cell?, o2.1]
  have y1 : (w1.setCell ⟨r, 1, none⟩ (.slice a1 n1 cc)).cell? ⟨r, 1, none⟩ = some (.slice a1 n1 cc) := by simp [World.cell?, o2.1]
  have yf : (w1.setCell ⟨r, 1, none⟩ (.slice a1 n1 cc)).frozen? ⟨r, 1, none⟩ = false := by simp [World.frozen?, o2.1]
  have yl : r < w1.heap.size := by omega
  unfold ic at hrun
  simp only at hrun
  have hN1 : Hid (n1 = is.length + 1) := hn1
  have hl1 : n1 ≤ 1025 := by omega
  have hl0 : n0 ≤ 1024 := by omega
  by_cases hfull : is.length < room
  · rw [show putI room is (⟨g, k, x⟩ : It) = is ++ [(⟨g, k, x⟩ : It)] by rw [putI, if_pos hfull]]
    have hcond : ¬ ((room : Int) < (n1 : Int)) := by omega
    have HF : Hid (∀ q, RC B ((w1.setCell ⟨r, 1, none⟩ (.slice a1 n1 cc)).drewN q) r room (.slice a1 n1 cc) (is ++ [(⟨g, k, x⟩ : It)]) ∧ Turn w ((w1.setCell ⟨r, 1, none⟩ (.slice a1 n1 cc)).drewN q) r (.slice a0 n0 cc0) (.slice a1 n1 cc)) := fun q =>
      ⟨⟨o2.1, hI2.keep (fun _ _ => rfl), h.rB, gr1, h.room1, h.room2, by simp; omega⟩, ⟨⟨hT2.trn.os, hT2.trn.tape, hT2.trn.output, hT2.trn.size, hT2.trn.block⟩, hT2.own⟩⟩
    clear h hI1 hg1 hown old hob1 o2 hI2 hT2 hn1 hn0
    go_enter Try.func11, Try.ntmps11
    go_wp2_with fail
    refine C.mono ?_
    rintro e w0 ⟨rfl, rfl⟩
    go_wp2_with (at_builtin; refine wpList_append_run rfl _ _ 41 rfl _ _ (.slice a1 n1 cc) w1 rfl rfl hrun ?_)
    go_quiet (fail)
    go_wp2_with fail
    exact bodyPost_end (v := .tuple #[]) (by simp [results, Try.results11]) rfl ⟨rfl, _, HF.out _⟩
  · rw [show putI room is (⟨g, k, x⟩ : It) = (is ++ [(⟨g, k, x⟩ : It)]).drop 1 by rw [putI, if_neg hfull]]
    have hcond : (room : Int) < (n1 : Int) := by omega
    have hne : ∃ gg o, a1 = some ⟨gg, o * 3, none⟩ ∧ B ≤ gg ∧ Row (w1.setCell ⟨r, 1, none⟩ (.slice a1 n1 cc)) gg o cc n1 (fun i => (is ++ [(⟨g, k, x⟩ : It)]).getD i i0) := by
      rcases hI2 with ⟨_, e⟩ | ⟨gg, o, c', e, hB', hr'⟩
      · simp at e
      · cases e
        exact ⟨gg, o, rfl, hB', hr'⟩
    obtain ⟨gg, o, rfl, hgB, hrow⟩ := hne
    have hcap := hrow.cap
    have hcc : ¬ cc = 1 := by omega
    have hn1' : (1 : Int) ≤ (n1 : Int) := by omega
    have HF : Hid (∀ q, RC B (((w1.setCell ⟨r, 1, none⟩ (.slice (some ⟨gg, o * 3, none⟩) n1 cc)).drewN q).setCell ⟨r, 1, none⟩ (.slice (some ⟨gg, o * 3 + 3, none⟩) (n1 - 1) (cc - 1))) r room (.slice (some ⟨gg, o * 3 + 3, none⟩) (n1 - 1) (cc - 1)) ((is ++ [(⟨g, k, x⟩ : It)]).drop 1) ∧
        Turn w (((w1.setCell ⟨r, 1, none⟩ (.slice (some ⟨gg, o * 3, none⟩) n1 cc)).drewN q).setCell ⟨r, 1, none⟩ (.slice (some ⟨gg, o * 3 + 3, none⟩) (n1 - 1) (cc - 1))) r (.slice a0 n0 cc0) (.slice (some ⟨gg, o * 3 + 3, none⟩) (n1 - 1) (cc - 1))) := fun q => by
      have hob2 : ((w1.setCell ⟨r, 1, none⟩ (.slice (some ⟨gg, o * 3, none⟩) n1 cc)).drewN q).heap[r]? = some (.cells #[.int .i64 room, .slice (some ⟨gg, o * 3, none⟩) n1 cc] 43 (0, 0)) := o2.1
      have o3 : (((w1.setCell ⟨r, 1, none⟩ (.slice (some ⟨gg, o * 3, none⟩) n1 cc)).drewN q).setCell ⟨r, 1, none⟩ (.slice (some ⟨gg, o * 3 + 3, none⟩) (n1 - 1) (cc - 1))).heap[r]? = some (.cells #[.int .i64 room, .slice (some ⟨gg, o * 3 + 3, none⟩) (n1 - 1) (cc - 1)] 43 (0, 0)) ∧
          ((w1.setCell ⟨r, 1, none⟩ (.slice (some ⟨gg, o * 3, none⟩) n1 cc)).drewN q).grownBy (((w1.setCell ⟨r, 1, none⟩ (.slice (some ⟨gg, o * 3, none⟩) n1 cc)).drewN q).setCell ⟨r, 1, none⟩ (.slice (some ⟨gg, o * 3 + 3, none⟩) (n1 - 1) (cc - 1))) (some r) := by
        rw [setCell_eq_setRow ((w1.setCell ⟨r, 1, none⟩ (.slice (some ⟨gg, o * 3, none⟩) n1 cc)).drewN q) r 1 _ 43 (0, 0) _ hob2]
        exact ⟨setRow_heap _ r _ _ 43 _ hob2, ⟨rfl, rfl, rfl, by simp [World.setRow], fun k hk hne => setRow_other _ r k _ (fun e => hne (by rw [e]))⟩⟩
      have hgr : gg ≠ r := fun e => gr1 (by rw [← e]; rfl)
      have hrow3 := (hrow.keep (w' := (w1.setCell ⟨r, 1, none⟩ (.slice (some ⟨gg, o * 3, none⟩) n1 cc)).drewN q) rfl).keep (gr_keep o3.2 hrow.lt hgr)
      refine ⟨⟨o3.1, .inr ⟨gg, o + 1, cc - 1, ?_, hgB, ?_⟩, h.rB, fun e => gr1 (by cases e; rfl), h.room1, h.room2, by simp; omega⟩, ⟨⟨o3.2.os.trans hT2.trn.os, o3.2.tape.trans hT2.trn.tape, o3.2.output.trans hT2.trn.output, Nat.le_trans hT2.trn.size o3.2.size, fun j hj hn => ?_⟩, fun j hj => hown j (by cases hj; rfl)⟩⟩
      · rw [show (o + 1) * 3 = o * 3 + 3 by omega]
        simp [hn1]
      · obtain ⟨cur, r1, r2, r3, r4, r5⟩ := hrow3
        refine ⟨cur, r1, by omega, by simp; omega, by omega, fun j hj => ?_⟩
        have := r5 (j + 1) (by simp at hj; omega)
        rw [show o + (j + 1) = o + 1 + j by omega] at this
        simpa [Nat.add_comm] using this
      · exact (gr_keep o3.2 (by have := hT2.trn.size; exact Nat.lt_of_lt_of_le hj this) (fun e => hn (.inl e))).trans (hT2.trn.block j hj hn)
    clear h hI1 hg1 hown old hob1 o2 hI2 hT2 hrow hn1 hn0
    go_enter Try.func11, Try.ntmps11
    go_wp2_with fail
    refine C.mono ?_
    rintro e w0 ⟨rfl, rfl⟩
    go_wp2_with (at_builtin; refine wpList_append_run rfl _ _ 41 rfl _ _ (.slice (some ⟨gg, o * 3, none⟩) n1 cc) w1 rfl rfl hrun ?_)
    go_quiet (fail)
    go_wp2_with fail
    exact bodyPost_end (v := .tuple #[]) (by simp [results, Try.results11]) rfl ⟨rfl, _, HF.out _⟩
end Go.Proofs.Ytgafdbamlmaifaa.R
