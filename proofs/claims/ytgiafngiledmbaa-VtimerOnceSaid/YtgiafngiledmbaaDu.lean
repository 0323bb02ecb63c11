/-
  The program's Due: whose timers are due, in whatever order they come, sorted; they are not set any more.
-/
import Derived.Test.YtgiafngiledmbaaNx
import Derived.Test.YtgiafngiledmbaaShelf
import Derived.Maps.AppendAt
namespace Go.Proofs.Ytgiafngiledmbaa
open Go.RowKit Go.Maps Go.Sort
set_option linter.unusedVariables false
set_option maxRecDepth 100000

theorem info3 : ∃ i, Try.prog.info? 3 = some i ∧ i.zero = some (.int .i64 0) ∧ i.size = 1 ∧ i.bytes = 8 := by
  have h : (Try.prog.info? 3).map (fun i => (i.zero, i.size, i.bytes)) = some (some (.int .i64 0), 1, 8) := by kernel_rfl
  obtain ⟨i, hi, hb⟩ := Option.map_eq_some_iff.1 h
  simp only [Prod.mk.injEq] at hb
  exact ⟨i, hi, hb.1, hb.2.1, hb.2.2⟩
theorem add_plain (b o j : Nat) : (⟨b, o, none⟩ : Addr).add j = ⟨b, o + j, none⟩ := by unfold Addr.add; split <;> simp_all
def nv (xs : List Int) : List Value := xs.map (fun k : Int => Value.int .i64 k)
/-- a row of numbers that is the call's own -/
def LR (base : Nat) (w : World) (v : Value) (xs : List Int) : Prop := w.ownsRow base 3 1 v xs.length (nv xs)
section
variable {base : Nat} {w w' : World} {v : Value} {xs : List Int}
theorem LR.push (h : LR base w v xs) (x : Int) (hl : xs.length ≤ 65536) (hB : base ≤ w.heap.size) :
    ∃ v' w', (Builtin.append_ #[46, 46] 46 #[v, .slice (some ⟨w.heap.size, 0, none⟩) 1 1]).run Try.prog (w.alloc (.cells #[.int .i64 x] 3)) = .ok v' w' ∧ LR base w' v' (xs ++ [x]) ∧ w.grownBy w' v.ownBlock ∧ w.heap.size ≤ w'.heap.size := by
  obtain ⟨i, hi, hz, hs, hby⟩ := info3
  have hnew : ∀ j u, [Value.int .i64 x][j]? = some u → (w.alloc (.cells #[.int .i64 x] 3)).cell? ((⟨w.heap.size, 0, none⟩ : Addr).add j) = some u := fun j u hu => by
    rw [add_plain]
    simp only [World.cell?, heap_alloc_at, Nat.zero_add]
    simpa using hu
  have hone : ∀ u ∈ [Value.int .i64 x], u.oneCell' = true := fun u hu => by simp at hu; subst hu; rfl
  have ha : w.grownBy (w.alloc (.cells #[.int .i64 x] 3)) v.ownBlock := World.grownBy_alloc w _ _
  have h0 : (w.alloc (.cells #[.int .i64 x] 3)).ownsRow base 3 1 v xs.length (nv xs) := World.ownsRow.alloc h _
  obtain ⟨v', w', hrun, h1, h2, _, h4⟩ := run_append_own_at (P := Try.prog) (w.alloc (.cells #[.int .i64 x] 3)) base 46 46 3 i _ 1 i.bytes Try.underlying46 hi hz hs rfl rfl (by decide) v xs.length (nv xs) h0 ⟨w.heap.size, 0, none⟩ 1 1 [.int .i64 x] rfl hnew hone (by unfold maxLen; omega) (by rw [hby]; omega) (by simp; omega)
  refine ⟨v', w', hrun, ?_, ?_, ?_⟩
  · unfold LR
    simpa [nv] using h1
  · exact ⟨h2.os.trans ha.os, h2.tape.trans ha.tape, h2.output.trans ha.output, Nat.le_trans ha.size h2.size, fun k hk hr => (h2.block k (Nat.lt_of_lt_of_le hk ha.size) hr).trans (ha.block k hk hr)⟩
  · have := ha.size
    have := h2.size
    omega
theorem LR.form (h : LR base w v xs) : ∃ ad c, v = .slice ad xs.length c := by
  obtain ⟨_, ⟨rfl, h0⟩ | ⟨g, c, cur, rfl, _⟩⟩ := h
  · exact ⟨none, 0, by rw [h0]⟩
  · exact ⟨_, c, rfl⟩
theorem LR.own (h : LR base w v xs) : ∀ k, v.ownBlock = some k → base ≤ k ∧ k < w.heap.size := fun k hk => by
  obtain ⟨_, ⟨rfl, h0⟩ | ⟨g, c, cur, rfl, hb, h2, _⟩⟩ := h
  · cases hk
  · simp [Value.ownBlock] at hk
    subst hk
    exact ⟨hb, lt_of_heap h2⟩
theorem LR.keep (h : LR base w v xs) (hk : ∀ k, v.ownBlock = some k → w'.heap[k]? = w.heap[k]?) : LR base w' v xs := by
  obtain ⟨h1, ⟨rfl, h0⟩ | ⟨g, c, cur, rfl, hb, h2, h3⟩⟩ := h
  · exact ⟨h1, .inl ⟨rfl, h0⟩⟩
  · exact ⟨h1, .inr ⟨g, c, cur, rfl, hb, (hk g rfl).trans h2, h3⟩⟩
theorem LR.below (h : LR base w v xs) (hk : Below w.heap.size w w') : LR base w' v xs := h.keep fun k hv => hk.block k (h.own k hv).2
theorem LR.c (h : LR base w v xs) {i : Nat} (hi : i < xs.length) : ∃ g c, v = .slice (some ⟨g, 0, none⟩) xs.length c ∧ base ≤ g ∧ g < w.heap.size ∧ w.cell? ⟨g, i, none⟩ = some (.int .i64 (xs.getD i 0)) := by
  obtain ⟨h1, ⟨rfl, h0⟩ | ⟨g, c, cur, rfl, hb, h2, h3, h4, h5, h6⟩⟩ := h
  · omega
  · refine ⟨g, c, rfl, hb, lt_of_heap h2, ?_⟩
    rw [cell_at h2]
    have e : (cur.toList.take (xs.length * 1))[i]? = (nv xs)[i]? := by rw [h6]
    rw [List.getElem?_take_of_lt (by omega)] at e
    rw [← Array.getElem?_toList, e]
    simp [nv, hi]
end
/-- a row of numbers, to be read -/
def Li (base : Nat) (w : World) (v : Value) (xs : List Int) : Prop := ∃ ad c, v = .slice ad xs.length c ∧ ∀ i, i < xs.length → ∃ g, ad = some ⟨g, 0, none⟩ ∧ base ≤ g ∧ g < w.heap.size ∧ w.cell? ⟨g, i, none⟩ = some (.int .i64 (xs.getD i 0))
theorem Li.below {base : Nat} {w w' : World} {v : Value} {xs : List Int} (h : Li base w v xs) (hk : Below w.heap.size w w') : Li base w' v xs := by
  obtain ⟨ad, c, rfl, h⟩ := h
  refine ⟨ad, c, rfl, fun i hi => ?_⟩
  obtain ⟨g, h1, h2, h3, h4⟩ := h i hi
  exact ⟨g, h1, h2, Nat.lt_of_lt_of_le h3 hk.size, (World.cell?_of_block (hk.block g h3)).trans h4⟩
theorem LR.li {base : Nat} {w : World} {v : Value} {xs : List Int} (h : LR base w v xs) : Li base w v xs := by
  obtain ⟨ad, c, rfl⟩ := h.form
  refine ⟨ad, c, rfl, fun i hi => ?_⟩
  obtain ⟨g, c', e, h1, h2, h3⟩ := h.c hi
  cases e
  exact ⟨g, rfl, h1, h2, h3⟩
theorem grown_put {w : World} {X : Nat} (d : Array Int) (q : Nat) (os : Array Obj) : w.grownBy (grow (putRow (Value.int .i64) (Sort.ahead w q) X 0 d) os) (some X) := by
  refine ⟨rfl, rfl, rfl, by simp [Sort.ahead], fun k hk hne => ?_⟩
  rw [heap_grow_old _ _ (by simpa [Sort.ahead] using hk)]
  show (w.heap.modify X _)[k]? = w.heap[k]?
  rw [Array.getElem?_modify]
  rw [if_neg (fun e => hne (by rw [e]))]
/-- the library's sort -/
theorem sort_lr {base : Nat} {w : World} {v : Value} {xs : List Int} (h : LR base w v xs) (hl : xs.length ≤ 100000) :
    Calls Try.prog 31 #[v] w fun e w' => e = .returned (.tuple #[]) ∧ Li base w' v (xs.mergeSort fun x y => decide (x ≤ y)) ∧ w.grownBy w' v.ownBlock := by
  have hml : (xs.mergeSort fun x y => decide (x ≤ y)).length = xs.length := List.length_mergeSort _
  by_cases h0 : xs.length = 0
  · obtain ⟨ad, c, rfl⟩ := h.form
    rw [h0]
    refine (Try.slices_Sort_int_none ad c w).mono ?_
    rintro e w' ⟨rfl, rfl⟩
    exact ⟨rfl, ⟨ad, c, by rw [hml, h0], fun i hi => by omega⟩, grown_of_below (Below.refl _ _)⟩
  · obtain ⟨g, c, rfl, hb, hg, _⟩ := h.c (i := 0) (by omega)
    have hH : Holds (Value.int .i64) w g 0 xs.toArray := by
      obtain ⟨h1, ⟨e, h0⟩ | ⟨g', c', cur, e, hb, h2, h3, h4, h5, h6⟩⟩ := h
      · cases e
      · cases e
        intro i hi
        have hi' : i < xs.length := by simpa using hi
        refine ⟨?_, ?_⟩
        · rw [Nat.zero_add, cell_at h2]
          have e : (cur.toList.take (xs.length * 1))[i]? = (nv xs)[i]? := by rw [h6]
          rw [List.getElem?_take_of_lt (by omega)] at e
          rw [← Array.getElem?_toList, e]
          simp [nv, hi']
        · exact fz_at h2 _
    refine (Try.slices_Sort_int g 0 c xs w hH hg (by omega)).mono ?_
    rintro e w' ⟨rfl, n, os, rfl⟩
    refine ⟨rfl, ⟨_, c, by rw [hml], fun i hi => ?_⟩, grown_put _ _ _⟩
    have hh : Holds (Value.int .i64) (grow (putRow (Value.int .i64) (Sort.ahead w n) g 0 (xs.mergeSort fun x y => decide (x ≤ y)).toArray) os) g 0 (xs.mergeSort fun x y => decide (x ≤ y)).toArray := holds_grow _ _ _ _ _ _ (by simpa [Sort.ahead] using hg) (holds_putRow _ (Sort.ahead w n) _ _ xs.toArray (xs.mergeSort fun x y => decide (x ≤ y)).toArray hH (by simp [hml]))
    refine ⟨g, rfl, hb, Nat.lt_of_lt_of_le hg (grown_put (w := w) (X := g) _ n os).size, ?_⟩
    have := (hh i (by simpa using hi)).1
    rw [Nat.zero_add] at this
    rw [this]
    simp [List.getD]

/-- is this one due -/
def dueB (L : List Tm) (c k : Int) : Bool := match fnd L k with
  | none => false
  | some x => isd c x
/-- the timers' map on the way -/
def DM (L : List Tm) (c : Int) (left : Int → Bool) (k : Int) : Option Value := if left k = false ∧ dueB L c k = true then none else TM L k
/-- what stands in a round: lm: who has been taken; left: who is to come -/
structure DR (W wr : World) (t ms mt : Nat) (L : List Tm) (c : Int) (lm left : Int → Bool) (cnt : Nat) (v : Value) (o : List Int) : Prop where
  ob : wr.heap[t]? = some (.cells #[.map (some ms), .map (some mt)] 41 (0, 0))
  sm : MapIs wr ms L.length (SM L)
  rg : Rg wr mt W.heap.size (DM L c lm) left cnt
  lr : LR (W.heap.size + 1) wr v o
  sz : W.heap.size + 1 ≤ wr.heap.size
  nd : o.Nodup
  me : ∀ k, k ∈ o ↔ KW k ∧ lm k = false ∧ dueB L c k = true
  le : o.length + cnt ≤ 64
  tr : Trn (fun k => k = mt) W wr
section
variable {W wr w' : World} {t ms mt : Nat} {L : List Tm} {c : Int} {lm left : Int → Bool} {cnt : Nat} {v : Value} {o : List Int}
theorem DR.below (h : DR W wr t ms mt L c lm left cnt v o) (hb : Below wr.heap.size wr w') : DR W w' t ms mt L c lm left cnt v o :=
  ⟨(hb.block t (lt_of_heap h.ob)).trans h.ob, h.sm.keep (hb.block ms h.sm.lt), h.rg.keep (grown_of_below (m := none) hb) (by simp) (by simp), h.lr.below hb, Nat.le_trans h.sz hb.size, h.nd, h.me, h.le, h.tr.trans (Trn.of_below (hb.mono (Nat.le_refl _)))⟩
theorem DR.c0 (h : DR W wr t ms mt L c lm left cnt v o) : wr.cell? ⟨t, 0, none⟩ = some (.map (some ms)) := by rw [cell_at h.ob]; rfl
theorem DR.c1 (h : DR W wr t ms mt L c lm left cnt v o) : wr.cell? ⟨t, 1, none⟩ = some (.map (some mt)) := by rw [cell_at h.ob]; rfl
theorem DR.lt (h : DR W wr t ms mt L c lm left cnt v o) : t < wr.heap.size := lt_of_heap h.ob
theorem Rg.congr {w : World} {m r : Nat} {M M' : Int → Option Value} {l l' : Int → Bool} {n : Nat} (h : Rg w m r M l n) (hM : ∀ k, KW k → M k = M' k) (hl : ∀ k, KW k → l k = l' k) : Rg w m r M' l' n := by
  obtain ⟨N, D, lf, h1, h2, h3⟩ := h
  exact ⟨N, D, lf, h1, ⟨fun k hk => by rw [← hM k hk]; exact h2.at_ k hk⟩, fun k hk => by rw [← hl k hk]; exact h3 k hk⟩
/-- the next one -/
theorem DR.step (h : DR W wr t ms mt L c lm left cnt v o) (hl : t < W.heap.size ∧ ms < W.heap.size ∧ mt < W.heap.size) {w1 : World} {left' : Int → Bool} {cnt1 : Nat} (hg : wr.grownBy w1 (some W.heap.size)) (hr : Rg w1 mt W.heap.size (DM L c lm) left' cnt1) (hc : cnt1 ≤ cnt) :
    DR W w1 t ms mt L c lm left' cnt1 v o :=
  ⟨(gr_keep hg h.lt (by omega)).trans h.ob, h.sm.keep (gr_keep hg h.sm.lt (by omega)), hr, h.lr.keep (fun j hj => gr_keep hg (h.lr.own j hj).2 (by have := (h.lr.own j hj).1; omega)), Nat.le_trans h.sz hg.size, h.nd, h.me, by have := h.le; omega,
    ⟨hg.os.trans h.tr.os, hg.tape.trans h.tr.tape, hg.output.trans h.tr.output, Nat.le_trans h.tr.size hg.size, fun j hj hm => (gr_keep hg (by have := h.sz; omega) (by omega)).trans (h.tr.block j hj hm)⟩⟩
/-- one that is not due has come -/
theorem DR.pass {k : Int} (h : DR W wr t ms mt L c lm left cnt v o) (hd : dueB L c k = false) : DR W wr t ms mt L c (fun z => lm z && !(z == k)) left cnt v o := by
  have key : ∀ q, dueB L c q = true → (lm q && !(q == k)) = lm q := fun q hq => by
    have : (q == k) = false := by simp; rintro rfl; rw [hd] at hq; cases hq
    rw [this]; simp
  refine ⟨h.ob, h.sm, h.rg.congr (fun q _ => ?_) (fun _ _ => rfl), h.lr, h.sz, h.nd, fun q => ?_, h.le, h.tr⟩
  · unfold DM
    cases hq : dueB L c q with
    | false => simp
    | true =>
      show _ = if (lm q && !(q == k)) = false ∧ true = true then none else TM L q
      rw [key q hq]
  · rw [h.me q]
    cases hq : dueB L c q with
    | false => simp
    | true =>
      show _ ↔ KW q ∧ (lm q && !(q == k)) = false ∧ true = true
      rw [key q hq]
/-- one that is due is taken -/
theorem DR.take {k : Int} (h : DR W wr t ms mt L c lm (fun z => lm z && !(z == k)) cnt v o) (hl : t < W.heap.size ∧ ms < W.heap.size ∧ mt < W.heap.size) (hne : ms ≠ mt) (hnt : mt ≠ t) (hk : KW k) (hlk : lm k = true) (hd : dueB L c k = true) (hc : o.length + cnt < 64) (ty : TypeId) :
    ∃ v' w5 w6 cnt', (Builtin.append_ #[46, 46] 46 #[v, .slice (some ⟨wr.heap.size, 0, none⟩) 1 1]).run Try.prog (wr.alloc (.cells #[.int .i64 k] 3)) = .ok v' w5 ∧ w5.cell? ⟨t, 1, none⟩ = some (.map (some mt)) ∧ t < w5.heap.size ∧
      (Builtin.delete_ #[39, 3] ty #[.map (some mt), .int .i64 k]).run Try.prog w5 = .ok (.tuple #[]) w6 ∧ DR W w6 t ms mt L c (fun z => lm z && !(z == k)) (fun z => lm z && !(z == k)) cnt' v' (o ++ [k]) ∧ cnt' ≤ cnt := by
  obtain ⟨v', w5, hrun, hlr, hg, hsz⟩ := h.lr.push k (by omega) (by have := h.sz; omega)
  have old : ∀ j, j < W.heap.size + 1 → w5.heap[j]? = wr.heap[j]? := fun j hj => hg.block j (by have := h.sz; omega) (fun e => by have := (h.lr.own j e.symm).1; omega)
  have ob5 := (old t (by omega)).trans h.ob
  have hrg5 := h.rg.keep hg (fun e => by have := (h.lr.own mt e.symm).1; omega) (fun e => by have := (h.lr.own _ e.symm).1; omega)
  obtain ⟨w6, cnt', hrun6, hr6, hc6, ht6⟩ := rdrop_run Try.underlying39 hrg5 k hk ty
  have hg6 := ht6.grown
  have hmt5 : mt < w5.heap.size := hrg5.lt.2
  refine ⟨v', w5, w6, cnt', hrun, by rw [cell_at ob5]; rfl, lt_of_heap ob5, hrun6, ?_, hc6⟩
  refine ⟨(gr_keep hg6 (lt_of_heap ob5) hnt.symm).trans ob5, h.sm.keep ((gr_keep hg6 (by have := h.sz; omega) hne).trans (old ms (by omega))), hr6.congr (fun q _ => ?_) (fun q _ => ?_), hlr.keep (fun j hj => gr_keep hg6 (hlr.own j hj).2 (by have := (hlr.own j hj).1; omega)), by have := h.sz; have := hg6.size; omega, ?_, fun q => ?_, by simp; omega,
    ⟨hg6.os.trans (hg.os.trans h.tr.os), hg6.tape.trans (hg.tape.trans h.tr.tape), hg6.output.trans (hg.output.trans h.tr.output), by have := h.tr.size; have := hg6.size; omega, fun j hj hm => (gr_keep hg6 (by have := h.sz; omega) hm).trans ((old j (by omega)).trans (h.tr.block j hj hm))⟩⟩
  · unfold upd DM
    by_cases e : q = k
    · subst e; simp [hd]
    · have : (q == k) = false := by simpa using e
      simp [e, this]
  · cases lm q <;> cases (q == k) <;> rfl
  · refine List.nodup_append.2 ⟨h.nd, by simp, fun a ha b hb => ?_⟩
    simp at hb
    subst hb
    rintro rfl
    have := (h.me a).1 ha
    rw [hlk] at this
    exact absurd this.2.1 (by decide)
  · rw [List.mem_append, h.me q]
    by_cases e : q = k
    · subst e; simp [hd, hk]
    · have : (q == k) = false := by simpa using e
      simp [e, this]
/-- behind the range -/
theorem DR.done (h : DR W wr t ms mt L c lm left cnt v o) (ok : LOk L) (hne : ms ≠ mt) (hl : ∀ k, KW k → lm k = false) : VX wr t ms mt (aft L c) ∧ o.mergeSort (fun x y => decide (x ≤ y)) = dueL L c := by
  obtain ⟨N, hN⟩ := h.rg.map
  have hfk : ∀ k x, fnd L k = some x → KW k := fun k x hx => by rw [← (fnd_mem hx).2]; exact (ok.ok x (fnd_mem hx).1).id
  refine ⟨⟨h.ob, h.sm.congr (by simp [aft]) fun q => (SM_aft L c q).symm, ⟨N, hN.congr rfl fun q => ?_⟩, hne, ok.aft c⟩, sort_due ok c h.nd fun k => ?_⟩
  · rw [TM_eq (aft L c), fnd_aft]
    unfold DM dueB
    cases hx : fnd L q with
    | none => simp [TM_eq, hx]
    | some x =>
      simp only [Option.map_some, Option.bind_some, hl q (hfk q x hx), true_and]
      cases isd c x with
      | true => simp [tmv, off]
      | false => simp [TM_eq, hx]
  · rw [h.me k, mem_dueL ok]
    unfold dueB
    constructor
    · rintro ⟨h1, h2, h3⟩
      cases hx : fnd L k with
      | none => rw [hx] at h3; cases h3
      | some x => rw [hx] at h3; exact ⟨x, rfl, h3⟩
    · rintro ⟨x, hx, h3⟩
      exact ⟨hfk k x hx, hl k (hfk k x hx), by rw [hx]; exact h3⟩
end
end Go.Proofs.Ytgiafngiledmbaa
