/-
  The document's lines in the heap: what its New, Has and Set do.
-/
import Derived.Test.YtdmegoglcnggoaaTk
import Derived.Maps.AppendAt
namespace Go.Proofs.Ytdmegoglcnggoaa
open Go.RowKit
set_option linter.unusedVariables false
set_option maxRecDepth 20000

/-- block g: from place o on there is room for c numbers; the first are q -/
def Row (w : World) (g o c : Nat) (q : List Int) : Prop :=
  ∃ cur : Array Value, w.heap[g]? = some (.cells cur 3 (0, 0)) ∧ o + c ≤ cur.size ∧ q.length ≤ c ∧ c ≤ maxLen ∧ ∀ i, i < q.length → cur[o + i]? = some (.int .i64 (q.getD i 0))
/-- a slice of numbers -/
def Qs (B : Nat) (w : World) (v : Value) (q : List Int) : Prop :=
  (v = .slice none 0 0 ∧ q = []) ∨ ∃ g o c, v = .slice (some ⟨g, o, none⟩) q.length c ∧ B ≤ g ∧ Row w g o c q
section
variable {B : Nat} {w w' : World} {g o c : Nat} {q : List Int} {v : Value}
theorem Row.lt (h : Row w g o c q) : g < w.heap.size := by
  obtain ⟨cur, h, _⟩ := h
  exact lt_of_heap h
theorem Row.keep (h : Row w g o c q) (hk : w'.heap[g]? = w.heap[g]?) : Row w' g o c q := by
  obtain ⟨cur, h, r⟩ := h
  exact ⟨cur, hk.trans h, r⟩
theorem Row.ce (h : Row w g o c q) (i : Nat) (hi : i < q.length) : w.cell? ⟨g, o + i, none⟩ = some (.int .i64 (q.getD i 0)) := by
  obtain ⟨cur, h, h1, h2, h3, h4⟩ := h
  rw [cell_at h]
  exact h4 i hi
theorem Qs.keep (h : Qs B w v q) (hk : ∀ k, v.ownBlock = some k → w'.heap[k]? = w.heap[k]?) : Qs B w' v q := by
  rcases h with h | ⟨g, o, c, rfl, hB, hr⟩
  · exact .inl h
  · exact .inr ⟨g, o, c, rfl, hB, hr.keep (hk g rfl)⟩
theorem Qs.lt (h : Qs B w v q) (k : Nat) (hk : v.ownBlock = some k) : B ≤ k ∧ k < w.heap.size := by
  rcases h with ⟨rfl, _⟩ | ⟨g, o, c, rfl, hB, hr⟩
  · cases hk
  · cases hk
    exact ⟨hB, hr.lt⟩
theorem Qs.blk (h : Qs B w v q) (k : Nat) (hk : v.ownBlock = some k) : ∃ cur, w.heap[k]? = some (.cells cur 3 (0, 0)) := by
  rcases h with ⟨rfl, _⟩ | ⟨g, o, c, rfl, hB, hr⟩
  · cases hk
  · cases hk
    obtain ⟨cur, h, _⟩ := hr
    exact ⟨cur, h⟩
theorem Qs.form (h : Qs B w v q) : ∃ a c, v = .slice a q.length c := by
  rcases h with ⟨rfl, rfl⟩ | ⟨g, o, c, rfl, _⟩
  · exact ⟨_, _, rfl⟩
  · exact ⟨_, _, rfl⟩
end
/-- the document's lines: block r, block d, the slices V -/
structure RW (B : Nat) (w : World) (r d n : Nat) (V : Nat → Value) (S : Nat → Ln) : Prop where
  ob : w.heap[r]? = some (.cells #[.slice (some ⟨d, 0, none⟩) n n] 54 (0, 0))
  rows : ∃ cur : Array Value, w.heap[d]? = some (.cells cur 51 (0, 0)) ∧ cur.size = n * 4 ∧ ∀ i, i < n → cur[i * 4]? = some (V i) ∧ cur[i * 4 + 1]? = some (.int .u64 (S i).ck) ∧ cur[i * 4 + 2]? = some (.int .u64 (S i).tm) ∧ cur[i * 4 + 3]? = some (.bool (S i).on)
  qs : ∀ i, i < n → Qs B w (V i) (S i).q
  inj : ∀ i j k, i < n → j < n → (V i).ownBlock = some k → (V j).ownBlock = some k → i = j
  n1 : 1 ≤ n
  n8 : n ≤ 8
  rg : ∀ i, i < n → LOk (S i)
  lo : B ≤ r ∧ B ≤ d
/-- the blocks that calls on the document's lines may turn -/
def RS (d n : Nat) (V : Nat → Value) (k : Nat) : Prop := k = d ∨ ∃ i, i < n ∧ (V i).ownBlock = some k
def updV (V : Nat → Value) (i : Nat) (x : Value) : Nat → Value := fun k => if k = i then x else V k
section
variable {B : Nat} {w w' : World} {r d n : Nat} {V : Nat → Value} {S : Nat → Ln}
theorem updV_self (V : Nat → Value) (i : Nat) (x : Value) : updV V i x i = x := by simp [updV]
theorem updV_other (V : Nat → Value) (i : Nat) (x : Value) {k : Nat} (h : k ≠ i) : updV V i x k = V k := by simp [updV, h]
theorem RW.lt (h : RW B w r d n V S) : r < w.heap.size := lt_of_heap h.ob
theorem RW.dlt (h : RW B w r d n V S) : d < w.heap.size := by
  obtain ⟨cur, h, _⟩ := h.rows
  exact lt_of_heap h
theorem RW.ne (h : RW B w r d n V S) : r ≠ d := fun e => by
  obtain ⟨cur, h1, _⟩ := h.rows
  rw [← e, h.ob] at h1
  simp at h1
theorem RW.one (h : RW B w r d n V S) {i k : Nat} (hi : i < n) (hk : (V i).ownBlock = some k) : k ≠ d ∧ k ≠ r := by
  obtain ⟨cu, hc⟩ := (h.qs i hi).blk k hk
  obtain ⟨cur, h1, _⟩ := h.rows
  refine ⟨fun e => ?_, fun e => ?_⟩
  · rw [e, h1] at hc; simp at hc
  · rw [e, h.ob] at hc; simp at hc
theorem RW.keep (h : RW B w r d n V S) (hk : ∀ k, k < w.heap.size → (k = r ∨ RS d n V k) → w'.heap[k]? = w.heap[k]?) : RW B w' r d n V S := by
  obtain ⟨cur, h1, h2⟩ := h.rows
  exact ⟨(hk r h.lt (.inl rfl)).trans h.ob, ⟨cur, (hk d h.dlt (.inr (.inl rfl))).trans h1, h2⟩, fun i hi => (h.qs i hi).keep fun k hv => hk k ((h.qs i hi).lt k hv).2 (.inr (.inr ⟨i, hi, hv⟩)), h.inj, h.n1, h.n8, h.rg, h.lo⟩
theorem RW.below (h : RW B w r d n V S) (hk : Below w.heap.size w w') : RW B w' r d n V S := h.keep fun k hlt _ => hk.block k hlt
theorem RW.cc (h : RW B w r d n V S) : w.cell? ⟨r, 0, none⟩ = some (.slice (some ⟨d, 0, none⟩) n n) := by simp [World.cell?, h.ob]
theorem RW.ri (h : RW B w r d n V S) {i : Nat} (hi : i < n) : w.cell? ⟨d, i * 4, none⟩ = some (V i) ∧ w.cell? ⟨d, i * 4 + 1, none⟩ = some (.int .u64 (S i).ck) ∧ w.cell? ⟨d, i * 4 + 2, none⟩ = some (.int .u64 (S i).tm) ∧ w.cell? ⟨d, i * 4 + 3, none⟩ = some (.bool (S i).on) := by
  obtain ⟨cur, h1, h2, h3⟩ := h.rows
  obtain ⟨a, b, c, d⟩ := h3 i hi
  rw [cell_at h1, cell_at h1, cell_at h1, cell_at h1]
  exact ⟨a, b, c, d⟩
theorem RW.f (h : RW B w r d n V S) (o : Nat) : w.frozen? ⟨d, o, none⟩ = false := by
  obtain ⟨cur, h1, h2, h3⟩ := h.rows
  simp [World.frozen?, h1]
theorem RW.rsB (h : RW B w r d n V S) : ∀ k, RS d n V k → B ≤ k := by
  rintro k (rfl | ⟨i, hi, hk⟩)
  · exact h.lo.2
  · exact ((h.qs i hi).lt k hk).1
theorem RW.bw (h : RW B w r d n V S) : B ≤ w.heap.size := by have := h.lo.1; have := h.lt; omega
theorem RW.to (h : RW B w r d n V S) (k : Trn (RS d n V) w w') : Below B w w' := k.below h.rsB h.bw
/-- one of the cells 1 to 3 of core i is written -/
theorem RW.setc (h : RW B w r d n V S) {i j : Nat} (hi : i < n) (hj : 1 ≤ j) (hj3 : j ≤ 3) (v : Value) (x : Ln) (hx : LOk x) (hq : x.q = (S i).q)
    (h1 : some (.int .u64 x.ck) = if j = 1 then some v else some (Value.int .u64 (S i).ck)) (h2 : some (.int .u64 x.tm) = if j = 2 then some v else some (Value.int .u64 (S i).tm)) (h3 : some (.bool x.on) = if j = 3 then some v else some (Value.bool (S i).on)) :
    RW B (w.setCell ⟨d, i * 4 + j, none⟩ v) r d n V (upd S i x) ∧ Trn (RS d n V) w (w.setCell ⟨d, i * 4 + j, none⟩ v) := by
  obtain ⟨cur, r1, r2, r3⟩ := h.rows
  have ht := trn_setCell (RS d n V) r1 (.inl rfl) (i * 4 + j) v
  refine ⟨?_, ht⟩
  have ht' := trn_setCell (fun k => k = d) r1 rfl (i * 4 + j) v
  have e := setCell_eq_setRow w d (i * 4 + j) cur 51 (0, 0) v r1
  have hh : (w.setRow d (cur.setIfInBounds (i * 4 + j) v)).heap[d]? = _ := setRow_heap w d cur _ 51 _ r1
  rw [← e] at hh
  refine ⟨(ht'.block r h.lt h.ne).trans h.ob, ⟨_, hh, by simpa using r2, fun k hk => ?_⟩, fun k hk => ?_, h.inj, h.n1, h.n8, fun k hk => ?_, h.lo⟩
  · obtain ⟨q0, q1, q2, q3⟩ := r3 k hk
    by_cases hki : k = i
    · subst hki
      rw [upd_self, h1, h2, h3]
      refine ⟨?_, ?_, ?_, ?_⟩
      · rw [Array.getElem?_setIfInBounds, if_neg (by omega)]; exact q0
      · rw [Array.getElem?_setIfInBounds]
        by_cases e1 : j = 1
        · subst e1; rw [if_pos rfl, if_pos (by omega), if_pos rfl]
        · rw [if_neg (by omega), if_neg e1]; exact q1
      · rw [Array.getElem?_setIfInBounds]
        by_cases e1 : j = 2
        · subst e1; rw [if_pos rfl, if_pos (by omega), if_pos rfl]
        · rw [if_neg (by omega), if_neg e1]; exact q2
      · rw [Array.getElem?_setIfInBounds]
        by_cases e1 : j = 3
        · subst e1; rw [if_pos rfl, if_pos (by omega), if_pos rfl]
        · rw [if_neg (by omega), if_neg e1]; exact q3
    · rw [upd_other _ _ _ hki]
      rw [Array.getElem?_setIfInBounds, if_neg (by omega), Array.getElem?_setIfInBounds, if_neg (by omega), Array.getElem?_setIfInBounds, if_neg (by omega), Array.getElem?_setIfInBounds, if_neg (by omega)]
      exact ⟨q0, q1, q2, q3⟩
  · have hq' := (h.qs k hk).keep (w' := w.setCell ⟨d, i * 4 + j, none⟩ v) fun b hb => ht'.block b ((h.qs k hk).lt b hb).2 (h.one hk hb).1
    by_cases hki : k = i
    · subst hki; rw [upd_self, hq]; exact hq'
    · rw [upd_other _ _ _ hki]; exact hq'
  · by_cases hki : k = i
    · subst hki; rw [upd_self]; exact hx
    · rw [upd_other _ _ _ hki]; exact h.rg k hk
/-- the slice of core i is written, its block in a world that keeps the others -/
theorem RW.setv (h : RW B w r d n V S) {i : Nat} (hi : i < n) (v : Value) (q : List Int) (hq : q.length ≤ 16) (hv : Qs B w' v q) (hown : ∀ k, v.ownBlock = some k → (V i).ownBlock = some k ∨ w.heap.size ≤ k)
    (ht : Trn (fun k => (V i).ownBlock = some k) w w') :
    RW B (w'.setCell ⟨d, i * 4, none⟩ v) r d n (updV V i v) (upd S i ⟨q, (S i).ck, (S i).tm, (S i).on⟩) ∧ Trn (RS d n V) w (w'.setCell ⟨d, i * 4, none⟩ v) := by
  obtain ⟨cur, r1, r2, r3⟩ := h.rows
  have nod : ∀ {k}, (V i).ownBlock = some k → k ≠ d := fun hk => (h.one hi hk).1
  have r1' : w'.heap[d]? = some (.cells cur 51 (0, 0)) := (ht.block d h.dlt (fun e => nod e rfl)).trans r1
  have tt := trn_setCell (fun k => k = d) r1' rfl (i * 4) v
  have e := setCell_eq_setRow w' d (i * 4) cur 51 (0, 0) v r1'
  have hh : (w'.setRow d (cur.setIfInBounds (i * 4) v)).heap[d]? = _ := setRow_heap w' d cur _ 51 _ r1'
  rw [← e] at hh
  have hs := ht.size
  have hvd : ∀ k, v.ownBlock = some k → k ≠ d := fun k hk e => by
    rcases hown k hk with h' | h'
    · exact nod h' e
    · have := h.dlt; omega
  refine ⟨⟨?_, ⟨_, hh, by simpa using r2, fun k hk => ?_⟩, fun k hk => ?_, fun a b k ha hb h1 h2 => ?_, h.n1, h.n8, fun k hk => ?_, h.lo⟩, ?_⟩
  · rw [tt.block r (Nat.lt_of_lt_of_le h.lt hs) h.ne, ht.block r h.lt (fun e => (h.one hi e).2 rfl)]
    exact h.ob
  · obtain ⟨q0, q1, q2, q3⟩ := r3 k hk
    by_cases hki : k = i
    · subst hki
      rw [upd_self, updV_self]
      refine ⟨?_, ?_, ?_, ?_⟩
      · rw [Array.getElem?_setIfInBounds, if_pos rfl, if_pos (by omega)]
      · rw [Array.getElem?_setIfInBounds, if_neg (by omega)]; exact q1
      · rw [Array.getElem?_setIfInBounds, if_neg (by omega)]; exact q2
      · rw [Array.getElem?_setIfInBounds, if_neg (by omega)]; exact q3
    · rw [upd_other _ _ _ hki, updV_other _ _ _ hki]
      rw [Array.getElem?_setIfInBounds, if_neg (by omega), Array.getElem?_setIfInBounds, if_neg (by omega), Array.getElem?_setIfInBounds, if_neg (by omega), Array.getElem?_setIfInBounds, if_neg (by omega)]
      exact ⟨q0, q1, q2, q3⟩
  · by_cases hki : k = i
    · subst hki
      rw [upd_self, updV_self]
      exact hv.keep fun b hb => tt.block b (hv.lt b hb).2 (hvd b hb)
    · rw [upd_other _ _ _ hki, updV_other _ _ _ hki]
      refine (h.qs k hk).keep fun b hb => ?_
      have hbl := ((h.qs k hk).lt b hb).2
      rw [tt.block b (Nat.lt_of_lt_of_le hbl hs) (h.one hk hb).1]
      exact ht.block b hbl (fun e => hki (h.inj k i b hk hi hb e))
  · by_cases ea : a = i
    · by_cases eb : b = i
      · omega
      · rw [ea, updV_self] at h1
        rw [updV_other _ _ _ eb] at h2
        rcases hown k h1 with h' | h'
        · exact absurd (h.inj b i k hb hi h2 h') eb
        · have := ((h.qs b hb).lt k h2).2; omega
    · by_cases eb : b = i
      · rw [eb, updV_self] at h2
        rw [updV_other _ _ _ ea] at h1
        rcases hown k h2 with h' | h'
        · exact absurd (h.inj a i k ha hi h1 h') ea
        · have := ((h.qs a ha).lt k h1).2; omega
      · rw [updV_other _ _ _ ea] at h1
        rw [updV_other _ _ _ eb] at h2
        exact h.inj a b k ha hb h1 h2
  · by_cases hki : k = i
    · subst hki; rw [upd_self]; exact ⟨(h.rg k hk).1, (h.rg k hk).2.1, hq⟩
    · rw [upd_other _ _ _ hki]; exact h.rg k hk
  · refine ⟨tt.os.trans ht.os, tt.tape.trans ht.tape, tt.output.trans ht.output, Nat.le_trans hs tt.size, fun k hk hn => ?_⟩
    rw [tt.block k (Nat.lt_of_lt_of_le hk hs) (fun e => hn (.inl e))]
    exact ht.block k hk (fun e => hn (.inr ⟨i, hi, e⟩))
end
end Go.Proofs.Ytdmegoglcnggoaa
