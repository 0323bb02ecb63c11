/-
  The cores' lines in the heap: a block of the slice, a block of four cells a core, a channel a core.
-/
import Derived.Test.YtdmegoglcnggoaaSel
import Derived.OpenShut
import Derived.Deep.QuietTactic
import Derived.BigQuiet
import Derived.Deep.RegionLaw
namespace Go.Proofs.Ytdmegoglcnggoaa
open Go.RowKit Go.Conc
set_option linter.unusedVariables false
set_option maxRecDepth 20000

theorem ret_bool {a b : Bool} (h : a = b) : Ending.returned (.bool a) = .returned (.bool b) := by rw [h]
theorem ret_int {k : IntKind} {a b : Int} (h : a = b) : Ending.returned (.int k a) = .returned (.int k b) := by rw [h]
theorem bcell {B : Nat} {W w1 : World} (hb : Below B W w1) : (∀ b o, b < B → w1.cell? ⟨b, o, none⟩ = W.cell? ⟨b, o, none⟩) ∧ (∀ b o, b < B → w1.frozen? ⟨b, o, none⟩ = W.frozen? ⟨b, o, none⟩) :=
  ⟨fun b o h => hb.cell (p := ⟨b, o, none⟩) h, fun b o h => hb.frozen (p := ⟨b, o, none⟩) h⟩
theorem lt_of_heap {w : World} {b : Nat} {o : Obj} (h : w.heap[b]? = some o) : b < w.heap.size := (Array.getElem?_eq_some_iff.1 h).1
theorem cell_at {w : World} {b : Nat} {cs : Array Value} {t : TypeId} (h : w.heap[b]? = some (.cells cs t (0, 0))) (o : Nat) : w.cell? ⟨b, o, none⟩ = cs[o]? := by simp [World.cell?, h]
theorem heap_alloc_at (w : World) (o : Obj) : (w.alloc o).heap[w.heap.size]? = some o := by show (w.heap.push o)[w.heap.size]? = _; simp
theorem heap_alloc_past (w : World) (o : Obj) {k : Nat} (h : k < w.heap.size) : (w.alloc o).heap[k]? = w.heap[k]? := by show (w.heap.push o)[k]? = _; simp [Array.getElem?_push, Nat.ne_of_lt h]
/-- what has turned between two worlds: blocks of S, and new ones -/
structure Trn (S : Nat → Prop) (w w' : World) : Prop where
  os : w'.os = w.os
  tape : w'.tape = w.tape
  output : w'.output = w.output
  size : w.heap.size ≤ w'.heap.size
  block : ∀ k, k < w.heap.size → ¬ S k → w'.heap[k]? = w.heap[k]?
theorem Trn.refl (S : Nat → Prop) (w : World) : Trn S w w := ⟨rfl, rfl, rfl, Nat.le_refl _, fun _ _ _ => rfl⟩
theorem Trn.trans {S : Nat → Prop} {a b c : World} (h : Trn S a b) (k : Trn S b c) : Trn S a c :=
  ⟨k.os.trans h.os, k.tape.trans h.tape, k.output.trans h.output, Nat.le_trans h.size k.size, fun i hi hr => (k.block i (Nat.lt_of_lt_of_le hi h.size) hr).trans (h.block i hi hr)⟩
theorem Trn.below {S : Nat → Prop} {a b : World} (h : Trn S a b) {B : Nat} (hB : ∀ k, S k → B ≤ k) (hs : B ≤ a.heap.size) : Below B a b :=
  ⟨h.os, h.tape, h.output, h.size, fun k hk => h.block k (by omega) (fun hk' => by have := hB k hk'; omega)⟩
theorem Trn.drew {S : Nat → Prop} {a b : World} (h : Trn S a b) : Trn S a b.drew := ⟨h.os, h.tape, h.output, h.size, h.block⟩
theorem Trn.of_below {S : Nat → Prop} {a b : World} (h : Below a.heap.size a b) : Trn S a b := ⟨h.os, h.tape, h.output, h.size, fun k hk _ => h.block k hk⟩
theorem trn_setCell (S : Nat → Prop) {w : World} {b : Nat} {cs : Array Value} {t : TypeId} (h : w.heap[b]? = some (.cells cs t (0, 0))) (hS : S b) (o : Nat) (v : Value) : Trn S w (w.setCell ⟨b, o, none⟩ v) := by
  rw [setCell_eq_setRow w b o cs t (0, 0) v h]
  exact ⟨rfl, rfl, rfl, by simp [World.setRow], fun k hk hne => setRow_other w b k _ (fun e => hne (by rw [e]; exact hS))⟩
theorem trn_setChan (S : Nat → Prop) (w : World) (c cap : Nat) (buf : Array Value) (cl : Bool) (s r : Nat) (tm : Bool) (hS : S c) : Trn S w (w.setChan c cap buf cl s r tm) :=
  ⟨rfl, rfl, rfl, by simp [World.setChan], fun k hk hne => by simp only [World.setChan]; rw [Array.getElem?_setIfInBounds_ne (fun e => hne (by rw [← e]; exact hS))]⟩

/-- one core's: what waits, the clock, the timer, is it set -/
structure Ln where
  q : List Int
  ck : Int
  tm : Int
  on : Bool
def l0 : Ln := ⟨[], 0, 0, false⟩
def ev (q : List Int) : Array Value := (q.map fun x => Value.int .i64 x).toArray
theorem ev_size (q : List Int) : (ev q).size = q.length := by simp [ev]
theorem ev_push (q : List Int) (x : Int) : (ev q).push (.int .i64 x) = ev (q ++ [x]) := by simp [ev]
theorem ev_rest (q : List Int) (x : Int) : (ev (x :: q)).extract 1 (ev (x :: q)).size = ev q := by
  simp [ev]
  exact List.take_of_length_le (by simp)
theorem ev_head (q : List Int) (x : Int) : (ev (x :: q)).getD 0 undef = .int .i64 x := by simp [ev]
def upd (S : Nat → Ln) (i : Nat) (x : Ln) : Nat → Ln := fun k => if k = i then x else S k
theorem upd_self (S : Nat → Ln) (i : Nat) (x : Ln) : upd S i x i = x := by simp [upd]
theorem upd_other (S : Nat → Ln) (i : Nat) (x : Ln) {k : Nat} (h : k ≠ i) : upd S i x k = S k := by simp [upd, h]
theorem upd_upd (S : Nat → Ln) (i : Nat) (x y : Ln) : upd (upd S i x) i y = upd S i y := by funext k; by_cases h : k = i <;> simp [upd, h]
def LOk (x : Ln) : Prop := 0 ≤ x.ck ∧ x.ck ≤ 4611686018427387904 ∧ x.q.length ≤ 16
/-- the lines of n cores: block l, block b, the channels C -/
structure LW (B : Nat) (w : World) (l b n : Nat) (C : Nat → Nat) (S : Nat → Ln) : Prop where
  ob : w.heap[l]? = some (.cells #[.slice (some ⟨b, 0, none⟩) n n] 58 (0, 0))
  rows : ∃ cur : Array Value, w.heap[b]? = some (.cells cur 67 (0, 0)) ∧ cur.size = n * 4 ∧ ∀ i, i < n → cur[i * 4]? = some (.chan (some (C i))) ∧ cur[i * 4 + 1]? = some (.int .u64 (S i).ck) ∧ cur[i * 4 + 2]? = some (.int .u64 (S i).tm) ∧ cur[i * 4 + 3]? = some (.bool (S i).on)
  ch : ∀ i, i < n → ∃ s r, w.heap[C i]? = some (.chan 16 (ev (S i).q) false s r false)
  inj : ∀ i j, i < n → j < n → C i = C j → i = j
  n1 : 1 ≤ n
  n8 : n ≤ 8
  rg : ∀ i, i < n → LOk (S i)
  lo : B ≤ l ∧ B ≤ b ∧ ∀ i, i < n → B ≤ C i
/-- the blocks that calls on the lines may turn -/
def LS (b n : Nat) (C : Nat → Nat) (k : Nat) : Prop := k = b ∨ ∃ i, i < n ∧ k = C i
section
variable {B : Nat} {w w' : World} {l b n : Nat} {C : Nat → Nat} {S : Nat → Ln}
theorem LW.lt (h : LW B w l b n C S) : l < w.heap.size := lt_of_heap h.ob
theorem LW.blt (h : LW B w l b n C S) : b < w.heap.size := by
  obtain ⟨cur, h, _⟩ := h.rows
  exact lt_of_heap h
theorem LW.clt (h : LW B w l b n C S) {i : Nat} (hi : i < n) : C i < w.heap.size := by
  obtain ⟨s, r, h⟩ := h.ch i hi
  exact lt_of_heap h
theorem LW.ne (h : LW B w l b n C S) : l ≠ b := fun e => by
  obtain ⟨cur, h1, _⟩ := h.rows
  rw [← e, h.ob] at h1
  simp at h1
theorem LW.cne (h : LW B w l b n C S) {i : Nat} (hi : i < n) : C i ≠ b ∧ C i ≠ l := by
  obtain ⟨s, r, hc⟩ := h.ch i hi
  obtain ⟨cur, h1, _⟩ := h.rows
  refine ⟨fun e => ?_, fun e => ?_⟩
  · rw [e, h1] at hc; cases hc
  · rw [e, h.ob] at hc; cases hc
theorem LW.keep (h : LW B w l b n C S) (hk : ∀ k, k < w.heap.size → (k = l ∨ LS b n C k) → w'.heap[k]? = w.heap[k]?) : LW B w' l b n C S := by
  obtain ⟨cur, h1, h2⟩ := h.rows
  exact ⟨(hk l h.lt (.inl rfl)).trans h.ob, ⟨cur, (hk b h.blt (.inr (.inl rfl))).trans h1, h2⟩, fun i hi => let ⟨s, r, hc⟩ := h.ch i hi; ⟨s, r, (hk _ (h.clt hi) (.inr (.inr ⟨i, hi, rfl⟩))).trans hc⟩, h.inj, h.n1, h.n8, h.rg, h.lo⟩
theorem LW.below (h : LW B w l b n C S) (hk : Below w.heap.size w w') : LW B w' l b n C S := h.keep fun k hlt _ => hk.block k hlt
theorem LW.congr {S' : Nat → Ln} (h : LW B w l b n C S) (e : ∀ i, i < n → S i = S' i) : LW B w l b n C S' := by
  obtain ⟨cur, h1, h2, h3⟩ := h.rows
  exact ⟨h.ob, ⟨cur, h1, h2, fun i hi => e i hi ▸ h3 i hi⟩, fun i hi => e i hi ▸ h.ch i hi, h.inj, h.n1, h.n8, fun i hi => e i hi ▸ h.rg i hi, h.lo⟩
theorem LW.c (h : LW B w l b n C S) : w.cell? ⟨l, 0, none⟩ = some (.slice (some ⟨b, 0, none⟩) n n) := by simp [World.cell?, h.ob]
theorem LW.r (h : LW B w l b n C S) {i : Nat} (hi : i < n) : w.cell? ⟨b, i * 4, none⟩ = some (.chan (some (C i))) ∧ w.cell? ⟨b, i * 4 + 1, none⟩ = some (.int .u64 (S i).ck) ∧ w.cell? ⟨b, i * 4 + 2, none⟩ = some (.int .u64 (S i).tm) ∧ w.cell? ⟨b, i * 4 + 3, none⟩ = some (.bool (S i).on) := by
  obtain ⟨cur, h1, h2, h3⟩ := h.rows
  obtain ⟨a, b, c, d⟩ := h3 i hi
  rw [cell_at h1, cell_at h1, cell_at h1, cell_at h1]
  exact ⟨a, b, c, d⟩
theorem LW.f (h : LW B w l b n C S) (o : Nat) : w.frozen? ⟨b, o, none⟩ = false := by
  obtain ⟨cur, h1, h2, h3⟩ := h.rows
  simp [World.frozen?, h1]
theorem LW.lsB (h : LW B w l b n C S) : ∀ k, LS b n C k → B ≤ k := by
  rintro k (rfl | ⟨i, hi, rfl⟩)
  · exact h.lo.2.1
  · exact h.lo.2.2 i hi
theorem LW.bw (h : LW B w l b n C S) : B ≤ w.heap.size := by have := h.lo.1; have := h.lt; omega
theorem LW.to (h : LW B w l b n C S) (k : Trn (LS b n C) w w') : Below B w w' := k.below h.lsB h.bw
/-- one of the cells 1 to 3 of core i is written -/
theorem LW.setc (h : LW B w l b n C S) {i j : Nat} (hi : i < n) (hj : 1 ≤ j) (hj3 : j ≤ 3) (v : Value) (x : Ln) (hx : LOk x) (hq : x.q = (S i).q)
    (h1 : some (.int .u64 x.ck) = if j = 1 then some v else some (Value.int .u64 (S i).ck)) (h2 : some (.int .u64 x.tm) = if j = 2 then some v else some (Value.int .u64 (S i).tm)) (h3 : some (.bool x.on) = if j = 3 then some v else some (Value.bool (S i).on)) :
    LW B (w.setCell ⟨b, i * 4 + j, none⟩ v) l b n C (upd S i x) ∧ Trn (LS b n C) w (w.setCell ⟨b, i * 4 + j, none⟩ v) := by
  obtain ⟨cur, r1, r2, r3⟩ := h.rows
  have ht := trn_setCell (LS b n C) r1 (.inl rfl) (i * 4 + j) v
  refine ⟨?_, ht⟩
  have ht' := trn_setCell (fun k => k = b) r1 rfl (i * 4 + j) v
  have e := setCell_eq_setRow w b (i * 4 + j) cur 67 (0, 0) v r1
  have hh : (w.setRow b (cur.setIfInBounds (i * 4 + j) v)).heap[b]? = _ := setRow_heap w b cur _ 67 _ r1
  rw [← e] at hh
  refine ⟨(ht'.block l h.lt h.ne).trans h.ob, ⟨_, hh, by simpa using r2, fun k hk => ?_⟩, fun k hk => ?_, h.inj, h.n1, h.n8, fun k hk => ?_, h.lo⟩
  · obtain ⟨q0, q1, q2, q3⟩ := r3 k hk
    by_cases hki : k = i
    · subst hki
      rw [upd_self, h1, h2, h3]
      refine ⟨?_, ?_, ?_, ?_⟩
      · rw [Array.getElem?_setIfInBounds, if_neg (by omega)]; exact q0
      · rw [Array.getElem?_setIfInBounds]
        by_cases e1 : j = 1
        · subst e1; rw [if_pos rfl, if_pos (by omega), if_pos rfl]
        · rw [if_neg (by omega), if_neg e1]; exact q1
      · rw [Array.getElem?_setIfInBounds]
        by_cases e1 : j = 2
        · subst e1; rw [if_pos rfl, if_pos (by omega), if_pos rfl]
        · rw [if_neg (by omega), if_neg e1]; exact q2
      · rw [Array.getElem?_setIfInBounds]
        by_cases e1 : j = 3
        · subst e1; rw [if_pos rfl, if_pos (by omega), if_pos rfl]
        · rw [if_neg (by omega), if_neg e1]; exact q3
    · rw [upd_other _ _ _ hki]
      rw [Array.getElem?_setIfInBounds, if_neg (by omega), Array.getElem?_setIfInBounds, if_neg (by omega), Array.getElem?_setIfInBounds, if_neg (by omega), Array.getElem?_setIfInBounds, if_neg (by omega)]
      exact ⟨q0, q1, q2, q3⟩
  · obtain ⟨s, r, hc⟩ := h.ch k hk
    refine ⟨s, r, (ht'.block _ (h.clt hk) (h.cne hk).1).trans ?_⟩
    by_cases hki : k = i
    · subst hki; rw [upd_self, hq]; exact hc
    · rw [upd_other _ _ _ hki]; exact hc
  · by_cases hki : k = i
    · subst hki; rw [upd_self]; exact hx
    · rw [upd_other _ _ _ hki]; exact h.rg k hk
/-- the channel of core i is turned -/
theorem LW.setq (h : LW B w l b n C S) {i : Nat} (hi : i < n) (q : List Int) (hq : q.length ≤ 16) (s r : Nat) :
    LW B (w.setChan (C i) 16 (ev q) false s r false) l b n C (upd S i ⟨q, (S i).ck, (S i).tm, (S i).on⟩) ∧ Trn (LS b n C) w (w.setChan (C i) 16 (ev q) false s r false) := by
  have ht := trn_setChan (LS b n C) w (C i) 16 (ev q) false s r false (.inr ⟨i, hi, rfl⟩)
  have ht' := trn_setChan (fun k => k = C i) w (C i) 16 (ev q) false s r false rfl
  obtain ⟨cur, r1, r2, r3⟩ := h.rows
  refine ⟨⟨(ht'.block l h.lt (h.cne hi).2.symm).trans h.ob, ⟨cur, (ht'.block b h.blt (h.cne hi).1.symm).trans r1, r2, fun k hk => ?_⟩, fun k hk => ?_, h.inj, h.n1, h.n8, fun k hk => ?_, h.lo⟩, ht⟩
  · by_cases hki : k = i
    · subst hki; rw [upd_self]; exact r3 k hk
    · rw [upd_other _ _ _ hki]; exact r3 k hk
  · by_cases hki : k = i
    · subst hki; rw [upd_self]; exact ⟨s, r, heap_setChan w _ _ _ _ _ _ _ (h.clt hk)⟩
    · rw [upd_other _ _ _ hki]
      obtain ⟨s', r', hc⟩ := h.ch k hk
      exact ⟨s', r', (ht'.block _ (h.clt hk) (fun e => hki (h.inj k i hk hi e))).trans hc⟩
  · by_cases hki : k = i
    · subst hki; rw [upd_self]; exact ⟨(h.rg k hk).1, (h.rg k hk).2.1, hq⟩
    · rw [upd_other _ _ _ hki]; exact h.rg k hk
end
end Go.Proofs.Ytdmegoglcnggoaa
