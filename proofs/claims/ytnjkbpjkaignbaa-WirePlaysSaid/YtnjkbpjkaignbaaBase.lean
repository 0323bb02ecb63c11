/-
  A wire in the heap: a block of the slice, a block of two cells a port, a channel a port, a row of bytes a message that waits.
-/
import Derived.Test.YtnjkbpjkaignbaaSel
import Derived.Test.YtnjkbpjkaignbaaByt
import Derived.Deep.RegionLaw
namespace Go.Proofs.Ytnjkbpjkaignbaa
open Go.RowKit Go.Conc
set_option linter.unusedVariables false
set_option maxRecDepth 100000

theorem cell_at {w : World} {b : Nat} {cs : Array Value} {t : TypeId} (h : w.heap[b]? = some (.cells cs t (0, 0))) (o : Nat) : w.cell? ⟨b, o, none⟩ = cs[o]? := by simp [World.cell?, h]
/-- what has turned between two worlds: blocks of S, and new ones -/
structure Trn (S : Nat → Prop) (w w' : World) : Prop where
  os : w'.os = w.os
  tape : w'.tape = w.tape
  output : w'.output = w.output
  size : w.heap.size ≤ w'.heap.size
  block : ∀ k, k < w.heap.size → ¬ S k → w'.heap[k]? = w.heap[k]?
theorem Trn.refl (S : Nat → Prop) (w : World) : Trn S w w := ⟨rfl, rfl, rfl, Nat.le_refl _, fun _ _ _ => rfl⟩
theorem Trn.trans {S : Nat → Prop} {a b c : World} (h : Trn S a b) (k : Trn S b c) : Trn S a c :=
  ⟨k.os.trans h.os, k.tape.trans h.tape, k.output.trans h.output, Nat.le_trans h.size k.size, fun i hi hr => (k.block i (Nat.lt_of_lt_of_le hi h.size) hr).trans (h.block i hi hr)⟩
theorem Trn.below {S : Nat → Prop} {a b : World} (h : Trn S a b) {B : Nat} (hB : ∀ k, S k → B ≤ k) (hs : B ≤ a.heap.size) : Below B a b :=
  ⟨h.os, h.tape, h.output, h.size, fun k hk => h.block k (by omega) (fun hk' => by have := hB k hk'; omega)⟩
theorem Trn.drew {S : Nat → Prop} {a b : World} (h : Trn S a b) : Trn S a b.drew := ⟨h.os, h.tape, h.output, h.size, h.block⟩
theorem Trn.of_below {S : Nat → Prop} {a b : World} (h : Below a.heap.size a b) : Trn S a b := ⟨h.os, h.tape, h.output, h.size, fun k hk _ => h.block k hk⟩
theorem Trn.mono {S S' : Nat → Prop} {a b : World} (h : Trn S a b) (hs : ∀ k, k < a.heap.size → S k → S' k) : Trn S' a b := ⟨h.os, h.tape, h.output, h.size, fun k hk hn => h.block k hk fun e => hn (hs k hk e)⟩
theorem trn_setCell (S : Nat → Prop) {w : World} {b : Nat} {cs : Array Value} {t : TypeId} (h : w.heap[b]? = some (.cells cs t (0, 0))) (hS : S b) (o : Nat) (v : Value) : Trn S w (w.setCell ⟨b, o, none⟩ v) := by
  rw [setCell_eq_setRow w b o cs t (0, 0) v h]
  exact ⟨rfl, rfl, rfl, by simp [World.setRow], fun k hk hne => setRow_other w b k _ (fun e => hne (by rw [e]; exact hS))⟩
theorem trn_setChan (S : Nat → Prop) (w : World) (c cap : Nat) (buf : Array Value) (cl : Bool) (s r : Nat) (tm : Bool) (hS : S c) : Trn S w (w.setChan c cap buf cl s r tm) :=
  ⟨rfl, rfl, rfl, by simp [World.setChan], fun k hk hne => by simp only [World.setChan]; rw [Array.getElem?_setIfInBounds_ne (fun e => hne (by rw [← e]; exact hS))]⟩
theorem ne_typ {w : World} {a b : Nat} {c d : Array Value} {s t : TypeId} (h : w.heap[a]? = some (.cells c s (0, 0))) (k : w.heap[b]? = some (.cells d t (0, 0))) (hn : s ≠ t) : a ≠ b := fun e => by
  rw [e, k] at h
  simp at h
  exact hn h.2.symm
theorem ne_chan {w : World} {a b : Nat} {c : Array Value} {s : TypeId} {cap : Nat} {buf : Array Value} {cl tm : Bool} {x y : Nat} (h : w.heap[a]? = some (.cells c s (0, 0))) (k : w.heap[b]? = some (.chan cap buf cl x y tm)) : a ≠ b := fun e => by
  rw [e, k] at h
  cases h

/-- a message that waits: whence, the block of its bytes, its bytes -/
structure Msg where
  fr : Int
  X : Nat
  bs : List Int
def bv (bs : List Int) : Array Value := (bs.map (Value.int .u8)).toArray
def mv (m : Msg) : Value := .agg #[.int .i64 m.fr, .slice (some ⟨m.X, 0, none⟩) m.bs.length m.bs.length]
def ev (q : List Msg) : Array Value := (q.map mv).toArray
/-- what is told of it -/
def Msg.ab (m : Msg) : Int × List Int := (m.fr, m.bs)
theorem ev_size (q : List Msg) : (ev q).size = q.length := by simp [ev]
theorem ev_push (q : List Msg) (x : Msg) : (ev q).push (mv x) = ev (q ++ [x]) := by simp [ev]
theorem ev_rest (q : List Msg) (x : Msg) : (ev (x :: q)).extract 1 (ev (x :: q)).size = ev q := by
  simp [ev]
  exact List.take_of_length_le (by simp)
theorem ev_head (q : List Msg) (x : Msg) : (ev (x :: q)).getD 0 undef = mv x := by simp [ev]
def upd {α : Type} (S : Nat → α) (i : Nat) (x : α) : Nat → α := fun k => if k = i then x else S k
theorem upd_self {α : Type} (S : Nat → α) (i : Nat) (x : α) : upd S i x i = x := by simp [upd]
theorem upd_other {α : Type} (S : Nat → α) (i : Nat) (x : α) {k : Nat} (h : k ≠ i) : upd S i x k = S k := by simp [upd, h]
theorem upd_upd {α : Type} (S : Nat → α) (i : Nat) (x y : α) : upd (upd S i x) i y = upd S i y := by funext k; by_cases h : k = i <;> simp [upd, h]
theorem upd_same {α : Type} (S : Nat → α) (i : Nat) : upd S i (S i) = S := by funext k; by_cases h : k = i <;> simp [upd, h]
/-- a wire of n ports: block l, block b, the channels C, the groups G, what waits Q; N: blocks that are no waiting message's -/
structure WW (B : Nat) (w : World) (l b n : Nat) (C : Nat → Nat) (G : Nat → Int) (Q : Nat → List Msg) (N : Nat → Prop) : Prop where
  ob : w.heap[l]? = some (.cells #[.slice (some ⟨b, 0, none⟩) n n] 60 (0, 0))
  rows : ∃ cur : Array Value, w.heap[b]? = some (.cells cur 67 (0, 0)) ∧ cur.size = n * 2 ∧ ∀ i, i < n → cur[i * 2]? = some (.int .i64 (G i)) ∧ cur[i * 2 + 1]? = some (.chan (some (C i)))
  ch : ∀ i, i < n → ∃ s r, w.heap[C i]? = some (.chan 16 (ev (Q i)) false s r false)
  inj : ∀ i j, i < n → j < n → C i = C j → i = j
  n1 : 1 ≤ n
  n32 : n ≤ 32
  len : ∀ i, i < n → (Q i).length ≤ 16
  bl : ∀ i, i < n → ∀ m ∈ Q i, w.heap[m.X]? = some (.cells (bv m.bs) 5 (0, 0)) ∧ ¬ N m.X ∧ B ≤ m.X ∧ m.bs.length ≤ 2048 ∧ Bytes m.bs
  nd : ∀ i, i < n → ((Q i).map Msg.X).Nodup
  ap : ∀ i j, i < n → j < n → i ≠ j → ∀ m ∈ Q i, ∀ m' ∈ Q j, m.X ≠ m'.X
  lo : B ≤ l ∧ B ≤ b ∧ ∀ i, i < n → B ≤ C i
  nn : ∀ k, N k → k < w.heap.size
/-- the blocks that calls on the wire may turn -/
def WS (b n : Nat) (C : Nat → Nat) (k : Nat) : Prop := k = b ∨ ∃ i, i < n ∧ k = C i
section
variable {B : Nat} {w w' : World} {l b n : Nat} {C : Nat → Nat} {G : Nat → Int} {Q : Nat → List Msg} {N : Nat → Prop}
theorem WW.lt (h : WW B w l b n C G Q N) : l < w.heap.size := lt_of_heap h.ob
theorem WW.blt (h : WW B w l b n C G Q N) : b < w.heap.size := by
  obtain ⟨cur, h, _⟩ := h.rows
  exact lt_of_heap h
theorem WW.clt (h : WW B w l b n C G Q N) {i : Nat} (hi : i < n) : C i < w.heap.size := by
  obtain ⟨s, r, h⟩ := h.ch i hi
  exact lt_of_heap h
theorem WW.ne (h : WW B w l b n C G Q N) : l ≠ b := by
  obtain ⟨cur, h1, _⟩ := h.rows
  exact ne_typ h.ob h1 (by decide)
theorem WW.cne (h : WW B w l b n C G Q N) {i : Nat} (hi : i < n) : C i ≠ b ∧ C i ≠ l := by
  obtain ⟨s, r, hc⟩ := h.ch i hi
  obtain ⟨cur, h1, _⟩ := h.rows
  exact ⟨(ne_chan h1 hc).symm, (ne_chan h.ob hc).symm⟩
theorem WW.xne (h : WW B w l b n C G Q N) {i : Nat} (hi : i < n) {m : Msg} (hm : m ∈ Q i) : m.X < w.heap.size ∧ m.X ≠ b ∧ m.X ≠ l ∧ ∀ j, j < n → m.X ≠ C j := by
  obtain ⟨h1, _⟩ := h.bl i hi m hm
  obtain ⟨cur, h2, _⟩ := h.rows
  refine ⟨lt_of_heap h1, ne_typ h1 h2 (by decide), ne_typ h1 h.ob (by decide), fun j hj => ?_⟩
  obtain ⟨s, r, hc⟩ := h.ch j hj
  exact ne_chan h1 hc
theorem WW.keep (h : WW B w l b n C G Q N) (hs : w.heap.size ≤ w'.heap.size) (hk : ∀ k, k < w.heap.size → (k = l ∨ WS b n C k ∨ ∃ i, i < n ∧ ∃ m ∈ Q i, m.X = k) → w'.heap[k]? = w.heap[k]?) : WW B w' l b n C G Q N := by
  obtain ⟨cur, h1, h2⟩ := h.rows
  exact ⟨(hk l h.lt (.inl rfl)).trans h.ob, ⟨cur, (hk b h.blt (.inr (.inl (.inl rfl)))).trans h1, h2⟩, fun i hi => let ⟨s, r, hc⟩ := h.ch i hi; ⟨s, r, (hk _ (h.clt hi) (.inr (.inl (.inr ⟨i, hi, rfl⟩)))).trans hc⟩, h.inj, h.n1, h.n32, h.len,
    fun i hi m hm => ⟨(hk _ (h.xne hi hm).1 (.inr (.inr ⟨i, hi, m, hm, rfl⟩))).trans (h.bl i hi m hm).1, (h.bl i hi m hm).2⟩, h.nd, h.ap, h.lo, fun k hn => Nat.lt_of_lt_of_le (h.nn k hn) hs⟩
theorem WW.below (h : WW B w l b n C G Q N) (hk : Below w.heap.size w w') : WW B w' l b n C G Q N := h.keep hk.size fun k hlt _ => hk.block k hlt
theorem WW.less {N' : Nat → Prop} (h : WW B w l b n C G Q N) (hn : ∀ k, N' k → N k) : WW B w l b n C G Q N' :=
  ⟨h.ob, h.rows, h.ch, h.inj, h.n1, h.n32, h.len, fun i hi m hm => ⟨(h.bl i hi m hm).1, fun e => (h.bl i hi m hm).2.1 (hn _ e), (h.bl i hi m hm).2.2⟩, h.nd, h.ap, h.lo, fun k e => h.nn k (hn k e)⟩
/-- a block that is new is no waiting message's -/
theorem WW.fresh (h : WW B w l b n C G Q N) (hk : Below w.heap.size w w') {X : Nat} (h1 : w.heap.size ≤ X) (h2 : X < w'.heap.size) : WW B w' l b n C G Q (fun k => N k ∨ k = X) := by
  have h' := h.below hk
  exact ⟨h'.ob, h'.rows, h'.ch, h'.inj, h'.n1, h'.n32, h'.len, fun i hi m hm => ⟨(h'.bl i hi m hm).1, fun e => by
    rcases e with e | e
    · exact (h'.bl i hi m hm).2.1 e
    · have := (h.xne hi hm).1; omega, (h'.bl i hi m hm).2.2⟩, h'.nd, h'.ap, h'.lo, fun k e => by
    rcases e with e | e
    · exact h'.nn k e
    · omega⟩
theorem WW.c (h : WW B w l b n C G Q N) : w.cell? ⟨l, 0, none⟩ = some (.slice (some ⟨b, 0, none⟩) n n) := by simp [World.cell?, h.ob]
theorem WW.r (h : WW B w l b n C G Q N) {i : Nat} (hi : i < n) : w.cell? ⟨b, i * 2, none⟩ = some (.int .i64 (G i)) ∧ w.cell? ⟨b, i * 2 + 1, none⟩ = some (.chan (some (C i))) := by
  obtain ⟨cur, h1, h2, h3⟩ := h.rows
  obtain ⟨a, b⟩ := h3 i hi
  rw [cell_at h1, cell_at h1]
  exact ⟨a, b⟩
theorem WW.f (h : WW B w l b n C G Q N) (o : Nat) : w.frozen? ⟨b, o, none⟩ = false := by
  obtain ⟨cur, h1, h2, h3⟩ := h.rows
  simp [World.frozen?, h1]
theorem WW.wsB (h : WW B w l b n C G Q N) : ∀ k, WS b n C k → B ≤ k := by
  rintro k (rfl | ⟨i, hi, rfl⟩)
  · exact h.lo.2.1
  · exact h.lo.2.2 i hi
theorem WW.bw (h : WW B w l b n C G Q N) : B ≤ w.heap.size := by have := h.lo.1; have := h.lt; omega
theorem WW.to (h : WW B w l b n C G Q N) (k : Trn (WS b n C) w w') : Below B w w' := k.below h.wsB h.bw
/-- the group of port i is written -/
theorem WW.setg (h : WW B w l b n C G Q N) {i : Nat} (hi : i < n) (x : Int) :
    WW B (w.setCell ⟨b, i * 2, none⟩ (.int .i64 x)) l b n C (upd G i x) Q N ∧ Trn (WS b n C) w (w.setCell ⟨b, i * 2, none⟩ (.int .i64 x)) := by
  obtain ⟨cur, r1, r2, r3⟩ := h.rows
  have ht := trn_setCell (WS b n C) r1 (.inl rfl) (i * 2) (.int .i64 x)
  refine ⟨?_, ht⟩
  have ht' := trn_setCell (fun k => k = b) r1 rfl (i * 2) (.int .i64 x)
  have e := setCell_eq_setRow w b (i * 2) cur 67 (0, 0) (.int .i64 x) r1
  have hh : (w.setRow b (cur.setIfInBounds (i * 2) (.int .i64 x))).heap[b]? = _ := setRow_heap w b cur _ 67 _ r1
  rw [← e] at hh
  refine ⟨(ht'.block l h.lt h.ne).trans h.ob, ⟨_, hh, by simpa using r2, fun k hk => ?_⟩, fun k hk => ?_, h.inj, h.n1, h.n32, h.len, fun k hk m hm => ?_, h.nd, h.ap, h.lo, fun k hn => Nat.lt_of_lt_of_le (h.nn k hn) ht.size⟩
  · obtain ⟨q0, q1⟩ := r3 k hk
    by_cases hki : k = i
    · subst hki
      rw [upd_self, Array.getElem?_setIfInBounds, if_pos rfl, if_pos (by omega), Array.getElem?_setIfInBounds, if_neg (by omega)]
      exact ⟨rfl, q1⟩
    · rw [upd_other _ _ _ hki, Array.getElem?_setIfInBounds, if_neg (by omega), Array.getElem?_setIfInBounds, if_neg (by omega)]
      exact ⟨q0, q1⟩
  · obtain ⟨s, r, hc⟩ := h.ch k hk
    exact ⟨s, r, (ht'.block _ (h.clt hk) (h.cne hk).1).trans hc⟩
  · exact ⟨(ht'.block _ (h.xne hk hm).1 (h.xne hk hm).2.1).trans (h.bl k hk m hm).1, (h.bl k hk m hm).2⟩
/-- a message is put behind the others of port i -/
theorem WW.push (h : WW B w l b n C G Q N) {i : Nat} (hi : i < n) {w1 : World} (hb : Below w.heap.size w w1) (m : Msg) (hX : w.heap.size ≤ m.X) (hx : w1.heap[m.X]? = some (.cells (bv m.bs) 5 (0, 0))) (hl : m.bs.length ≤ 2048) (hB : Bytes m.bs) (hq : (Q i).length < 16) (s r : Nat) :
    WW B (w1.setChan (C i) 16 (ev (Q i ++ [m])) false s r false) l b n C G (upd Q i (Q i ++ [m])) N ∧ Trn (WS b n C) w (w1.setChan (C i) 16 (ev (Q i ++ [m])) false s r false) := by
  have ht := trn_setChan (WS b n C) w1 (C i) 16 (ev (Q i ++ [m])) false s r false (.inr ⟨i, hi, rfl⟩)
  have ht' := trn_setChan (fun k => k = C i) w1 (C i) 16 (ev (Q i ++ [m])) false s r false rfl
  obtain ⟨cur, r1, r2, r3⟩ := h.rows
  have up : ∀ {k : Nat}, k < w.heap.size → k < w1.heap.size := fun h => Nat.lt_of_lt_of_le h hb.size
  have kp : ∀ k, k < w.heap.size → k ≠ C i → (w1.setChan (C i) 16 (ev (Q i ++ [m])) false s r false).heap[k]? = w.heap[k]? := fun k hk hne => (ht'.block k (up hk) hne).trans (hb.block k hk)
  have xn : ∀ k, k < n → ∀ m' ∈ upd Q i (Q i ++ [m]) k, m' = m ∧ k = i ∨ m' ∈ Q k := fun k hk m' hm' => by
    by_cases hki : k = i
    · subst hki
      rw [upd_self] at hm'
      rcases List.mem_append.1 hm' with h' | h'
      · exact .inr h'
      · exact .inl ⟨by simpa using h', rfl⟩
    · rw [upd_other _ _ _ hki] at hm'
      exact .inr hm'
  refine ⟨⟨(kp l h.lt (h.cne hi).2.symm).trans h.ob, ⟨cur, (kp b h.blt (h.cne hi).1.symm).trans r1, r2, r3⟩, fun k hk => ?_, h.inj, h.n1, h.n32, fun k hk => ?_, fun k hk m' hm' => ?_, fun k hk => ?_, fun k j hk hj hkj m1 h1 m2 h2 => ?_, h.lo, fun k hn => Nat.lt_of_lt_of_le (up (h.nn k hn)) ht.size⟩, (Trn.of_below hb).trans ht⟩
  · by_cases hki : k = i
    · subst hki; rw [upd_self]; exact ⟨s, r, heap_setChan w1 _ _ _ _ _ _ _ (up (h.clt hk))⟩
    · rw [upd_other _ _ _ hki]
      obtain ⟨s', r', hc⟩ := h.ch k hk
      exact ⟨s', r', (kp _ (h.clt hk) (fun e => hki (h.inj k i hk hi e))).trans hc⟩
  · by_cases hki : k = i
    · subst hki; rw [upd_self]; simp; omega
    · rw [upd_other _ _ _ hki]; exact h.len k hk
  · rcases xn k hk m' hm' with ⟨rfl, rfl⟩ | h'
    · refine ⟨(ht'.block _ (lt_of_heap hx) ?_).trans hx, fun e => ?_, ?_, hl, hB⟩
      · have := h.clt hk; omega
      · have := h.nn _ e; omega
      · have := h.bw; omega
    · exact ⟨(kp _ (h.xne hk h').1 ((h.xne hk h').2.2.2 i hi)).trans (h.bl k hk m' h').1, (h.bl k hk m' h').2⟩
  · by_cases hki : k = i
    · subst hki
      rw [upd_self, List.map_append, List.nodup_append]
      refine ⟨h.nd k hk, by simp, fun a ha c hc => ?_⟩
      obtain ⟨m1, h1, rfl⟩ := List.mem_map.1 ha
      simp at hc
      subst hc
      have := (h.xne hk h1).1
      omega
    · rw [upd_other _ _ _ hki]; exact h.nd k hk
  · rcases xn k hk m1 h1 with ⟨rfl, rfl⟩ | h1'
    · rcases xn j hj m2 h2 with ⟨rfl, rfl⟩ | h2'
      · omega
      · have := (h.xne hj h2').1; omega
    · rcases xn j hj m2 h2 with ⟨rfl, rfl⟩ | h2'
      · have := (h.xne hk h1').1; omega
      · exact h.ap k j hk hj hkj m1 h1' m2 h2'
/-- the oldest of port i is taken -/
theorem WW.pop (h : WW B w l b n C G Q N) {i : Nat} (hi : i < n) (m : Msg) (q : List Msg) (hq : Q i = m :: q) (s r : Nat) :
    WW B (w.setChan (C i) 16 (ev q) false s r false) l b n C G (upd Q i q) (fun k => N k ∨ k = m.X) ∧ Trn (WS b n C) w (w.setChan (C i) 16 (ev q) false s r false) ∧ (w.setChan (C i) 16 (ev q) false s r false).heap[m.X]? = some (.cells (bv m.bs) 5 (0, 0)) ∧ B ≤ m.X ∧ m.bs.length ≤ 2048 ∧ Bytes m.bs := by
  have ht := trn_setChan (WS b n C) w (C i) 16 (ev q) false s r false (.inr ⟨i, hi, rfl⟩)
  have ht' := trn_setChan (fun k => k = C i) w (C i) 16 (ev q) false s r false rfl
  obtain ⟨cur, r1, r2, r3⟩ := h.rows
  have hm : m ∈ Q i := by rw [hq]; simp
  have sub : ∀ k, k < n → ∀ m' ∈ upd Q i q k, m' ∈ Q k ∧ m'.X ≠ m.X := fun k hk m' hm' => by
    by_cases hki : k = i
    · subst hki
      rw [upd_self] at hm'
      refine ⟨by rw [hq]; simp [hm'], ?_⟩
      have := h.nd k hk
      rw [hq, List.map_cons, List.nodup_cons] at this
      exact fun e => this.1 (List.mem_map.2 ⟨m', hm', e⟩)
    · rw [upd_other _ _ _ hki] at hm'
      exact ⟨hm', h.ap k i hk hi hki m' hm' m hm⟩
  refine ⟨⟨(ht'.block l h.lt (h.cne hi).2.symm).trans h.ob, ⟨cur, (ht'.block b h.blt (h.cne hi).1.symm).trans r1, r2, r3⟩, fun k hk => ?_, h.inj, h.n1, h.n32, fun k hk => ?_, fun k hk m' hm' => ?_, fun k hk => ?_, fun k j hk hj hkj m1 h1 m2 h2 => h.ap k j hk hj hkj m1 (sub k hk m1 h1).1 m2 (sub j hj m2 h2).1, h.lo, fun k hn => ?_⟩, ht, (ht'.block _ (h.xne hi hm).1 ((h.xne hi hm).2.2.2 i hi)).trans (h.bl i hi m hm).1, (h.bl i hi m hm).2.2⟩
  · by_cases hki : k = i
    · subst hki; rw [upd_self]; exact ⟨s, r, heap_setChan w _ _ _ _ _ _ _ (h.clt hk)⟩
    · rw [upd_other _ _ _ hki]
      obtain ⟨s', r', hc⟩ := h.ch k hk
      exact ⟨s', r', (ht'.block _ (h.clt hk) (fun e => hki (h.inj k i hk hi e))).trans hc⟩
  · by_cases hki : k = i
    · subst hki
      have := h.len k hk
      rw [hq] at this
      simp at this
      rw [upd_self]; omega
    · rw [upd_other _ _ _ hki]; exact h.len k hk
  · obtain ⟨h1, h2⟩ := sub k hk m' hm'
    refine ⟨(ht'.block _ (h.xne hk h1).1 ((h.xne hk h1).2.2.2 i hi)).trans (h.bl k hk m' h1).1, fun e => ?_, (h.bl k hk m' h1).2.2⟩
    rcases e with e | e
    · exact (h.bl k hk m' h1).2.1 e
    · exact h2 e
  · by_cases hki : k = i
    · subst hki
      have := h.nd k hk
      rw [hq, List.map_cons, List.nodup_cons] at this
      rw [upd_self]; exact this.2
    · rw [upd_other _ _ _ hki]; exact h.nd k hk
  · refine Nat.lt_of_lt_of_le ?_ ht.size
    rcases hn with hn | rfl
    · exact h.nn k hn
    · exact (h.xne hi hm).1
end
/-- the same by what is told alone: A i are the messages that wait at port i -/
def WX (B : Nat) (w : World) (l b n : Nat) (C : Nat → Nat) (G : Nat → Int) (A : Nat → List (Int × List Int)) (N : Nat → Prop) : Prop := ∃ Q, WW B w l b n C G Q N ∧ ∀ i, i < n → (Q i).map Msg.ab = A i
section
variable {B : Nat} {w w' : World} {l b n : Nat} {C : Nat → Nat} {G : Nat → Int} {A : Nat → List (Int × List Int)} {N : Nat → Prop}
theorem WX.len (h : WX B w l b n C G A N) {i : Nat} (hi : i < n) : (A i).length ≤ 16 := by
  obtain ⟨Q, h, e⟩ := h
  have := h.len i hi
  rw [← e i hi, List.length_map]; exact this
theorem WX.below (h : WX B w l b n C G A N) (hk : Below w.heap.size w w') : WX B w' l b n C G A N := by
  obtain ⟨Q, h, e⟩ := h
  exact ⟨Q, h.below hk, e⟩
theorem WX.less {N' : Nat → Prop} (h : WX B w l b n C G A N) (hn : ∀ k, N' k → N k) : WX B w l b n C G A N' := by
  obtain ⟨Q, h, e⟩ := h
  exact ⟨Q, h.less hn, e⟩
theorem WX.fresh (h : WX B w l b n C G A N) (hk : Below w.heap.size w w') {X : Nat} (h1 : w.heap.size ≤ X) (h2 : X < w'.heap.size) : WX B w' l b n C G A (fun k => N k ∨ k = X) := by
  obtain ⟨Q, h, e⟩ := h
  exact ⟨Q, h.fresh hk h1 h2, e⟩
theorem WX.to (h : WX B w l b n C G A N) (k : Trn (WS b n C) w w') : Below B w w' := by
  obtain ⟨Q, h, e⟩ := h
  exact h.to k
theorem WX.bw (h : WX B w l b n C G A N) : B ≤ w.heap.size := by
  obtain ⟨Q, h, e⟩ := h
  exact h.bw
/-- a block that is no waiting message's, no cells of the wire's own, may turn -/
theorem WX.turn (h : WX B w l b n C G A N) {X : Nat} (hN : N X) {cs : Array Value} (hX : w.heap[X]? = some (.cells cs 5 (0, 0))) (ht : Trn (fun k => k = X) w w') : WX B w' l b n C G A N := by
  obtain ⟨Q, h, e⟩ := h
  refine ⟨Q, h.keep ht.size fun k hk hs => ht.block k hk ?_, e⟩
  obtain ⟨cur, h1, _⟩ := h.rows
  rcases hs with rfl | (rfl | ⟨i, hi, rfl⟩) | ⟨i, hi, m, hm, rfl⟩
  · exact ne_typ h.ob hX (by decide)
  · exact ne_typ h1 hX (by decide)
  · obtain ⟨s, r, hc⟩ := h.ch i hi
    exact (ne_chan hX hc).symm
  · exact fun e => (h.bl i hi m hm).2.1 (e ▸ hN)
/-- blocks that are neither of the wire's may turn -/
theorem WX.other (h : WX B w l b n C G A N) {S : Nat → Prop} (ht : Trn S w w') (hS : ∀ k, S k → ∃ cs t, w.heap[k]? = some (.cells cs t (0, 0)) ∧ t ≠ 60 ∧ t ≠ 67 ∧ t ≠ 5) : WX B w' l b n C G A N := by
  obtain ⟨Q, h, e⟩ := h
  refine ⟨Q, h.keep ht.size fun k hk hs => ht.block k hk fun hk' => ?_, e⟩
  obtain ⟨cs, t, ht, h60, h67, h5⟩ := hS k hk'
  obtain ⟨cur, h1, _⟩ := h.rows
  rcases hs with rfl | (rfl | ⟨i, hi, rfl⟩) | ⟨i, hi, m, hm, rfl⟩
  · exact ne_typ ht h.ob h60 rfl
  · exact ne_typ ht h1 h67 rfl
  · obtain ⟨s, r, hc⟩ := h.ch i hi
    exact ne_chan ht hc rfl
  · exact ne_typ ht (h.bl i hi m hm).1 h5 rfl
end
end Go.Proofs.Ytnjkbpjkaignbaa
