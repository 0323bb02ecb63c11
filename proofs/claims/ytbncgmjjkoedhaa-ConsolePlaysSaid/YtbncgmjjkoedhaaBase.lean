/-
  A console in the heap: a block of five cells, a row of the bytes that wait, a row of those that are written.
-/
import Derived.Test.YtbncgmjjkoedhaaByt
import Derived.Deep.RegionLaw
namespace Go.Proofs.Ytbncgmjjkoedhaa
open Go.RowKit
set_option linter.unusedVariables false
set_option maxRecDepth 100000

theorem cell_at {w : World} {b : Nat} {cs : Array Value} {t : TypeId} (h : w.heap[b]? = some (.cells cs t (0, 0))) (o : Nat) : w.cell? ⟨b, o, none⟩ = cs[o]? := by simp [World.cell?, h]
/-- what has turned between two worlds: blocks of S, and new ones -/
structure Trn (S : Nat → Prop) (w w' : World) : Prop where
  os : w'.os = w.os
  tape : w'.tape = w.tape
  output : w'.output = w.output
  size : w.heap.size ≤ w'.heap.size
  block : ∀ k, k < w.heap.size → ¬ S k → w'.heap[k]? = w.heap[k]?
theorem Trn.refl (S : Nat → Prop) (w : World) : Trn S w w := ⟨rfl, rfl, rfl, Nat.le_refl _, fun _ _ _ => rfl⟩
theorem Trn.trans {S : Nat → Prop} {a b c : World} (h : Trn S a b) (k : Trn S b c) : Trn S a c :=
  ⟨k.os.trans h.os, k.tape.trans h.tape, k.output.trans h.output, Nat.le_trans h.size k.size, fun i hi hr => (k.block i (Nat.lt_of_lt_of_le hi h.size) hr).trans (h.block i hi hr)⟩
theorem Trn.below {S : Nat → Prop} {a b : World} (h : Trn S a b) {B : Nat} (hB : ∀ k, S k → B ≤ k) (hs : B ≤ a.heap.size) : Below B a b :=
  ⟨h.os, h.tape, h.output, h.size, fun k hk => h.block k (by omega) (fun hk' => by have := hB k hk'; omega)⟩
theorem Trn.drew {S : Nat → Prop} {a b : World} (h : Trn S a b) : Trn S a b.drew := ⟨h.os, h.tape, h.output, h.size, h.block⟩
theorem Trn.of_below {S : Nat → Prop} {a b : World} (h : Below a.heap.size a b) : Trn S a b := ⟨h.os, h.tape, h.output, h.size, fun k hk _ => h.block k hk⟩
theorem Trn.mono {S S' : Nat → Prop} {a b : World} (h : Trn S a b) (hs : ∀ k, k < a.heap.size → S k → S' k) : Trn S' a b := ⟨h.os, h.tape, h.output, h.size, fun k hk hn => h.block k hk fun e => hn (hs k hk e)⟩
theorem Trn.of_grown {S : Nat → Prop} {a b : World} {row : Option Nat} (h : a.grownBy b row) (hs : ∀ k, row = some k → S k) : Trn S a b :=
  ⟨h.os, h.tape, h.output, h.size, fun k hk hn => h.block k hk fun e => hn (hs k e.symm)⟩
theorem trn_setCell (S : Nat → Prop) {w : World} {b : Nat} {cs : Array Value} {t : TypeId} (h : w.heap[b]? = some (.cells cs t (0, 0))) (hS : S b) (o : Nat) (v : Value) : Trn S w (w.setCell ⟨b, o, none⟩ v) := by
  rw [setCell_eq_setRow w b o cs t (0, 0) v h]
  exact ⟨rfl, rfl, rfl, by simp [World.setRow], fun k hk hne => setRow_other w b k _ (fun e => hne (by rw [e]; exact hS))⟩
theorem heap_setCell {w : World} {b : Nat} {cs : Array Value} {t : TypeId} (h : w.heap[b]? = some (.cells cs t (0, 0))) (o : Nat) (v : Value) : (w.setCell ⟨b, o, none⟩ v).heap[b]? = some (.cells (cs.setIfInBounds o v) t (0, 0)) := by
  rw [setCell_eq_setRow w b o cs t (0, 0) v h]
  exact setRow_heap w b cs _ t _ h
theorem ne_typ {w : World} {a b : Nat} {c d : Array Value} {s t : TypeId} (h : w.heap[a]? = some (.cells c s (0, 0))) (k : w.heap[b]? = some (.cells d t (0, 0))) (hn : s ≠ t) : a ≠ b := fun e => by
  rw [e, k] at h
  simp at h
  exact hn h.2.symm
def bv (bs : List Int) : List Value := bs.map (Value.int .u8)
theorem own_typ {w : World} {base n : Nat} {v : Value} {xs : List Value} (h : w.ownsRow base 5 1 v n xs) {g : Nat} (hg : v.ownBlock = some g) : ∃ cur, w.heap[g]? = some (.cells cur 5 (0, 0)) := by
  rcases h.2 with ⟨rfl, _⟩ | ⟨g', cap, cur, rfl, _, hc, _⟩
  · cases hg
  · cases hg; exact ⟨cur, hc⟩
/-- a console of block c: its two rows' slices V, U, what waits W, what is written O, how many were dropped, and read; N: blocks that are none of its own -/
structure CC (N : Nat → Prop) (w : World) (c : Nat) (V U : Value) (W O : List Int) (d r : Int) : Prop where
  ob : w.heap[c]? = some (.cells #[.bool true, V, U, .int .i64 d, .int .i64 r] 43 (0, 0))
  rw : w.ownsRow 0 5 1 V W.length (bv W)
  ro : w.ownsRow 0 5 1 U O.length (bv O)
  ap : ∀ g, V.ownBlock = some g → U.ownBlock ≠ some g
  bw : Bytes W
  bo : Bytes O
  lw : W.length ≤ 4096
  lo : O.length ≤ 1048576
  nn : ∀ k, N k → k < w.heap.size ∧ k ≠ c ∧ V.ownBlock ≠ some k ∧ U.ownBlock ≠ some k
  wr : wrap64 r = r
  wd : wrap64 d = d
/-- a console by what it tells -/
def CX (N : Nat → Prop) (w : World) (c : Nat) (W O : List Int) (d r : Int) : Prop := ∃ V U, CC N w c V U W O d r
section
variable {N : Nat → Prop} {w w' : World} {c : Nat} {V U : Value} {W O : List Int} {d r : Int}
theorem CC.lt (h : CC N w c V U W O d r) : c < w.heap.size := lt_of_heap h.ob
theorem CC.vne (h : CC N w c V U W O d r) : V.ownBlock ≠ some c := fun e => by
  obtain ⟨cur, hc⟩ := own_typ h.rw e
  exact ne_typ hc h.ob (by decide) rfl
theorem CC.une (h : CC N w c V U W O d r) : U.ownBlock ≠ some c := fun e => by
  obtain ⟨cur, hc⟩ := own_typ h.ro e
  exact ne_typ hc h.ob (by decide) rfl
theorem CC.vlt (h : CC N w c V U W O d r) {g : Nat} (e : V.ownBlock = some g) : g < w.heap.size := by
  obtain ⟨cur, hc⟩ := own_typ h.rw e
  exact lt_of_heap hc
theorem CC.ult (h : CC N w c V U W O d r) {g : Nat} (e : U.ownBlock = some g) : g < w.heap.size := by
  obtain ⟨cur, hc⟩ := own_typ h.ro e
  exact lt_of_heap hc
theorem own_kept {w w' : World} {base n : Nat} {v : Value} {xs : List Value} (h : w.ownsRow base 5 1 v n xs) (hk : ∀ g, v.ownBlock = some g → w'.heap[g]? = w.heap[g]?) : w'.ownsRow base 5 1 v n xs := by
  refine ⟨h.1, ?_⟩
  rcases h.2 with h' | ⟨g, cap, cur, rfl, h1, h2, h3⟩
  · exact .inl h'
  · exact .inr ⟨g, cap, cur, rfl, h1, (hk g rfl).trans h2, h3⟩
theorem CC.keep (h : CC N w c V U W O d r) (hs : w.heap.size ≤ w'.heap.size) (hk : ∀ k, k = c ∨ V.ownBlock = some k ∨ U.ownBlock = some k → w'.heap[k]? = w.heap[k]?) : CC N w' c V U W O d r :=
  ⟨(hk c (.inl rfl)).trans h.ob, own_kept h.rw fun g e => hk g (.inr (.inl e)), own_kept h.ro fun g e => hk g (.inr (.inr e)), h.ap, h.bw, h.bo, h.lw, h.lo, fun k e => ⟨Nat.lt_of_lt_of_le (h.nn k e).1 hs, (h.nn k e).2⟩, h.wr, h.wd⟩
theorem CC.own_lt (h : CC N w c V U W O d r) {k : Nat} (e : k = c ∨ V.ownBlock = some k ∨ U.ownBlock = some k) : k < w.heap.size := by
  rcases e with rfl | e | e
  · exact h.lt
  · exact h.vlt e
  · exact h.ult e
/-- others' blocks turn -/
theorem CC.other (h : CC N w c V U W O d r) (ht : Trn N w w') : CC N w' c V U W O d r :=
  h.keep ht.size fun k e => ht.block k (h.own_lt e) fun hN => by
    have := h.nn k hN
    rcases e with e | e | e
    · exact this.2.1 e
    · exact this.2.2.1 e
    · exact this.2.2.2 e
theorem CC.less {N' : Nat → Prop} (h : CC N w c V U W O d r) (hn : ∀ k, N' k → N k) : CC N' w c V U W O d r :=
  ⟨h.ob, h.rw, h.ro, h.ap, h.bw, h.bo, h.lw, h.lo, fun k e => h.nn k (hn k e), h.wr, h.wd⟩
/-- new blocks are none of its own -/
theorem CC.fresh {B : Nat} (h : CC N w c V U W O d r) (hB : w.heap.size ≤ B) (ht : Trn N w w') : CC (fun k => N k ∨ (B ≤ k ∧ k < w'.heap.size)) w' c V U W O d r := by
  have h' := h.other ht
  refine ⟨h'.ob, h'.rw, h'.ro, h'.ap, h'.bw, h'.bo, h'.lw, h'.lo, fun k e => ?_, h'.wr, h'.wd⟩
  rcases e with e | e
  · exact h'.nn k e
  · exact ⟨e.2, fun e' => by have := h.lt; omega, fun e' => by have := h.vlt e'; omega, fun e' => by have := h.ult e'; omega⟩
theorem CX.other (h : CX N w c W O d r) (ht : Trn N w w') : CX N w' c W O d r := let ⟨V, U, k⟩ := h; ⟨V, U, k.other ht⟩
theorem CX.less {N' : Nat → Prop} (h : CX N w c W O d r) (hn : ∀ k, N' k → N k) : CX N' w c W O d r := let ⟨V, U, k⟩ := h; ⟨V, U, k.less hn⟩
theorem CX.fresh {B : Nat} (h : CX N w c W O d r) (hB : w.heap.size ≤ B) (ht : Trn N w w') : CX (fun k => N k ∨ (B ≤ k ∧ k < w'.heap.size)) w' c W O d r := let ⟨V, U, k⟩ := h; ⟨V, U, k.fresh hB ht⟩
theorem CX.below (h : CX N w c W O d r) (hb : Below w.heap.size w w') : CX N w' c W O d r := h.other (.of_below hb)
end
/-- a row of the call's own as a slice of its numbers -/
theorem own_sl {w : World} {base n : Nat} {V : Value} {zs : List Int} (h : w.ownsRow base 5 1 V n (bv zs)) (hB : Bytes zs) : ∃ a cap, V = .slice a n cap ∧ SL w a n zs ∧ n ≤ cap ∧ cap ≤ maxLen ∧ (a = none → n = 0 ∧ cap = 0) := by
  have hl : zs.length = n := by have := h.1; simpa [bv] using this
  have h' := h
  rcases h.2 with ⟨rfl, rfl⟩ | ⟨g, cap, cur, rfl, h1, h2, h3, h4, h5, h6⟩
  · exact ⟨none, 0, rfl, ⟨hl, hB, .inl rfl⟩, Nat.le_refl _, by decide, fun _ => ⟨rfl, rfl⟩⟩
  · exact ⟨some ⟨g, 0, none⟩, cap, rfl, SL.own h' hB, h3, h4, fun e => by cases e⟩
theorem SL.len0 {w : World} {a : Option Addr} : SL w a 0 [] := ⟨rfl, by intro i; simp, .inl rfl⟩
/-- its first ones -/
theorem SL.first {w : World} {a : Option Addr} {len : Nat} {zs : List Int} (h : SL w a len zs) {n : Nat} (hn : n ≤ len) : SL w a n (zs.take n) := by
  obtain ⟨h1, h2, h3⟩ := h
  refine ⟨by simp; omega, by have := bytes_mid h2 0 n; simpa using this, ?_⟩
  rcases h3 with h3 | ⟨b, off, rfl, hb, hc⟩
  · exact .inl (by omega)
  · exact .inr ⟨b, off, rfl, hb, fun i hi => by rw [hc i (by omega)]; simp [List.getD, hi]⟩
theorem bytes_take {zs : List Int} (h : Bytes zs) (n : Nat) : Bytes (zs.take n) := by have := bytes_mid h 0 n; simpa using this
theorem bytes_drop {zs : List Int} (h : Bytes zs) (n : Nat) : Bytes (zs.drop n) := by
  have := bytes_mid h n zs.length
  rwa [List.take_of_length_le (by simp)] at this
theorem bytes_app {xs ys : List Int} (h : Bytes xs) (k : Bytes ys) : Bytes (xs ++ ys) := by
  intro i
  rcases Nat.lt_or_ge i xs.length with hi | hi
  · have := h i
    simpa [List.getD, List.getElem?_append, hi] using this
  · have := k (i - xs.length)
    simpa [List.getD, List.getElem?_append, Nat.not_lt.2 hi] using this
end Go.Proofs.Ytbncgmjjkoedhaa
