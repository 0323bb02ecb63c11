/-
  Both consoles in one world, with a call (block A) and a row of bytes (a, n).
-/
import Derived.Test.YtbncgmjjkoedhaaPa
namespace Go.Proofs.Ytbncgmjjkoedhaa
open Go.RowKit
set_option linter.unusedVariables false
set_option maxRecDepth 20000
/-- a row of bytes of the law's own -/
def Row (w0 w : World) (N : Nat → Prop) (a : Option Addr) (n : Nat) : Prop := n = 0 ∨ ∃ X, a = some ⟨X, 0, none⟩ ∧ IR w X n ∧ N X ∧ w0.heap.size ≤ X
structure PY (w0 w : World) (c b : Nat) (N : Nat → Prop) (A : Nat) (x : Ac) (a : Option Addr) (n : Nat) (P Q : CS) : Prop where
  px : PX w0 w c b N P Q
  ac : w.heap[A]? = some (.cells x.cs.toArray 30 (0, 0))
  nA : N A
  ir : Row w0 w N a n
section
variable {w0 w w' : World} {c b : Nat} {N : Nat → Prop} {A : Nat} {x : Ac} {a : Option Addr} {n : Nat} {P Q : CS}
theorem PY.cells (h : PY w0 w c b N A x a n P Q) : w.cell? ⟨A, 0, none⟩ = some (.int .i64 x.kd) ∧ w.cell? ⟨A, 1, none⟩ = some (.int .i64 x.fr) ∧ w.cell? ⟨A, 2, none⟩ = some (.int .i64 x.to) ∧ w.cell? ⟨A, 3, none⟩ = some (.slice x.a x.len x.cap) ∧ A < w.heap.size := by
  refine ⟨?_, ?_, ?_, ?_, lt_of_heap h.ac⟩
  all_goals
    rw [cell_at h.ac]
    rfl
theorem PY.prog (h : PY w0 w c b N A x a n P Q) {P' : CS} (k : PX w0 w' c b N P' Q) (kp : ∀ k, N k → w'.heap[k]? = w.heap[k]?) : PY w0 w' c b N A x a n P' Q := by
  refine ⟨k, (kp A h.nA).trans h.ac, h.nA, ?_⟩
  rcases h.ir with h0 | ⟨X, rfl, hi, hN, hl⟩
  · exact .inl h0
  · exact .inr ⟨X, rfl, hi.keep (kp X hN), hN, hl⟩
theorem PY.doc (h : PY w0 w c b N A x a n P Q) {Q' : CS} (k : PX w0 w' c b N P Q') (kp : ∀ k, k < w.heap.size → k ≠ b → w'.heap[k]? = w.heap[k]?) : PY w0 w' c b N A x a n P Q' := by
  refine ⟨k, (kp A (lt_of_heap h.ac) (ne_typ h.ac h.px.rc.ob (by decide))).trans h.ac, h.nA, ?_⟩
  rcases h.ir with h0 | ⟨X, rfl, hi, hN, hl⟩
  · exact .inl h0
  · exact .inr ⟨X, rfl, hi.keep (kp X hi.lt (hi.ne h.px.rc.ob (by decide))), hN, hl⟩
theorem PY.below (h : PY w0 w c b N A x a n P Q) (hb : Below w.heap.size w w') : PY w0 w' c b N A x a n P Q := by
  refine ⟨h.px.below hb, (hb.block A (lt_of_heap h.ac)).trans h.ac, h.nA, ?_⟩
  rcases h.ir with h0 | ⟨X, rfl, hi, hN, hl⟩
  · exact .inl h0
  · exact .inr ⟨X, rfl, hi.keep (hb.block X hi.lt), hN, hl⟩
theorem PY.input (h : PY w0 w c b N A x a n P Q) {a' : Option Addr} {len cap : Nat} {zs : List Int} (hs : SL w a' len zs) (hnil : a' = none → len = 0 ∧ cap = 0) (hlc : len ≤ cap) (hlen : len ≤ 140737488351232) :
    Calls Try.prog 8 #[.pointer (some ⟨c, 0, none⟩), .slice a' len cap] w fun e w' => e = .returned (.tuple #[.int .i64 (tkn (4096 - P.W.length) len), .int .i64 0]) ∧ PY w0 w' c b N A x a n (P.inp len zs) Q :=
  (h.px.input hs hnil hlc hlen).mono fun e y ⟨he, hy, kp⟩ => ⟨he, h.prog hy kp⟩
theorem PY.write (h : PY w0 w c b N A x a n P Q) {a' : Option Addr} {len cap : Nat} {zs : List Int} (hs : SL w a' len zs) (hnil : a' = none → len = 0 ∧ cap = 0) (hlc : len ≤ cap) (hlen : len ≤ 140737488351232) :
    Calls Try.prog 12 #[.pointer (some ⟨c, 0, none⟩), .slice a' len cap] w fun e w' => e = .returned (.tuple #[.int .i64 (tkn (1048576 - P.O.length) len), .int .i64 0]) ∧ PY w0 w' c b N A x a n (P.wri len zs) Q :=
  (h.px.write hs hnil hlc hlen).mono fun e y ⟨he, hy, kp⟩ => ⟨he, h.prog hy kp⟩
theorem PY.read (h : PY w0 w c b N A x a n P Q) (m : Int) (hm : m < 9223372036854775808) :
    Calls Try.prog 10 #[.pointer (some ⟨c, 0, none⟩), .int .i64 m] w fun e w' => ∃ a' cp, e = .returned (.slice a' (rk P.W m) cp) ∧ SL w' a' (rk P.W m) (P.W.take (rk P.W m)) ∧ PY w0 w' c b N A x a n (P.rd m) Q :=
  (h.px.read m hm).mono fun e y ⟨a', cp, he, hs, hy, kp⟩ => ⟨a', cp, he, hs, h.prog hy kp⟩
theorem PY.rinput (h : PY w0 w c b N A x a n P Q) {a' : Option Addr} {len cap : Nat} {zs : List Int} (hs : SL w0 a' len zs) (hlc : len ≤ cap) (hlen : len ≤ 140737488351232) :
    Calls Try.prog 9 #[.pointer (some ⟨b, 0, none⟩), .slice a' len cap] w fun e w' => e = .returned (.int .i64 (tkn (4096 - Q.W.length) len)) ∧ PY w0 w' c b N A x a n P (Q.inp len zs) :=
  (h.px.rinput (hs.below h.px.bel) hlc hlen).mono fun e y ⟨he, hy, kp⟩ => ⟨he, h.doc hy kp⟩
theorem PY.rwrite (h : PY w0 w c b N A x a n P Q) {a' : Option Addr} {len cap : Nat} {zs : List Int} (hs : SL w0 a' len zs) (hlc : len ≤ cap) (hlen : len ≤ 140737488351232) :
    Calls Try.prog 13 #[.pointer (some ⟨b, 0, none⟩), .slice a' len cap] w fun e w' => e = .returned (.int .i64 (tkn (1048576 - Q.O.length) len)) ∧ PY w0 w' c b N A x a n P (Q.wri len zs) :=
  (h.px.rwrite (hs.below h.px.bel) hlc hlen).mono fun e y ⟨he, hy, kp⟩ => ⟨he, h.doc hy kp⟩
/-- Take; bytes that stood elsewhere stay -/
theorem PY.rtake (h : PY w0 w c b N A x a n P Q) (m : Int) (hm : m < 9223372036854775808) (hr : wrap64 Q.r = Q.r) {a' : Option Addr} {len : Nat} {zs : List Int} (hs : SL w a' len zs) :
    Calls Try.prog 11 #[.pointer (some ⟨b, 0, none⟩), .int .i64 m] w fun e w' => e = .returned (.string (strOfNums (Q.W.take (rk Q.W m)))) ∧ PY w0 w' c b N A x a n P (Q.rd m) ∧ SL w' a' len zs :=
  (h.px.rtake m hm hr).mono fun e y ⟨he, hy, kp⟩ => ⟨he, h.doc hy kp, hs.1, hs.2.1, by
    rcases hs.2.2 with h0 | ⟨g, off, rfl, hg, hc⟩
    · exact .inl h0
    · rcases Nat.eq_zero_or_pos len with h0 | h0
      · exact .inl h0
      · have hgb : g ≠ b := fun e => by
          have e1 := hc 0 h0
          rw [e] at e1
          by_cases ho : off + 0 < 5
          · obtain ⟨r0, r1, r2, r3, r4⟩ := h.px.rc.cells
            obtain o | o | o | o | o : off = 0 ∨ off = 1 ∨ off = 2 ∨ off = 3 ∨ off = 4 := by omega
            all_goals
              subst o
              simp_all
          · rw [cell_at h.px.rc.ob, Array.getElem?_eq_none (by simpa using Nat.le_of_not_lt ho)] at e1
            cases e1
        have hk := kp g hg hgb
        exact .inr ⟨g, off, rfl, (Array.getElem?_eq_some_iff.1 (by rw [hk]; exact Array.getElem?_eq_getElem hg)).1, fun i hi => by rw [World.cell?_of_block (a := ⟨g, off + i, none⟩) hk]; exact hc i hi⟩⟩
/-- the row is written -/
theorem PY.lturn (h : PY w0 w c b N A x a n P Q) {j : Nat} (hj : j < n) : ∃ X, a = some ⟨X, 0, none⟩ ∧ X < w.heap.size ∧ (∃ z, w.cell? ⟨X, j, none⟩ = some (.int .u8 z)) ∧ w.frozen? ⟨X, j, none⟩ = false ∧ ∀ z, PY w0 (w.setCell ⟨X, j, none⟩ (.int .u8 z)) c b N A x a n P Q := by
  rcases h.ir with h0 | ⟨X, rfl, hi, hN, hl⟩
  · omega
  · refine ⟨X, rfl, hi.lt, (hi.at hj).1, (hi.at hj).2, fun z => ?_⟩
    obtain ⟨k1, k2⟩ := hi.set hj z
    exact ⟨h.px.row hi hN hl k2, (k2.block A (lt_of_heap h.ac) fun e => hi.ne h.ac (by decide) e.symm).trans h.ac, h.nA, .inr ⟨X, rfl, k1, hN, hl⟩⟩
theorem PY.less {N' : Nat → Prop} (h : PY w0 w c b N A x a n P Q) (hn : ∀ k, N' k → N k) (hb : N' b) (ho : ∀ k, k < w0.heap.size → N' k) (hA : N' A) : PY w0 w c b N' A x none 0 P Q := ⟨h.px.less hn hb ho, h.ac, hA, .inl rfl⟩
/-- the row is made -/
theorem PY.open (h : PY w0 w c b N A x a n P Q) (hb : Below w.heap.size w w') {a' : Option Addr} {m : Nat} (hr : m = 0 ∨ ∃ X, a' = some ⟨X, 0, none⟩ ∧ IR w' X m ∧ w.heap.size ≤ X) : PY w0 w' c b (fun k => N k ∨ (w.heap.size ≤ k ∧ k < w'.heap.size)) A x a' m P Q := by
  refine ⟨h.px.fresh hb, (hb.block A (lt_of_heap h.ac)).trans h.ac, .inl h.nA, ?_⟩
  rcases hr with h0 | ⟨X, rfl, hi, hl⟩
  · exact .inl h0
  · exact .inr ⟨X, rfl, hi, .inr ⟨hl, hi.lt⟩, Nat.le_trans h.px.bel.size hl⟩
end
theorem own_row {w : World} {B n : Nat} {v : Value} {ys : List Int} (h : w.ownsRow B 5 1 v n (bv ys)) (hB : Bytes ys) : ∃ a cp, v = .slice a n cp ∧ SL w a n ys ∧ n ≤ cp ∧ (a = none → n = 0 ∧ cp = 0) ∧ (n = 0 ∨ ∃ X, a = some ⟨X, 0, none⟩ ∧ IR w X n ∧ B ≤ X) := by
  obtain ⟨a, cp, rfl, hs, hc, _, hn⟩ := own_sl h hB
  refine ⟨a, cp, rfl, hs, hc, hn, ?_⟩
  rcases h.2 with ⟨e, h0⟩ | ⟨g, cap, cur, e, hb, hg, _, _, _, ht⟩
  · exact .inl h0
  · cases e
    refine .inr ⟨g, rfl, ⟨cur, hg, fun i hi => ?_⟩, hb⟩
    have hl : ys.length = n := by have := h.1; simpa [bv] using this
    have : (cur.toList.take (n * 1))[i]? = (bv ys)[i]? := by rw [ht]
    rw [Nat.mul_one, List.getElem?_take, if_pos hi, Array.getElem?_toList] at this
    exact ⟨ys[i]'(by omega), by rw [this]; simp [bv, show i < ys.length by omega]⟩
theorem row_sl {w : World} {g : Nat} {zs : List Int} (h : w.heap[g]? = some (.cells (bv zs).toArray 5 (0, 0))) (hB : Bytes zs) : SL w (some ⟨g, 0, none⟩) zs.length zs ∧ IR w g zs.length :=
  ⟨⟨rfl, hB, .inr ⟨g, 0, rfl, lt_of_heap h, fun i hi => by rw [Nat.zero_add, cell_at h]; simp [bv, hi]⟩⟩, _, h, fun i hi => ⟨zs[i], by simp [bv, hi]⟩⟩
theorem PX.written {w0 w : World} {c b : Nat} {N : Nat → Prop} {P Q : CS} (h : PX w0 w c b N P Q) : Calls Try.prog 15 #[.pointer (some ⟨c, 0, none⟩)] w fun e w' => ∃ a cp, e = .returned (.slice a P.O.length cp) ∧ SL w' a P.O.length P.O ∧ Below w.heap.size w w' ∧ (P.O.length = 0 ∨ ∃ X, a = some ⟨X, 0, none⟩ ∧ IR w' X P.O.length ∧ w.heap.size ≤ X) := by
  refine (written_cx h.cx).mono fun e y ⟨a, cp, he, hr, hb⟩ => ⟨a, cp, he, ?_⟩
  rcases hr with ⟨rfl, hO, _⟩ | ⟨g, rfl, _, hg, hh⟩
  · rw [hO]
    exact ⟨SL.len0, hb, .inl rfl⟩
  · obtain ⟨r1, r2⟩ := row_sl hh h.bytesO
    exact ⟨r1, hb, .inr ⟨g, rfl, r2, hg⟩⟩
/-- the row is written -/
theorem PX.lturn {w0 w : World} {c b : Nat} {N : Nat → Prop} {P Q : CS} (h : PX w0 w c b N P Q) {a : Option Addr} {n : Nat} (hr : Row w0 w N a n) {j : Nat} (hj : j < n) : ∃ X, a = some ⟨X, 0, none⟩ ∧ X < w.heap.size ∧ (∃ z, w.cell? ⟨X, j, none⟩ = some (.int .u8 z)) ∧ w.frozen? ⟨X, j, none⟩ = false ∧ ∀ z, PX w0 (w.setCell ⟨X, j, none⟩ (.int .u8 z)) c b N P Q ∧ Row w0 (w.setCell ⟨X, j, none⟩ (.int .u8 z)) N a n := by
  rcases hr with h0 | ⟨X, rfl, hi, hN, hl⟩
  · omega
  · refine ⟨X, rfl, hi.lt, (hi.at hj).1, (hi.at hj).2, fun z => ?_⟩
    obtain ⟨k1, k2⟩ := hi.set hj z
    exact ⟨h.row hi hN hl k2, .inr ⟨X, rfl, k1, hN, hl⟩⟩
theorem PX.docO {w0 w : World} {c b : Nat} {N : Nat → Prop} {P Q : CS} (h : PX w0 w c b N P Q) {S : ByteArray} (hs : strOfNums Q.O = S) : w.cell? ⟨b, 1, none⟩ = some (.string S) := hs ▸ h.rc.cells.2.1
theorem PX.docs {w0 w : World} {c b : Nat} {N : Nat → Prop} {P Q : CS} (h : PX w0 w c b N P Q) {S : ByteArray} {m : Int} (hs : strOfNums Q.O = S) (hm : wrap64 (Q.r + Q.W.length) = m) : w.cell? ⟨b, 1, none⟩ = some (.string S) ∧ w.cell? ⟨b, 2, none⟩ = some (.int .i64 m) ∧ w.cell? ⟨b, 3, none⟩ = some (.int .i64 Q.d) ∧ w.cell? ⟨b, 4, none⟩ = some (.int .i64 Q.r) :=
  ⟨h.docO hs, hm ▸ h.rc.cells.2.2.1, h.rc.cells.2.2.2.1, h.rc.cells.2.2.2.2⟩
end Go.Proofs.Ytbncgmjjkoedhaa
