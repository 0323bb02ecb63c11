/-
  Both consoles in one world, with a call and a row of bytes that the law makes itself.
-/
import Derived.Test.YtbncgmjjkoedhaaRf
import Derived.Test.YtbncgmjjkoedhaaRd
import Derived.Test.YtbncgmjjkoedhaaOpens
namespace Go.Proofs.Ytbncgmjjkoedhaa
open Go.RowKit
set_option linter.unusedVariables false
set_option maxRecDepth 20000
/-- what a console tells -/
structure CS where
  W : List Int
  O : List Int
  d : Int
  r : Int
def CS.inp (P : CS) (len : Nat) (zs : List Int) : CS := ⟨P.W ++ zs.take (tkn (4096 - P.W.length) len), P.O, wrap64 (P.d + (len - tkn (4096 - P.W.length) len)), P.r⟩
def CS.rd (P : CS) (n : Int) : CS := ⟨P.W.drop (rk P.W n), P.O, P.d, wrap64 (P.r + rk P.W n)⟩
def CS.wri (P : CS) (len : Nat) (zs : List Int) : CS := ⟨P.W, P.O ++ zs.take (tkn (1048576 - P.O.length) len), P.d, P.r⟩
/-- a row of n bytes, whatever they are -/
def IR (w : World) (X n : Nat) : Prop := ∃ cur : Array Value, w.heap[X]? = some (.cells cur 5 (0, 0)) ∧ ∀ i, i < n → ∃ z, cur[i]? = some (.int .u8 z)
theorem IR.lt {w : World} {X n : Nat} (h : IR w X n) : X < w.heap.size := let ⟨_, k, _⟩ := h; lt_of_heap k
theorem IR.keep {w w' : World} {X n : Nat} (h : IR w X n) (hk : w'.heap[X]? = w.heap[X]?) : IR w' X n := let ⟨c, k, r⟩ := h; ⟨c, hk.trans k, r⟩
theorem IR.at {w : World} {X n : Nat} (h : IR w X n) {i : Nat} (hi : i < n) : (∃ z, w.cell? ⟨X, i, none⟩ = some (.int .u8 z)) ∧ w.frozen? ⟨X, i, none⟩ = false := by
  obtain ⟨c, k, r⟩ := h
  obtain ⟨z, hz⟩ := r i hi
  exact ⟨⟨z, by rw [cell_at k, hz]⟩, by simp [World.frozen?, k]⟩
theorem IR.set {w : World} {X n : Nat} (h : IR w X n) {i : Nat} (hi : i < n) (z : Int) : IR (w.setCell ⟨X, i, none⟩ (.int .u8 z)) X n ∧ Trn (fun k => k = X) w (w.setCell ⟨X, i, none⟩ (.int .u8 z)) := by
  obtain ⟨c, k, r⟩ := h
  refine ⟨⟨_, heap_setCell k i _, fun j hj => ?_⟩, trn_setCell (fun k => k = X) k rfl i _⟩
  obtain ⟨y, hy⟩ := r j hj
  by_cases hij : i = j
  · subst hij
    have hlt : i < c.size := (Array.getElem?_eq_some_iff.1 hy).1
    exact ⟨z, by simp [hlt]⟩
  · exact ⟨y, by rw [Array.getElem?_setIfInBounds_ne hij]; exact hy⟩
theorem IR.ne {w : World} {X n b : Nat} {cs : Array Value} {t : TypeId} (h : IR w X n) (hb : w.heap[b]? = some (.cells cs t (0, 0))) (ht : t ≠ 5) : X ≠ b := let ⟨_, k, _⟩ := h; ne_typ k hb (Ne.symm ht)
/-- both consoles: the program's in the state P, the document's in the state Q; N: blocks that are none of the program's console's -/
structure PX (w0 w : World) (c b : Nat) (N : Nat → Prop) (P Q : CS) : Prop where
  cx : CX N w c P.W P.O P.d P.r
  rc : RC w b Q.W Q.O (wrap64 (Q.r + Q.W.length)) Q.d Q.r
  nb : N b
  old : ∀ k, k < w0.heap.size → N k
  bel : Below w0.heap.size w0 w
  b0 : w0.heap.size ≤ b
section
variable {w0 w w' : World} {c b : Nat} {N : Nat → Prop} {P Q : CS}
theorem PX.wr (h : PX w0 w c b N P Q) : wrap64 P.r = P.r := let ⟨_, _, k⟩ := h.cx; k.wr
theorem PX.lenW (h : PX w0 w c b N P Q) : P.W.length ≤ 4096 := let ⟨_, _, k⟩ := h.cx; k.lw
theorem PX.lenO (h : PX w0 w c b N P Q) : P.O.length ≤ 1048576 := let ⟨_, _, k⟩ := h.cx; k.lo
theorem PX.bytesO (h : PX w0 w c b N P Q) : Bytes P.O := let ⟨_, _, k⟩ := h.cx; k.bo
theorem PX.nlt (h : PX w0 w c b N P Q) {k : Nat} (e : N k) : k < w.heap.size := let ⟨_, _, q⟩ := h.cx; (q.nn k e).1
/-- the program's console turns alone -/
theorem PX.prog (h : PX w0 w c b N P Q) {P' : CS} (k : CX N w' c P'.W P'.O P'.d P'.r) (t : Trn (fun k => ¬ N k) w w') : PX w0 w' c b N P' Q ∧ ∀ k, N k → w'.heap[k]? = w.heap[k]? := by
  have kp : ∀ k, N k → w'.heap[k]? = w.heap[k]? := fun k e => t.block k (h.nlt e) (fun hn => hn e)
  exact ⟨⟨k, h.rc.keep (kp b h.nb), h.nb, h.old, h.bel.trans (t.below (fun q hq => Nat.le_of_not_lt fun hl => hq (h.old q hl)) h.bel.size), h.b0⟩, kp⟩
/-- the document's console turns alone -/
theorem PX.doc (h : PX w0 w c b N P Q) {Q' : CS} (k : RC w' b Q'.W Q'.O (wrap64 (Q'.r + Q'.W.length)) Q'.d Q'.r) (t : Trn (fun k => k = b) w w') : PX w0 w' c b N P Q' ∧ ∀ k, k < w.heap.size → k ≠ b → w'.heap[k]? = w.heap[k]? :=
  ⟨⟨h.cx.other (t.mono fun q _ e => by rw [e]; exact h.nb), k, h.nb, h.old, h.bel.trans (t.below (fun q hq => by rw [hq]; exact h.b0) h.bel.size), h.b0⟩, fun k hk hn => t.block k hk hn⟩
/-- new blocks alone -/
theorem PX.below (h : PX w0 w c b N P Q) (hb : Below w.heap.size w w') : PX w0 w' c b N P Q :=
  ⟨h.cx.below hb, h.rc.keep (hb.block b h.rc.lt), h.nb, h.old, h.bel.trans (hb.mono h.bel.size), h.b0⟩
theorem PX.fresh (h : PX w0 w c b N P Q) (hb : Below w.heap.size w w') : PX w0 w' c b (fun k => N k ∨ (w.heap.size ≤ k ∧ k < w'.heap.size)) P Q :=
  ⟨h.cx.fresh (Nat.le_refl _) (.of_below hb), h.rc.keep (hb.block b h.rc.lt), .inl h.nb, fun k e => .inl (h.old k e), h.bel.trans (hb.mono h.bel.size), h.b0⟩
theorem PX.less {N' : Nat → Prop} (h : PX w0 w c b N P Q) (hn : ∀ k, N' k → N k) (hb : N' b) (ho : ∀ k, k < w0.heap.size → N' k) : PX w0 w c b N' P Q := ⟨h.cx.less hn, h.rc, hb, ho, h.bel, h.b0⟩
/-- a row of the law's own is written -/
theorem PX.row (h : PX w0 w c b N P Q) {X n : Nat} (hi : IR w X n) (hX : N X) (h0 : w0.heap.size ≤ X) (t : Trn (fun k => k = X) w w') : PX w0 w' c b N P Q :=
  ⟨h.cx.other (t.mono fun q _ e => by rw [e]; exact hX), h.rc.keep (t.block b h.rc.lt fun e => hi.ne h.rc.ob (by decide) e.symm), h.nb, h.old, h.bel.trans (t.below (fun q hq => by rw [hq]; exact h0) h.bel.size), h.b0⟩
theorem PX.input (h : PX w0 w c b N P Q) {a : Option Addr} {len cap : Nat} {zs : List Int} (hs : SL w a len zs) (hnil : a = none → len = 0 ∧ cap = 0) (hlc : len ≤ cap) (hlen : len ≤ 140737488351232) :
    Calls Try.prog 8 #[.pointer (some ⟨c, 0, none⟩), .slice a len cap] w fun e w' => e = .returned (.tuple #[.int .i64 (tkn (4096 - P.W.length) len), .int .i64 0]) ∧ PX w0 w' c b N (P.inp len zs) Q ∧ ∀ k, N k → w'.heap[k]? = w.heap[k]? :=
  (input_cx h.cx hs hnil hlc hlen).mono fun e x ⟨he, hx, ht⟩ => ⟨he, h.prog (P' := P.inp len zs) hx ht⟩
theorem PX.write (h : PX w0 w c b N P Q) {a : Option Addr} {len cap : Nat} {zs : List Int} (hs : SL w a len zs) (hnil : a = none → len = 0 ∧ cap = 0) (hlc : len ≤ cap) (hlen : len ≤ 140737488351232) :
    Calls Try.prog 12 #[.pointer (some ⟨c, 0, none⟩), .slice a len cap] w fun e w' => e = .returned (.tuple #[.int .i64 (tkn (1048576 - P.O.length) len), .int .i64 0]) ∧ PX w0 w' c b N (P.wri len zs) Q ∧ ∀ k, N k → w'.heap[k]? = w.heap[k]? :=
  (write_cx h.cx hs hnil hlc hlen).mono fun e x ⟨he, hx, ht⟩ => ⟨he, h.prog (P' := P.wri len zs) hx ht⟩
theorem PX.read (h : PX w0 w c b N P Q) (n : Int) (hn : n < 9223372036854775808) :
    Calls Try.prog 10 #[.pointer (some ⟨c, 0, none⟩), .int .i64 n] w fun e w' => ∃ a cp, e = .returned (.slice a (rk P.W n) cp) ∧ SL w' a (rk P.W n) (P.W.take (rk P.W n)) ∧ PX w0 w' c b N (P.rd n) Q ∧ ∀ k, N k → w'.heap[k]? = w.heap[k]? :=
  (read_cx h.cx n hn).mono fun e x ⟨a, cp, he, hs, hx, ht⟩ => ⟨a, cp, he, hs, h.prog (P' := P.rd n) hx ht⟩
theorem inp_came (r : Int) (w t : Nat) : wrap64 (wrap64 (r + w) + t) = wrap64 (r + ((w + t : Nat) : Int)) := by unfold wrap64; omega
theorem inp_drop (d : Int) (len t : Nat) : wrap64 (wrap64 (d + len) - t) = wrap64 (d + ((len : Int) - t)) := by unfold wrap64; omega
theorem rd_came (r : Int) (w k : Nat) (hk : k ≤ w) : wrap64 (wrap64 (r + k) + ((w - k : Nat) : Int)) = wrap64 (r + w) := by unfold wrap64; omega
theorem PX.rinput (h : PX w0 w c b N P Q) {a : Option Addr} {len cap : Nat} {zs : List Int} (hs : SL w a len zs) (hlc : len ≤ cap) (hlen : len ≤ 140737488351232) :
    Calls Try.prog 9 #[.pointer (some ⟨b, 0, none⟩), .slice a len cap] w fun e w' => e = .returned (.int .i64 (tkn (4096 - Q.W.length) len)) ∧ PX w0 w' c b N P (Q.inp len zs) ∧ ∀ k, k < w.heap.size → k ≠ b → w'.heap[k]? = w.heap[k]? :=
  (rinput_rc h.rc hs hlc hlen).mono fun e x ⟨he, hx, ht⟩ => ⟨he, h.doc (Q' := Q.inp len zs) (by
    have hl : (Q.W ++ zs.take (tkn (4096 - Q.W.length) len)).length = Q.W.length + tkn (4096 - Q.W.length) len := by
      have h1 := hs.1
      have h2 : tkn (4096 - Q.W.length) len ≤ len := Nat.min_le_left _ _
      simp
      omega
    simp only [CS.inp, hl, ← inp_came, ← inp_drop]
    exact hx) ht⟩
theorem PX.rwrite (h : PX w0 w c b N P Q) {a : Option Addr} {len cap : Nat} {zs : List Int} (hs : SL w a len zs) (hlc : len ≤ cap) (hlen : len ≤ 140737488351232) :
    Calls Try.prog 13 #[.pointer (some ⟨b, 0, none⟩), .slice a len cap] w fun e w' => e = .returned (.int .i64 (tkn (1048576 - Q.O.length) len)) ∧ PX w0 w' c b N P (Q.wri len zs) ∧ ∀ k, k < w.heap.size → k ≠ b → w'.heap[k]? = w.heap[k]? :=
  (rwrite_rc h.rc hs hlc hlen).mono fun e x ⟨he, hx, ht⟩ => ⟨he, h.doc (Q' := Q.wri len zs) hx ht⟩
theorem PX.rtake (h : PX w0 w c b N P Q) (n : Int) (hn : n < 9223372036854775808) (hr : wrap64 Q.r = Q.r) :
    Calls Try.prog 11 #[.pointer (some ⟨b, 0, none⟩), .int .i64 n] w fun e w' => e = .returned (.string (strOfNums (Q.W.take (rk Q.W n)))) ∧ PX w0 w' c b N P (Q.rd n) ∧ ∀ k, k < w.heap.size → k ≠ b → w'.heap[k]? = w.heap[k]? :=
  (rtake_rc h.rc n hr hn).mono fun e x ⟨he, hx, ht⟩ => ⟨he, h.doc (Q' := Q.rd n) (by
    have hl : (Q.W.drop (rk Q.W n)).length = Q.W.length - rk Q.W n := by simp
    simp only [CS.rd, hl]
    rw [rd_came Q.r Q.W.length (rk Q.W n) (Nat.min_le_right _ _)]
    exact hx) ht⟩
theorem PX.counts (h : PX w0 w c b N P Q) : Calls Try.prog 14 #[.pointer (some ⟨c, 0, none⟩)] w fun e w' => e = .returned (cntV P.W P.O P.d P.r) ∧ Below w.heap.size w w' := counts_cx h.cx
end
end Go.Proofs.Ytbncgmjjkoedhaa
