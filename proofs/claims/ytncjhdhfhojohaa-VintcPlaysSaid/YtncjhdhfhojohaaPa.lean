/-
  Both controllers in one world, with an act; what the law's names tell.
-/
import Derived.Test.YtncjhdhfhojohaaRc
import Derived.Test.YtncjhdhfhojohaaNw
import Derived.Test.YtncjhdhfhojohaaOpens
namespace Go.Proofs.Ytncjhdhfhojohaa
open Go.RowKit
set_option linter.unusedVariables false
set_option maxRecDepth 100000
/-- an act's cells, whole -/
def acA (x : Ac) : Array Value := #[.int .i64 x.kd, .int .i64 x.vc, .int .i64 x.so, .int .i64 x.nn, .bool x.on]
/-- the program's controller b, the document's c -/
structure PX (w0 w : World) (b c : Nat) (z y : Z) : Prop where
  bel : Below w0.heap.size w0 w
  is : IS 50 w b z
  rs : IS 44 w c y
  low : w0.heap.size ≤ b ∧ w0.heap.size ≤ c
/-- .. with an act -/
structure PA (w0 w : World) (b c q : Nat) (x : Ac) (z y : Z) : Prop where
  px : PX w0 w b c z y
  a : w.heap[q]? = some (.cells (acA x) 33 (0, 0))
section
variable {w0 w w' : World} {b c q : Nat} {x : Ac} {z y z' y' : Z}
theorem IS.ne {s t : Nat} (h : IS s w b z) (k : IS t w c y) (hn : s ≠ t) : b ≠ c := by
  obtain ⟨cs, h1, _⟩ := h.blk
  obtain ⟨ds, h2, _⟩ := k.blk
  exact ne_typ h1 h2 hn
theorem IS.ne_act (h : IS 50 w b z) (k : w.heap[q]? = some (.cells (acA x) 33 (0, 0))) : q ≠ b := by
  obtain ⟨cs, h1, _⟩ := h.blk
  exact ne_typ k h1 (by decide)
theorem IS.ne_act' (h : IS 44 w b z) (k : w.heap[q]? = some (.cells (acA x) 33 (0, 0))) : q ≠ b := by
  obtain ⟨cs, h1, _⟩ := h.blk
  exact ne_typ k h1 (by decide)
theorem PX.below (h : PX w0 w b c z y) (hb : Below w.heap.size w w') : PX w0 w' b c z y := ⟨h.bel.trans (hb.mono h.bel.size), h.is.below hb, h.rs.below hb, h.low⟩
theorem PX.call (h : PX w0 w b c z y) (hi : IS 50 w' b z') (ht : Trn (fun k => k = b) w w') : PX w0 w' b c z' y :=
  ⟨bel_trn h.bel (Nat.le_refl _) h.low.1 ht, hi, h.rs.keep (ht.block _ h.rs.lt (h.rs.ne h.is (by decide))), h.low⟩
theorem PX.rcall (h : PX w0 w b c z y) (hi : IS 44 w' c y') (ht : Trn (fun k => k = c) w w') : PX w0 w' b c z y' :=
  ⟨bel_trn h.bel (Nat.le_refl _) h.low.2 ht, h.is.keep (ht.block _ h.is.lt (h.is.ne h.rs (by decide))), hi, h.low⟩
theorem PA.call (h : PA w0 w b c q x z y) (hi : IS 50 w' b z') (ht : Trn (fun k => k = b) w w') : PA w0 w' b c q x z' y :=
  ⟨h.px.call hi ht, (ht.block _ (lt_of_heap h.a) (h.px.is.ne_act h.a)).trans h.a⟩
theorem PA.rcall (h : PA w0 w b c q x z y) (hi : IS 44 w' c y') (ht : Trn (fun k => k = c) w w') : PA w0 w' b c q x z y' :=
  ⟨h.px.rcall hi ht, (ht.block _ (lt_of_heap h.a) (h.px.rs.ne_act' h.a)).trans h.a⟩
theorem PA.below (h : PA w0 w b c q x z y) (hb : Below w.heap.size w w') : PA w0 w' b c q x z y := ⟨h.px.below hb, (hb.block _ (lt_of_heap h.a)).trans h.a⟩
theorem PA.drew (h : PA w0 w b c q x z y) : PA w0 w.drew b c q x z y := h.below (below_drew' _)
theorem PX.act (h : PX w0 w b c z y) (x : Ac) : PA w0 (w.alloc (.cells (acA x) 33)) b c w.heap.size x z y := ⟨h.below (below_box _ _), heap_alloc_at _ _⟩
theorem PA.c0 (h : PA w0 w b c q x z y) : w.cell? ⟨q, 0, none⟩ = some (.int .i64 x.kd) := cell_at h.a 0
theorem PA.c1 (h : PA w0 w b c q x z y) : w.cell? ⟨q, 1, none⟩ = some (.int .i64 x.vc) := cell_at h.a 1
theorem PA.c2 (h : PA w0 w b c q x z y) : w.cell? ⟨q, 2, none⟩ = some (.int .i64 x.so) := cell_at h.a 2
theorem PA.c3 (h : PA w0 w b c q x z y) : w.cell? ⟨q, 3, none⟩ = some (.int .i64 x.nn) := cell_at h.a 3
theorem PA.c4 (h : PA w0 w b c q x z y) : w.cell? ⟨q, 4, none⟩ = some (.bool x.on) := cell_at h.a 4
theorem PA.lt (h : PA w0 w b c q x z y) : q < w.heap.size := lt_of_heap h.a
theorem PA.raise (h : PA w0 w b c q x z y) (k : Ok z) (s : Int) : Calls Try.prog 17 #[.pointer (some ⟨b, 0, none⟩), .int .i64 s] w fun e w' => e = .returned (.int .i64 (chk (src s))) ∧ PA w0 w' b c q x (raiP z s) y :=
  (raise_is h.px.is k s).mono fun e w' r => ⟨r.1, h.call r.2.1 r.2.2⟩
theorem PA.enable (h : PA w0 w b c q x z y) (k : Ok z) (v s : Int) (on : Bool) : Calls Try.prog 18 #[.pointer (some ⟨b, 0, none⟩), .int .i64 v, .int .i64 s, .bool on] w fun e w' => e = .returned (.int .i64 (chk (enaF z v s))) ∧ PA w0 w' b c q x (enaP z v s on) y :=
  (enable_is h.px.is k v s on).mono fun e w' r => ⟨r.1, h.call r.2.1 r.2.2⟩
theorem PA.renable (h : PA w0 w b c q x z y) (k : Ok y) (v s : Int) (on : Bool) : Calls Try.prog 24 #[.pointer (some ⟨c, 0, none⟩), .int .i64 v, .int .i64 s, .bool on] w fun e w' => e = .returned (.int .i64 (chk (enaF y v s))) ∧ PA w0 w' b c q x z (enaP y v s on) :=
  (renable_is h.px.rs k v s on).mono fun e w' r => ⟨r.1, h.rcall r.2.1 r.2.2⟩
theorem PA.weigh (h : PA w0 w b c q x z y) (k : Ok z) (s n : Int) : Calls Try.prog 19 #[.pointer (some ⟨b, 0, none⟩), .int .i64 s, .int .i64 n] w fun e w' => e = .returned (.int .i64 (chk (weiF s n))) ∧ PA w0 w' b c q x (weiP z s n) y :=
  (weigh_is h.px.is k s n).mono fun e w' r => ⟨r.1, h.call r.2.1 r.2.2⟩
theorem PA.bar (h : PA w0 w b c q x z y) (k : Ok z) (v n : Int) : Calls Try.prog 20 #[.pointer (some ⟨b, 0, none⟩), .int .i64 v, .int .i64 n] w fun e w' => e = .returned (.int .i64 (chk (barF z v n))) ∧ PA w0 w' b c q x (barP z v n) y :=
  (bar_is h.px.is k v n).mono fun e w' r => ⟨r.1, h.call r.2.1 r.2.2⟩
theorem PA.claim (h : PA w0 w b c q x z y) (k : Ok z) (v : Int) : Calls Try.prog 16 #[.pointer (some ⟨b, 0, none⟩), .int .i64 v] w fun e w' => e = .returned (.tuple #[.int .i64 (claK z v), .int .i64 (chk (hasV z v))]) ∧ PA w0 w' b c q x (claP z v) y :=
  (claim_is h.px.is k v).mono fun e w' r => ⟨r.1, h.call r.2.1 r.2.2⟩
theorem PA.rclaim (h : PA w0 w b c q x z y) (k : Ok y) (v : Int) : Calls Try.prog 25 #[.pointer (some ⟨c, 0, none⟩), .int .i64 v] w fun e w' => e = .returned (.tuple #[.int .i64 (claK y v), .int .i64 (chk (hasV y v))]) ∧ PA w0 w' b c q x z (claP y v) :=
  (rclaim_is h.px.rs k v).mono fun e w' r => ⟨r.1, h.rcall r.2.1 r.2.2⟩
theorem PA.complete (h : PA w0 w b c q x z y) (k : Ok z) (v s : Int) : Calls Try.prog 21 #[.pointer (some ⟨b, 0, none⟩), .int .i64 v, .int .i64 s] w fun e w' => e = .returned (.int .i64 (comE z v s)) ∧ PA w0 w' b c q x (comP z v s) y :=
  (complete_is h.px.is k v s).mono fun e w' r => ⟨r.1, h.call r.2.1 r.2.2⟩
theorem PA.rcomplete (h : PA w0 w b c q x z y) (k : Ok y) (v s : Int) : Calls Try.prog 26 #[.pointer (some ⟨c, 0, none⟩), .int .i64 v, .int .i64 s] w fun e w' => e = .returned (.int .i64 (comE y v s)) ∧ PA w0 w' b c q x z (comP y v s) :=
  (rcomplete_is h.px.rs k v s).mono fun e w' r => ⟨r.1, h.rcall r.2.1 r.2.2⟩
theorem PA.poke (h : PA w0 w b c q x z y) (k : Ok z) (v : Int) : Calls Try.prog 22 #[.pointer (some ⟨b, 0, none⟩), .int .i64 v] w fun e w' => e = .returned (.int .i64 (chk (hasV z v))) ∧ PA w0 w' b c q x (pokP z v) y :=
  (poke_is h.px.is k v).mono fun e w' r => ⟨r.1, h.call r.2.1 r.2.2⟩
theorem PA.soft (h : PA w0 w b c q x z y) (k : Ok z) (v : Int) : Calls Try.prog 23 #[.pointer (some ⟨b, 0, none⟩), .int .i64 v] w fun e w' => e = .returned (.bool (sofB z v)) ∧ PA w0 w' b c q x (sofP z v) y :=
  (soft_is h.px.is k v).mono fun e w' r => ⟨r.1, h.call r.2.1 r.2.2⟩
/-- stores of the law's own into the document's -/
theorem PA.putP (h : PA w0 w b c q x z y) (s : Nat) (hs : s < 17) (v : Bool) : PA w0 (w.setCell ⟨c, 1 + s * 7, none⟩ (.bool v)) b c q x z (y.setP s v) := h.rcall (h.px.rs.putP s hs v).1 (h.px.rs.putP s hs v).2
theorem PA.putW (h : PA w0 w b c q x z y) (s : Nat) (hs : s < 17) (v : Int) : PA w0 (w.setCell ⟨c, 1 + s * 7 + 2, none⟩ (.int .i64 v)) b c q x z (y.setW s v) := h.rcall (h.px.rs.putW s hs v).1 (h.px.rs.putW s hs v).2
theorem PA.putB (h : PA w0 w b c q x z y) (s : Nat) (hs : s < 4) (v : Int) : PA w0 (w.setCell ⟨c, 120 + s, none⟩ (.int .i64 v)) b c q x z (y.setB s v) := h.rcall (h.px.rs.putB s hs v).1 (h.px.rs.putB s hs v).2
theorem PA.putS (h : PA w0 w b c q x z y) (s : Nat) (hs : s < 4) (v : Bool) : PA w0 (w.setCell ⟨c, 124 + s, none⟩ (.bool v)) b c q x z (y.setS s v) := h.rcall (h.px.rs.putS s hs v).1 (h.px.rs.putS s hs v).2
end
theorem names_any (w : World) : Calls Try.prog 9 #[] w fun e w' => e = .returned (.bool true) ∧ w' = w := by
  go_enter Try.func9, Try.ntmps9
  go_wp2_with fail
  go_ret
  exact ⟨rfl, rfl⟩
end Go.Proofs.Ytncjhdhfhojohaa
