/-
  An address through two stages of tables, whatever the table of bits holds: the law's bus does it.
  An address through two stages of tables, whatever the table of bits holds: the law's bus does it.
  The law's bus, with a second stage or without, whatever the table of bits holds: what its Translate does, as one function; what the world's shape says of that table.
-/
import Derived.Test.YtkckobbedpccfaaGreatDoorQHg
import Derived.Test.YtkckobbedpccfaaGreatDoorQE4
namespace Go.Proofs.YtkckobbedpccfaaGreatDoor
open Go.RowKit
set_option linter.unusedVariables false
set_option maxRecDepth 100000

namespace E
theorem faultP_pos (a : Int) {f l s : Int} (hf : 0 ≤ f) (hl : 0 ≤ l) (hs : 0 ≤ s) : 0 ≤ faultP a f l s := by
  unfold faultP
  split
  · exact hf
  · split
    · exact hs
    · exact hl
theorem rdR_told [Bits] {zs : List Int} {t a f p c v g : Int} (h : rdR zs t a f p = .no c v g) : 0 ≤ c ∧ v = t := by
  unfold rdR at h
  cases hr : readP zs f p with
  | none => rw [hr] at h; cases h; exact ⟨faultP_pos a (by decide) (by decide) (by decide), rfl⟩
  | some e => rw [hr] at h; cases h
theorem walkR_told {R : Int → Int → Rr} {root t a c v g : Int} {u : Bool} (hR : ∀ f p c v g, R f p = .no c v g → 0 ≤ c ∧ v = t) (h : walkR R root t a u = .no c v g) : 0 ≤ c ∧ v = t := by
  unfold walkR refR at h
  split at h
  · split at h
    · rename_i hn; cases h; exact hR _ _ _ _ _ hn
    · split at h
      · split at h
        · rename_i hn; cases h; exact hR _ _ _ _ _ hn
        · split at h
          · cases h
          · cases h; exact ⟨faultP_pos a (by decide) (by decide) (by decide), rfl⟩
      · cases h; exact ⟨faultP_pos a (by decide) (by decide) (by decide), rfl⟩
  · cases h; exact ⟨faultP_pos a (by decide) (by decide) (by decide), rfl⟩
theorem fsR_told [Bits] {zs : List Int} {second t a f p c v g : Int} (h : fsR zs second t a f p = .no c v g) : 0 ≤ c ∧ v = t := by
  unfold fsR at h
  split at h
  · split at h
    · cases h; exact ⟨faultP_pos a (by decide) (by decide) (by decide), rfl⟩
    · exact rdR_told h
  · cases h; exact ⟨faultP_pos a (by decide) (by decide) (by decide), rfl⟩
theorem firstP_told [Bits] {zs : List Int} {first second t a c v g : Int} {u : Bool} (h : firstP zs first second t a u = .no c v g) : 0 ≤ c ∧ v = t := by
  unfold firstP at h
  split at h
  · split at h
    · cases h
    · cases h; exact ⟨faultP_pos a (by decide) (by decide) (by decide), rfl⟩
  · split at h
    · cases h
    · rename_i hn; cases h; exact walkR_told (fun f p c v g h => fsR_told h) hn
theorem twoP_told [Bits] {zs : List Int} {first second t a c v g : Int} {u : Bool} (h : twoP zs first second t a u = .no c v g) : 0 ≤ c ∧ v = t := by
  unfold twoP at h
  split at h
  · rename_i hn; cases h; exact firstP_told hn
  · split at h
    · cases h; exact ⟨faultP_pos a (by decide) (by decide) (by decide), rfl⟩
    · cases h
end E
/-- what a bus with a second stage tells -/
def frT : E.Fr → Int → Tr
  | .ok f _ _ _ _ _, t => ⟨IntKind.u64.wrap (IntKind.u64.wrap (IntKind.u64.wrap f * 256) + t % 256), 0, 0, 0⟩
  | .no c v g, t => ⟨IntKind.u64.wrap (IntKind.u64.wrap (IntKind.u64.wrap 0 * 256) + t % 256), c, v, g⟩
def TB [E.Bits] (s : Hs) (root t a : Int) (u : Bool) : Tr := if s.sec < 0 then ⟨t, 0, 0, 0⟩ else frT (E.twoP s.zs root s.sec t a u) t
end Go.Proofs.YtkckobbedpccfaaGreatDoor
namespace Go.Proofs.YtkckobbedpccfaaGreatDoor
open Go.RowKit
set_option linter.unusedVariables false
set_option maxRecDepth 100000

theorem HW.box {w : World} {p : Pl} {s : Hs} (h : HW w p s) {o : Obj} : HW (w.alloc o) p s := h.below ((Below.refl _ _).alloc (Nat.le_refl _) _)
theorem new2 (w : World) (o1 o2 : Obj) : Below w.heap.size w ((w.alloc o1).alloc o2) ∧ ((w.alloc o1).alloc o2).heap[w.heap.size]? = some o1 ∧ ((w.alloc o1).alloc o2).heap[w.heap.size + 1]? = some o2 := by
  have e1 : (w.alloc o1).heap.size = w.heap.size + 1 := by simp
  refine ⟨((Below.refl _ _).alloc (Nat.le_refl _) _).alloc (by simp) _, ?_, ?_⟩
  · rw [C.heap_alloc_past _ _ (by omega)]; exact C.heap_alloc_at w _
  · have := C.heap_alloc_at (w.alloc o1) o2
    rwa [e1] at this
theorem set_at {w : World} {b o : Nat} {cs : Array Value} {t : TypeId} {v : Value} (h : w.heap[b]? = some (.cells cs t (0, 0))) : (w.setCell ⟨b, o, none⟩ v).heap[b]? = some (.cells (cs.setIfInBounds o v) t (0, 0)) := (set_bus h).1
theorem keep1 {w : World} {b k o : Nat} {v : Value} (hk : k ≠ b) : (w.setCell ⟨b, o, none⟩ v).heap[k]? = w.heap[k]? := Below.heap_setCell w ⟨b, o, none⟩ v k hk
def zeroF : Obj := .cells #[.int .i64 0, .bool false, .bool false, .bool false, .bool false, .int .i64 0] 226
theorem fd_cells {w : World} {N : Nat} (h : w.heap[N]? = some (.cells #[.int .i64 0, .bool false, .bool false, .bool false, .bool false, .int .i64 0] 226 (0, 0))) : w.cell? ⟨N, 0, none⟩ = some (.int .i64 0) ∧ w.cell? ⟨N, 1, none⟩ = some (.bool false) ∧ w.cell? ⟨N, 2, none⟩ = some (.bool false) ∧ w.cell? ⟨N, 3, none⟩ = some (.bool false) ∧ w.cell? ⟨N, 4, none⟩ = some (.bool false) ∧ w.cell? ⟨N, 5, none⟩ = some (.int .i64 0) ∧
    w.frozen? ⟨N, 0, none⟩ = false ∧ w.frozen? ⟨N, 1, none⟩ = false ∧ w.frozen? ⟨N, 2, none⟩ = false ∧ w.frozen? ⟨N, 3, none⟩ = false ∧ w.frozen? ⟨N, 4, none⟩ = false ∧ w.frozen? ⟨N, 5, none⟩ = false ∧ N < w.heap.size := by
  obtain ⟨a0, a1, a2⟩ := cells6' h
  refine ⟨?_, ?_, ?_, ?_, ?_, ?_, a1 _, a1 _, a1 _, a1 _, a1 _, a1 _, a2⟩ <;> rw [a0] <;> rfl
theorem tr_cells' {w : World} {N : Nat} {a b c : Value} (h : w.heap[N]? = some (.cells #[a, b, c] 55 (0, 0))) : w.cell? ⟨N, 0, none⟩ = some a ∧ w.cell? ⟨N, 1, none⟩ = some b ∧ w.cell? ⟨N, 2, none⟩ = some c ∧ w.frozen? ⟨N, 0, none⟩ = false ∧ w.frozen? ⟨N, 1, none⟩ = false ∧ w.frozen? ⟨N, 2, none⟩ = false ∧ N < w.heap.size := by
  obtain ⟨a0, a1, a2⟩ := cells6' h
  refine ⟨?_, ?_, ?_, a1 _, a1 _, a1 _, a2⟩ <;> rw [a0] <;> rfl
theorem fdSet {w : World} {N : Nat} (h : w.heap[N]? = some (.cells #[.int .i64 0, .bool false, .bool false, .bool false, .bool false, .int .i64 0] 226 (0, 0))) (v0 v1 v2 v3 v4 v5 : Value) : ((((((w.setCell ⟨N, 0, none⟩ v0).setCell ⟨N, 1, none⟩ v1).setCell ⟨N, 2, none⟩ v2).setCell ⟨N, 3, none⟩ v3).setCell ⟨N, 4, none⟩ v4).setCell ⟨N, 5, none⟩ v5).heap[N]? = some (.cells #[v0, v1, v2, v3, v4, v5] 226 (0, 0)) :=
  set_at (set_at (set_at (set_at (set_at (set_at h)))))
theorem trSet {w : World} {N : Nat} (h : w.heap[N]? = some (.cells #[.int .i64 0, .int .u64 0, .int .u64 0] 55 (0, 0))) (v0 v1 v2 : Value) : (((w.setCell ⟨N, 0, none⟩ v0).setCell ⟨N, 1, none⟩ v1).setCell ⟨N, 2, none⟩ v2).heap[N]? = some (.cells #[v0, v1, v2] 55 (0, 0)) := set_at (set_at (set_at h))
theorem below_set6 {B : Nat} {W w : World} (h : Below B W w) {b : Nat} (hb : B ≤ b) (v0 v1 v2 v3 v4 v5 : Value) : Below B W ((((((w.setCell ⟨b, 0, none⟩ v0).setCell ⟨b, 1, none⟩ v1).setCell ⟨b, 2, none⟩ v2).setCell ⟨b, 3, none⟩ v3).setCell ⟨b, 4, none⟩ v4).setCell ⟨b, 5, none⟩ v5) := (((((h.setCell hb _).setCell hb _).setCell hb _).setCell hb _).setCell hb _).setCell hb _
theorem below_set3' {B : Nat} {W w : World} (h : Below B W w) {b : Nat} (hb : B ≤ b) (v0 v1 v2 : Value) : Below B W (((w.setCell ⟨b, 0, none⟩ v0).setCell ⟨b, 1, none⟩ v1).setCell ⟨b, 2, none⟩ v2) := ((h.setCell hb _).setCell hb _).setCell hb _
theorem fdSet_alloc {w : World} {N : Nat} (h : w.heap[N]? = some (.cells #[.int .i64 0, .bool false, .bool false, .bool false, .bool false, .int .i64 0] 226 (0, 0))) (v0 v1 v2 v3 v4 v5 : Value) (o : Obj) : (((((((w.setCell ⟨N, 0, none⟩ v0).setCell ⟨N, 1, none⟩ v1).setCell ⟨N, 2, none⟩ v2).setCell ⟨N, 3, none⟩ v3).setCell ⟨N, 4, none⟩ v4).setCell ⟨N, 5, none⟩ v5).alloc o).heap[N]? = some (.cells #[v0, v1, v2, v3, v4, v5] 226 (0, 0)) := by
  rw [C.heap_alloc_past _ _ (by simpa using lt_of_heap h)]
  exact fdSet h _ _ _ _ _ _
theorem fdSet_new (w : World) (N : Nat) (v0 v1 v2 v3 v4 v5 : Value) (o : Obj) : (((((((w.setCell ⟨N, 0, none⟩ v0).setCell ⟨N, 1, none⟩ v1).setCell ⟨N, 2, none⟩ v2).setCell ⟨N, 3, none⟩ v3).setCell ⟨N, 4, none⟩ v4).setCell ⟨N, 5, none⟩ v5).alloc o).heap[w.heap.size]? = some o := by
  have := C.heap_alloc_at ((((((w.setCell ⟨N, 0, none⟩ v0).setCell ⟨N, 1, none⟩ v1).setCell ⟨N, 2, none⟩ v2).setCell ⟨N, 3, none⟩ v3).setCell ⟨N, 4, none⟩ v4).setCell ⟨N, 5, none⟩ v5) o
  simpa using this
theorem trSet_alloc {w : World} {N : Nat} (h : w.heap[N]? = some (.cells #[.int .i64 0, .int .u64 0, .int .u64 0] 55 (0, 0))) (v0 v1 v2 : Value) (o : Obj) : ((((w.setCell ⟨N, 0, none⟩ v0).setCell ⟨N, 1, none⟩ v1).setCell ⟨N, 2, none⟩ v2).alloc o).heap[N]? = some (.cells #[v0, v1, v2] 55 (0, 0)) := by
  rw [C.heap_alloc_past _ _ (by simpa using lt_of_heap h)]
  exact trSet h _ _ _
theorem trSet_new (w : World) (N : Nat) (v0 v1 v2 : Value) (o : Obj) : ((((w.setCell ⟨N, 0, none⟩ v0).setCell ⟨N, 1, none⟩ v1).setCell ⟨N, 2, none⟩ v2).alloc o).heap[w.heap.size]? = some o := by
  have := C.heap_alloc_at (((w.setCell ⟨N, 0, none⟩ v0).setCell ⟨N, 1, none⟩ v1).setCell ⟨N, 2, none⟩ v2) o
  simpa using this
theorem both_A {w : World} {A D : Nat} (h : w.heap[A]? = some (.cells #[.int .i64 0, .bool false, .bool false, .bool false, .bool false, .int .i64 0] 226 (0, 0))) (hn : A ≠ D) (v0 v1 v2 v3 v4 v5 u0 u1 u2 : Value) : (((((((((w.setCell ⟨A, 0, none⟩ v0).setCell ⟨A, 1, none⟩ v1).setCell ⟨A, 2, none⟩ v2).setCell ⟨A, 3, none⟩ v3).setCell ⟨A, 4, none⟩ v4).setCell ⟨A, 5, none⟩ v5).setCell ⟨D, 0, none⟩ u0).setCell ⟨D, 1, none⟩ u1).setCell ⟨D, 2, none⟩ u2).heap[A]? = some (.cells #[v0, v1, v2, v3, v4, v5] 226 (0, 0)) := by
  rw [keep1 hn, keep1 hn, keep1 hn]
  exact fdSet h _ _ _ _ _ _
theorem both_D {w : World} {A D : Nat} (h : w.heap[D]? = some (.cells #[.int .i64 0, .int .u64 0, .int .u64 0] 55 (0, 0))) (hn : D ≠ A) (v0 v1 v2 v3 v4 v5 u0 u1 u2 : Value) : (((((((((w.setCell ⟨A, 0, none⟩ v0).setCell ⟨A, 1, none⟩ v1).setCell ⟨A, 2, none⟩ v2).setCell ⟨A, 3, none⟩ v3).setCell ⟨A, 4, none⟩ v4).setCell ⟨A, 5, none⟩ v5).setCell ⟨D, 0, none⟩ u0).setCell ⟨D, 1, none⟩ u1).setCell ⟨D, 2, none⟩ u2).heap[D]? = some (.cells #[u0, u1, u2] 55 (0, 0)) :=
  trSet (by rw [keep1 hn, keep1 hn, keep1 hn, keep1 hn, keep1 hn, keep1 hn]; exact h) _ _ _
set_option maxHeartbeats 16000000 in
theorem translate_two (p : Pl) (s : Hs) (root t a : Int) (u : Bool) (f : Int) (b1 b2 b3 b4 : Bool) (l c v g : Int) (ht : C.U t) (hs : ¬ s.sec < 0) (CT : ∀ w, HW w p s → Calls Tryz.prog 171 #[.iface 44 (.pointer (some ⟨p.M, 0, none⟩)), .int .i64 root, .int .i64 s.sec, .int .u64 t, .int .i64 a, .bool u] w fun e w' => e = .returned (.tuple #[E.foundV f b1 b2 b3 b4 l, E.trapV c v g]) ∧ Below w.heap.size w w') (w : World) (h : HW w p s) :
    Calls Tryz.prog 170 #[.pointer (some ⟨p.B, 0, none⟩), .int .i64 root, .int .u64 t, .int .i64 a, .bool u] w fun e w' => e = .returned (.tuple #[.int .u64 (IntKind.u64.wrap (IntKind.u64.wrap (IntKind.u64.wrap f * 256) + t % 256)), trV c v g]) ∧ Below w.heap.size w w' := by
  have hb0 : Below w.heap.size w (w.alloc zeroTrap) := (Below.refl _ _).alloc (Nat.le_refl _) _
  have h1 := h.below hb0
  have n0 := C.heap_alloc_at w zeroTrap
  have hdec : decide (s.sec < 0) = false := decide_eq_false hs
  have htm : t.tmod 256 = t % 256 := Int.tmod_eq_emod_of_nonneg ht.1
  obtain ⟨c0, c1, c2, c3, ff⟩ := h1.bus
  have l1 := h1.lt.2.2.1
  have B0 : Hid (_) := hb0
  have N0 : Hid (_) := n0
  have HX0 : Hid (_) := h1
  obtain ⟨pa, hpa⟩ : ∃ pa, IntKind.u64.wrap (IntKind.u64.wrap (IntKind.u64.wrap f * 256) + t % 256) = pa := ⟨_, rfl⟩
  rw [hpa]
  clear h h1 hb0 n0 ff c2 c3
  unfold E.foundV E.trapV trV zeroTrap at *
  go_enter Tryz.func170, Tryz.ntmps170
  go_wp2_with fail
  generalize w.alloc (.cells #[.int .i64 0, .int .u64 0, .int .u64 0] 55) = x at *
  generalize hN : w.heap.size = N at *
  have HX : Hid (HW x p s) := HX0.out
  clear HX0
  have hBx : p.B < x.heap.size := HX.out.lt.2.2.1
  have nB0 : ¬ p.B = x.heap.size := by omega
  have nB0' : ¬ x.heap.size = p.B := by omega
  have nB1 : ¬ p.B = x.heap.size + 1 := by omega
  have nB1' : ¬ x.heap.size + 1 = p.B := by omega
  have CT2 : ∀ w', HW w' p s → Calls Tryz.prog 171 #[.iface 44 (.pointer (some ⟨p.M, 0, none⟩)), .int .i64 root, .int .i64 s.sec, .int .u64 t, .int .i64 a, .bool u] w' fun e x1 => e = .returned (.tuple #[.agg #[.int .i64 f, .bool b1, .bool b2, .bool b3, .bool b4, .int .i64 l], .agg #[.int .i64 c, .int .u64 v, .int .u64 g]]) ∧ HW x1 p s ∧ Below w'.heap.size w' x1 := fun w' h' => (CT w' h').mono fun e x1 ⟨he, hb⟩ => ⟨he, h'.below hb, hb⟩
  have HCT : Hid (_) := CT2
  clear CT2
  clear CT
  go_cut [12, 13] (fun v12 v13 wx => ∃ A D, v12 = .pointer (some ⟨A, 0, none⟩) ∧ v13 = .pointer (some ⟨D, 0, none⟩) ∧ Hid (wx.heap[A]? = some (.cells #[.int .i64 f, .bool b1, .bool b2, .bool b3, .bool b4, .int .i64 l] 226 (0, 0)) ∧ wx.heap[D]? = some (.cells #[.int .i64 c, .int .u64 v, .int .u64 g] 55 (0, 0)) ∧ Below x.heap.size x wx ∧ x.heap.size ≤ A ∧ x.heap.size ≤ D))
  case first =>
    go_region_held2 (fun w'' => w''.cell? ⟨p.B, 0, none⟩ = some (.pointer (some ⟨p.M, 0, none⟩)) ∧ w''.cell? ⟨p.B, 1, none⟩ = some (.int .i64 s.sec)) (go_keep)
      ((first
        | (go_at_call 171; (with_reducible show Calls _ _ _ x.drew _); refine (HCT.out x.drew HX.out.drew).mono ?_; rintro e x1 ⟨rfl, hx, bx⟩; obtain ⟨k0, k1, _, _, _⟩ := hx.bus; have hx1B : p.B < x1.heap.size := hx.lt.2.2.1; have hxx : x.heap.size ≤ x1.heap.size := by { have := bx.size; simp at this; omega }; have HB : Hid (Below x.heap.size x x1) := ((Below.refl _ x).drew).trans bx; clear bx hx)
        | (go_at_call 171; (with_reducible show Calls _ _ _ (x.alloc (.cells #[.int .i64 0, .bool false, .bool false, .bool false, .bool false, .int .i64 0] 226)).drew _); refine (HCT.out (x.alloc (.cells #[.int .i64 0, .bool false, .bool false, .bool false, .bool false, .int .i64 0] 226)).drew HX.out.box.drew).mono ?_; rintro e x1 ⟨rfl, hx, bx⟩; obtain ⟨k0, k1, _, _, _⟩ := hx.bus; have hx1B : p.B < x1.heap.size := hx.lt.2.2.1; have hxx : x.heap.size ≤ x1.heap.size := by { have := bx.size; simp at this; omega }; have HB : Hid (Below x.heap.size x x1) := ((Below.refl _ x).alloc (Nat.le_refl _) _).drew.trans (bx.mono (by simp)); have HVA : Hid (_) := keepB (w := (x.alloc (.cells #[.int .i64 0, .bool false, .bool false, .bool false, .bool false, .int .i64 0] 226)).drew) (C.heap_alloc_at x _) bx; obtain ⟨i0, i1, i2, i3, i4, i5, j0, j1, j2, j3, j4, j5, il⟩ := fd_cells HVA.out; clear bx hx)
        | (go_at_call 171; (with_reducible show Calls _ _ _ (x.alloc (.cells #[.int .i64 0, .int .u64 0, .int .u64 0] 55)).drew _); refine (HCT.out (x.alloc (.cells #[.int .i64 0, .int .u64 0, .int .u64 0] 55)).drew HX.out.box.drew).mono ?_; rintro e x1 ⟨rfl, hx, bx⟩; obtain ⟨k0, k1, _, _, _⟩ := hx.bus; have hx1B : p.B < x1.heap.size := hx.lt.2.2.1; have hxx : x.heap.size ≤ x1.heap.size := by { have := bx.size; simp at this; omega }; have HB : Hid (Below x.heap.size x x1) := ((Below.refl _ x).alloc (Nat.le_refl _) _).drew.trans (bx.mono (by simp)); have HVD : Hid (_) := keepB (w := (x.alloc (.cells #[.int .i64 0, .int .u64 0, .int .u64 0] 55)).drew) (C.heap_alloc_at x _) bx; obtain ⟨o0, o1, o2, q0, q1, q2, ol⟩ := tr_cells' HVD.out; clear bx hx)
        | (go_at_call 171; (with_reducible show Calls _ _ _ ((x.alloc (.cells #[.int .i64 0, .bool false, .bool false, .bool false, .bool false, .int .i64 0] 226)).alloc (.cells #[.int .i64 0, .int .u64 0, .int .u64 0] 55)).drew _); refine (HCT.out ((x.alloc (.cells #[.int .i64 0, .bool false, .bool false, .bool false, .bool false, .int .i64 0] 226)).alloc (.cells #[.int .i64 0, .int .u64 0, .int .u64 0] 55)).drew HX.out.box.box.drew).mono ?_; rintro e x1 ⟨rfl, hx, bx⟩; obtain ⟨k0, k1, _, _, _⟩ := hx.bus; have hx1B : p.B < x1.heap.size := hx.lt.2.2.1; have hxx : x.heap.size ≤ x1.heap.size := by { have := bx.size; simp at this; omega }; have HB : Hid (Below x.heap.size x x1) := (((Below.refl _ x).alloc (Nat.le_refl _) _).alloc (by simp) _).drew.trans (bx.mono (by simp; omega)); have HVA2 : Hid (_) := keepB (w := ((x.alloc (.cells #[.int .i64 0, .bool false, .bool false, .bool false, .bool false, .int .i64 0] 226)).alloc (.cells #[.int .i64 0, .int .u64 0, .int .u64 0] 55)).drew) (new2 x _ _).2.1 bx; have HVD2 : Hid (_) := keepB (w := ((x.alloc (.cells #[.int .i64 0, .bool false, .bool false, .bool false, .bool false, .int .i64 0] 226)).alloc (.cells #[.int .i64 0, .int .u64 0, .int .u64 0] 55)).drew) (new2 x _ _).2.2 bx; obtain ⟨i0, i1, i2, i3, i4, i5, j0, j1, j2, j3, j4, j5, il⟩ := fd_cells HVA2.out; obtain ⟨o0, o1, o2, q0, q1, q2, ol⟩ := tr_cells' HVD2.out; clear bx hx)
        | (go_at_call 171; (with_reducible show Calls _ _ _ ((x.alloc (.cells #[.int .i64 0, .int .u64 0, .int .u64 0] 55)).alloc (.cells #[.int .i64 0, .bool false, .bool false, .bool false, .bool false, .int .i64 0] 226)).drew _); refine (HCT.out ((x.alloc (.cells #[.int .i64 0, .int .u64 0, .int .u64 0] 55)).alloc (.cells #[.int .i64 0, .bool false, .bool false, .bool false, .bool false, .int .i64 0] 226)).drew HX.out.box.box.drew).mono ?_; rintro e x1 ⟨rfl, hx, bx⟩; obtain ⟨k0, k1, _, _, _⟩ := hx.bus; have hx1B : p.B < x1.heap.size := hx.lt.2.2.1; have hxx : x.heap.size ≤ x1.heap.size := by { have := bx.size; simp at this; omega }; have HB : Hid (Below x.heap.size x x1) := (((Below.refl _ x).alloc (Nat.le_refl _) _).alloc (by simp) _).drew.trans (bx.mono (by simp; omega)); have HVA3 : Hid (_) := keepB (w := ((x.alloc (.cells #[.int .i64 0, .int .u64 0, .int .u64 0] 55)).alloc (.cells #[.int .i64 0, .bool false, .bool false, .bool false, .bool false, .int .i64 0] 226)).drew) (new2 x _ _).2.2 bx; have HVD3 : Hid (_) := keepB (w := ((x.alloc (.cells #[.int .i64 0, .int .u64 0, .int .u64 0] 55)).alloc (.cells #[.int .i64 0, .bool false, .bool false, .bool false, .bool false, .int .i64 0] 226)).drew) (new2 x _ _).2.1 bx; obtain ⟨i0, i1, i2, i3, i4, i5, j0, j1, j2, j3, j4, j5, il⟩ := fd_cells HVA3.out; obtain ⟨o0, o1, o2, q0, q1, q2, ol⟩ := tr_cells' HVD3.out; clear bx hx)))
    all_goals
      go_wp2_with fail
      go_meet
    · exact ⟨_, _, rfl, rfl, (new2 x1 _ _).2.1, (new2 x1 _ _).2.2, HB.out.trans ((new2 x1 _ _).1.mono hxx), hxx, by omega⟩
    · exact ⟨_, _, rfl, rfl, (new2 x1 _ _).2.2, (new2 x1 _ _).2.1, HB.out.trans ((new2 x1 _ _).1.mono hxx), by omega, hxx⟩
    · exact ⟨_, _, rfl, rfl, fdSet_alloc HVA.out _ _ _ _ _ _ _, fdSet_new x1 _ _ _ _ _ _ _ _, ((below_set6 HB.out (Nat.le_refl _) _ _ _ _ _ _).alloc (by simp; omega) _), Nat.le_refl _, hxx⟩
    · exact ⟨_, _, rfl, rfl, both_A HVA2.out (by omega) _ _ _ _ _ _ _ _ _, both_D HVD2.out (by omega) _ _ _ _ _ _ _ _ _, below_set3' (below_set6 HB.out (Nat.le_refl _) _ _ _ _ _ _) (Nat.le_succ _) _ _ _, Nat.le_refl _, Nat.le_succ _⟩
    · exact ⟨_, _, rfl, rfl, trSet_new x1 _ _ _ _ _, trSet_alloc HVD.out _ _ _ _, ((below_set3' HB.out (Nat.le_refl _) _ _ _).alloc (by simp; omega) _), hxx, Nat.le_refl _⟩
    · exact ⟨_, _, rfl, rfl, both_A HVA3.out (by omega) _ _ _ _ _ _ _ _ _, both_D HVD3.out (by omega) _ _ _ _ _ _ _ _ _, below_set3' (below_set6 HB.out (Nat.le_succ _) _ _ _ _ _ _) (Nat.le_refl _) _ _ _, Nat.le_succ _, Nat.le_refl _⟩
  case rest =>
    obtain ⟨A, D, rfl, rfl, hAD⟩ := hcut
    obtain ⟨hA, hD, hB, lA, lD⟩ := hAD.out
    obtain ⟨a0, a1, aL⟩ := cells6' hA
    have qA := a0 0
    simp at qA
    obtain ⟨o0, o1, o2, _, _, _, oL⟩ := tr_cells' hD
    have hNx := lt_of_heap N0.out
    obtain ⟨z0, z1, z2, f0, f1, f2, zL⟩ := tr_cells' (keepB N0.out hB)
    have B1 : Hid (Below N w wc) := B0.out.trans (hB.mono (by omega))
    have m1 : ¬ N = A := by omega
    have m2 : ¬ A = N := by omega
    have m3 : ¬ N = D := by omega
    have m4 : ¬ D = N := by omega
    clear hAD hA hD hB a0 a1 B0 N0 HX HCT c0 c1 l1
    go_wp2_with fail
    go_region
    all_goals go_wp2_with fail
    all_goals refine bodyPost_ret (v := .tuple #[.int .u64 pa, .agg #[.int .i64 c, .int .u64 v, .int .u64 g]]) (by simp [results, Tryz.results170, go_sem, z0, z1, z2]) rfl ⟨rfl, ?_⟩
    all_goals
      try rw [hN]
      exact (below_set3' B1.out (Nat.le_refl _) _ _ _).drew
end Go.Proofs.YtkckobbedpccfaaGreatDoor
namespace Go.Proofs.YtkckobbedpccfaaGreatDoor
open Go.RowKit
set_option linter.unusedVariables false
set_option maxRecDepth 100000

theorem trans_ok [E.Bits] (p : Pl) (h1 : ∀ w : World, w.heap[1]? = p.o1 → E.BT w) : TransOK p TB := by
  refine ⟨fun s root t a u w h hr ht => ?_, fun s root t a u ht => ?_, fun s root t a u ht => ?_, fun s root t a u => ?_⟩
  · unfold TB
    by_cases hs : s.sec < 0
    · rw [if_pos hs]
      exact translate_none p s root t a u hs w h
    · rw [if_neg hs]
      have CT := fun (w : World) (h : HW w p s) => E.two_any t a u root s.sec p.M p.g s.zs ht.1 ht.2 hr h.ok.sec w ⟨h.sz, h1 w h.b1, h.mm⟩
      cases hz : E.twoP s.zs root s.sec t a u with
      | ok f r x y k l =>
        rw [hz] at CT
        exact translate_two p s root t a u f r x y k l 0 0 0 ht hs CT w h
      | no c v g =>
        rw [hz] at CT
        exact translate_two p s root t a u 0 false false false false 0 c v g ht hs CT w h
  · unfold TB
    split
    · exact ht
    · unfold frT
      split <;> exact wrapU _
  · unfold TB
    split
    · exact ⟨Int.le_refl 0, by show (0 : Int) < 18446744073709551616; decide⟩
    · cases hz : E.twoP s.zs root s.sec t a u with
      | ok f r x y k l => exact ⟨Int.le_refl 0, by show (0 : Int) < 18446744073709551616; decide⟩
      | no c v g => show C.U v; rw [(E.twoP_told hz).2]; exact ht
  · unfold TB
    split
    · exact Int.le_refl 0
    · cases hz : E.twoP s.zs root s.sec t a u with
      | ok f r x y k l => exact Int.le_refl 0
      | no c v g => exact (E.twoP_told hz).1
/-- seven numbers -/
abbrev bitsIn (cs : Array Value) : E.Bits where
  b k := match cs[k]? with
    | some (.int .u64 v) => if 0 ≤ v ∧ v < 18446744073709551616 then v else 0
    | _ => 0
  lo k := by
    split
    · split
      · rename_i h; exact h.1
      · exact Int.le_refl 0
    · exact Int.le_refl 0
  hi k := by
    split
    · split
      · rename_i h; exact h.2
      · decide
    · decide
theorem bits_bt {cs : Array Value} {t : TypeId} (hc : ∀ k, k < 7 → ∃ v, cs[k]? = some (.int .u64 v) ∧ C.U v) (w : World) (h : w.heap[1]? = some (.cells cs t (0, 0))) : @E.BT (bitsIn cs) w := by
  have e : ∀ k, k < 7 → w.cell? ⟨1, k, none⟩ = some (.int .u64 ((bitsIn cs).b k)) := fun k hk => by
    obtain ⟨v, h1, h2⟩ := hc k hk
    rw [C.cell_at h, h1]
    unfold bitsIn
    dsimp only
    rw [h1]
    simp only [C.U] at h2
    simp [h2]
  exact @E.BT.mk (bitsIn cs) w (e 0 (by decide)) (e 1 (by decide)) (e 2 (by decide)) (e 3 (by decide)) (e 4 (by decide)) (e 5 (by decide)) (e 6 (by decide)) (lt_of_heap h)
theorem bits_here {W : World} (h : W.ShapedOpen Tryz.prog) : ∃ cs, W.heap[1]? = some (.cells cs 259 (0, 0)) ∧ ∀ k, k < 7 → ∃ v, cs[k]? = some (.int .u64 v) ∧ C.U v := by
  obtain ⟨cs, hh, hs, hr⟩ := h.1 1 #[.int .u64 0, .int .u64 0, .int .u64 0, .int .u64 0, .int .u64 0, .int .u64 0, .int .u64 0] 259 (of_decide_eq_true (by kernel_rfl)) (by kernel_rfl)
  refine ⟨cs, hh, fun k hk => ?_⟩
  obtain ⟨ts, hts, hlen, hall⟩ := hr (by kernel_rfl)
  have e : Tryz.prog.cellTypes Tryz.prog.depth 259 = some [62, 62, 62, 62, 62, 62, 62] := by kernel_rfl
  obtain rfl := Option.some.inj (e.symm.trans hts)
  have hlt : k < cs.size := by rw [hs]; exact hk
  obtain ⟨u, hu, hok⟩ := hall k cs[k] (Array.getElem?_eq_getElem hlt)
  have hu' : u = 62 := by
    match k, hk with
    | 0, _ | 1, _ | 2, _ | 3, _ | 4, _ | 5, _ | 6, _ => simpa using hu.symm
  subst hu'
  unfold Cell.ok at hok
  rw [Tryz.underlying62] at hok
  cases hv : cs[k] <;> rw [hv] at hok <;> try exact hok.elim
  rename_i k' n
  obtain ⟨rfl, hn⟩ := hok
  refine ⟨n, by rw [Array.getElem?_eq_getElem hlt, hv], ?_⟩
  have hn' : IntKind.u64.min ≤ n ∧ n ≤ IntKind.u64.max := hn
  rw [show IntKind.u64.min = 0 from rfl, show IntKind.u64.max = 18446744073709551615 from rfl] at hn'
  unfold C.U
  omega
end Go.Proofs.YtkckobbedpccfaaGreatDoor
