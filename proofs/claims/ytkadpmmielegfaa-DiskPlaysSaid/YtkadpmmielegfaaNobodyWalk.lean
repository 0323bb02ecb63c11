/-
  Disks that no call made, and what has no memory, do nothing: the walk of DiskNobody.
-/
import Derived.Test.YtkadpmmielegfaaDc
namespace Go.Proofs.Ytkadpmmielegfaa
open Go.RowKit Go.Maps
set_option linter.unusedVariables false
set_option maxRecDepth 20000

theorem cell_of {w : World} {b o : Nat} {cs : Array Value} {t : TypeId} {f : Nat × Nat} {v : Value} (h : w.heap[b]? = some (.cells cs t f)) (hv : cs[o]? = some v) : w.cell? ⟨b, o, none⟩ = some v := by
  simp only [World.cell?, h]
  exact hv
theorem submit_un (p : Value) (r : Rq) (w : World) (h : UD w p) : Calls Try.prog 12 #[p, rv r] w fun e w' => e = .returned (.int .i64 1) ∧ Below w.heap.size w w' := by
  have b1 : Below w.heap.size w (w.alloc (.cells (rc r).toArray 38)) := (Below.refl _ _).alloc (Nat.le_refl _) _
  have C := has_un p r.b _ (h.below b1)
  simp only [rc, rv] at *
  go_enter Try.func12, Try.ntmps12
  go_wp2_with fail
  refine C.mono ?_
  rintro e w1 ⟨rfl, rfl⟩
  go_wp2_with fail
  go_ret
  exact ⟨rfl, b1⟩

/-- the call that came in (block A), and two disks that no call made (row L, block E) -/
structure NB (w0 w : World) (A L E : Nat) (kd : Int) (r : Rq) (K : Int) (bs : Value) : Prop where
  bel : Below w0.heap.size w0 w
  a : w.heap[A]? = some (.cells #[.int .i64 kd, .int .i64 r.i, .bool r.w, .int .i64 r.b, .int .i64 r.f, .int .i64 K, bs] 41 (0, 0))
  l : w.heap[L]? = some (.cells #[.pointer none, .pointer (some ⟨E, 0, none⟩)] 23 (0, 0))
  e : w.heap[E]? = some (.cells #[.int .i64 0, .map none, .slice none 0 0] 66 (0, 0))
theorem NB.below {w0 w w' : World} {A L E : Nat} {kd : Int} {r : Rq} {K : Int} {bs : Value} (h : NB w0 w A L E kd r K bs) (hb : Below w.heap.size w w') : NB w0 w' A L E kd r K bs :=
  ⟨h.bel.trans (hb.mono h.bel.size), (hb.block A (lt_of_heap h.a)).trans h.a, (hb.block L (lt_of_heap h.l)).trans h.l, (hb.block E (lt_of_heap h.e)).trans h.e⟩
theorem NB.cells {w0 w : World} {A L E : Nat} {kd : Int} {r : Rq} {K : Int} {bs : Value} (h : NB w0 w A L E kd r K bs) :
    w.cell? ⟨A, 1, none⟩ = some (.int .i64 r.i) ∧ w.cell? ⟨A, 2, none⟩ = some (.bool r.w) ∧ w.cell? ⟨A, 3, none⟩ = some (.int .i64 r.b) ∧ w.cell? ⟨A, 4, none⟩ = some (.int .i64 r.f) ∧ w.cell? ⟨A, 5, none⟩ = some (.int .i64 K) ∧ w.cell? ⟨A, 6, none⟩ = some bs ∧
    w.cell? ⟨L, 0, none⟩ = some (.pointer none) ∧ w.cell? ⟨L, 1, none⟩ = some (.pointer (some ⟨E, 0, none⟩)) ∧ A < w.heap.size ∧ L < w.heap.size := by
  refine ⟨?_, ?_, ?_, ?_, ?_, ?_, ?_, ?_, lt_of_heap h.a, lt_of_heap h.l⟩ <;> simp [World.cell?, h.a, h.l]
theorem NB.ud {w0 w : World} {A L E : Nat} {kd : Int} {r : Rq} {K : Int} {bs : Value} (h : NB w0 w A L E kd r K bs) (p : Value) (hp : p = .pointer none ∨ p = .pointer (some ⟨E, 0, none⟩)) : UD w p := by
  rcases hp with rfl | rfl
  · exact .inl rfl
  · exact .inr ⟨E, rfl, lt_of_heap h.e, by simp [World.cell?, h.e]⟩

namespace diskNobody
set_option maxHeartbeats 1600000 in
theorem walk (kd : Int) (r : Rq) (K : Int) (a : Option Addr) (n c : Nat) (w : World) :
    Calls Try.prog 4 #[.agg #[.int .i64 kd, .int .i64 r.i, .bool r.w, .int .i64 r.b, .int .i64 r.f, .int .i64 K, .slice a n c]] w fun e w' => e = .returned (.bool true) ∧ Below w.heap.size w w' := by
  go_enter Try.func4, Try.ntmps4
  go_wp2_with fail
  have MN := fun w' : World => new_yes 1 w' (by omega) (by omega)
  rw [show ((1 : Nat) : Int) = 1 from rfl] at MN
  refine (MN _).mono ?_
  rintro e w1 ⟨b, g, rfl, m1, lb, lg, b1⟩
  clear MN
  have bw1 : Below w.heap.size w w1 := ((Below.refl w.heap.size w).alloc (Nat.le_refl _) _).trans (b1.mono (by simp))
  have ha1 := (b1.block w.heap.size (by simp)).trans (heap_alloc_at w _)
  have N0 : NB w ((w1.alloc (.cells #[.int .i64 0, .map none, .slice none 0 0] 66)).alloc (.cells #[.pointer none, .pointer (some ⟨w1.heap.size, 0, none⟩)] 23)) w.heap.size (w1.heap.size + 1) w1.heap.size kd r K (.slice a n c) := by
    have hl := lt_of_heap ha1
    refine ⟨(bw1.alloc bw1.size _).alloc (by have := bw1.size; simp; omega) _, ?_, at_next _ _ _, ?_⟩
    · rw [heap_alloc_past _ _ (by simp; omega), heap_alloc_past _ _ hl]
      exact ha1
    · rw [heap_alloc_past _ _ (by simp)]
      exact heap_alloc_at _ _
  have HN : Hid (_) := N0
  have hz1 := bw1.size
  clear m1 lb lg b1 ha1 bw1 N0
  go_wp2_with fail
  go_loopw [25] (fun i wr => ∃ j : Nat, j ≤ 2 ∧ i = .int .i64 j ∧ Hid (NB w wr w.heap.size (w1.heap.size + 1) w1.heap.size kd r K (.slice a n c))) (fun i _ => 2 - (intOf i).toNat)
  case atStart => exact ⟨0, by omega, rfl, HN⟩
  case round =>
    obtain ⟨j, hj, rfl, NR⟩ := hrel
    clear HN
    by_cases hj2 : j < 2
    · obtain ⟨d, hd, hdc⟩ : ∃ d, (d = .pointer none ∨ d = .pointer (some ⟨w1.heap.size, 0, none⟩)) ∧ wr.cell? ⟨w1.heap.size + 1, j, none⟩ = some d := by
        obtain ⟨_, _, _, _, _, _, l0, l1, _⟩ := NR.out.cells
        rcases (by omega : j = 0 ∨ j = 1) with rfl | rfl
        · exact ⟨_, .inl rfl, l0⟩
        · exact ⟨_, .inr rfl, l1⟩
      have hj' : (j : Int) < 2 := by omega
      have ll := NR.out.cells.2.2.2.2.2.2.2.2.2
      have C1 := complete_un d (.pointer (some ⟨b, 0, none⟩)) 0 wr (NR.out.ud d hd)
      simp only [rv, q0] at C1
      have HD : Hid (d = .pointer none ∨ d = .pointer (some ⟨w1.heap.size, 0, none⟩)) := hd
      clear hd
      go_wp2_with fail
      refine C1.mono ?_
      rintro e y1 ⟨rfl, k1⟩
      clear C1 hdc
      have k2 : Below wr.heap.size wr (y1.alloc (.cells #[.int .i64 0, .bool false, .int .i64 0, .int .i64 0] 38)) := k1.alloc k1.size _
      have N2 := NR.out.below k2
      obtain ⟨a1, a2, a3, a4, a5, a6, _, _, al, _⟩ := (NR.out.below k1).cells
      have ud2 := N2.ud d HD.out
      have C2 := block_un d K _ ud2
      have C3 := blocks_un d _ ud2
      have C4 := submit_un d r _ ud2
      unfold rv at C4
      have HN2 : Hid (_) := N2
      clear N2 k1 k2 ud2
      go_wp2_with fail
      refine C2.mono ?_
      rintro e y ⟨rfl, rfl⟩
      clear C2
      go_wp2_with fail
      refine C3.mono ?_
      rintro e y ⟨rfl, rfl⟩
      clear C3
      go_wp2_with fail
      refine C4.mono ?_
      rintro e y2 ⟨rfl, k3⟩
      clear C4 a1 a2 a3 a4 a5 a6 al
      have N3 := HN2.out.below k3
      obtain ⟨a1, a2, a3, a4, a5, a6, _, _, al, _⟩ := N3.cells
      have x := (bcell k3).1 y1.heap.size
      have x0 := x 0 (by simp)
      have x1 := x 1 (by simp)
      have x2 := x 2 (by simp)
      have x3 := x 3 (by simp)
      have xl : y1.heap.size < y2.heap.size := by have := k3.size; simp at this; omega
      have ud3 := N3.ud d HD.out
      have C5 := pending_un d _ ud3
      have C6 := put_un d K (.slice a n c) _ ud3
      have HN3 : Hid (_) := N3
      clear N3 k3 ud3 x
      go_wp2_with fail
      refine C5.mono ?_
      rintro e y ⟨rfl, rfl⟩
      clear C5
      go_wp2_with fail
      refine C6.mono ?_
      rintro e y ⟨rfl, rfl⟩
      clear C6
      go_wp2_with fail
      go_roundw
      case rel => exact ⟨j + 1, by omega, by go_num, HN3⟩
      case measure => simp [intOf]; omega
    · obtain rfl : j = 2 := by omega
      have DN := fun w' : World => dnew_yes 1 w' (by omega) (by omega)
      rw [show ((1 : Nat) : Int) = 1 from rfl] at DN
      have bel := NR.out.bel
      have HB : Hid (Below w.heap.size w wr) := bel
      clear bel
      go_wp2_with fail
      refine (DN _).mono ?_
      rintro e y1 ⟨D, m, rfl, h1, l1, l2, k1⟩
      clear DN
      have h2 := h1 0
      have SU := submit_dk 0 D m 1 _ [] _ q0 y1 h2 (by omega)
      rw [show subE 1 [] q0 = 0 by decide, show subP 1 [] q0 = [q0] by decide] at SU
      simp only [rv, q0] at SU
      have HB1 : Hid (Below w.heap.size w y1) := HB.out.trans (k1.mono HB.out.size)
      have HX : Hid (w.heap.size ≤ D ∧ w.heap.size ≤ m) := ⟨by have := HB.out.size; omega, by have := HB.out.size; omega⟩
      clear h1 h2 k1 l1 l2
      go_wp2_with fail
      refine SU.mono ?_
      rintro e y2 ⟨rfl, v', h2, t2⟩
      clear SU
      have HB2 : Hid (Below w.heap.size w y2) := HB1.out.trans ⟨t2.os, t2.tape, t2.output, by have := t2.size; have := HB1.out.size; omega, fun k hk => t2.block k (by have := HB1.out.size; omega) (fun e => by
        rcases e with e | e
        · have := HX.out.1; omega
        · simp [Value.ownBlock] at e)⟩
      have C7 := complete_nil 0 D m 1 v' _ _ (.pointer none) 0 y2 h2 (HV.nil _)
      simp only [rv, q0] at C7
      have H2 : Hid (DK 0 y2 D m 1 v' [⟨0, false, 0, 0⟩] (List.replicate (1 * 256) 0)) := h2
      clear h2 t2
      go_wp2_with fail
      refine C7.mono ?_
      rintro e y3 ⟨rfl, k3⟩
      clear C7
      have k4 : Below y2.heap.size y2 ((y3.alloc (.cells #[.int .i64 0, .bool false, .int .i64 0, .int .i64 0] 38)).alloc (.cells #[.slice none 0 0] 71)) := (k3.alloc k3.size _).alloc (by have := k3.size; simp; omega) _
      have C8 := complete_nil 0 D m 1 v' _ _ (.pointer (some ⟨y3.heap.size + 1, 0, none⟩)) 0 _ (H2.out.below k4) (.inr ⟨y3.heap.size + 1, rfl, by simp, cell_of (at_next _ _ _) rfl⟩)
      simp only [rv, q0] at C8
      have HK : Hid (_) := k4
      clear k4 k3
      go_wp2_with fail
      refine C8.mono ?_
      rintro e y4 ⟨rfl, k5⟩
      clear C8
      have k6 : Below y2.heap.size y2 (y4.alloc (.cells #[.int .i64 0, .bool false, .int .i64 0, .int .i64 0] 38)) := (HK.out.trans (k5.mono HK.out.size)).alloc (by have := HK.out.size; have := k5.size; omega) _
      have C9 := pending_dk 0 D m 1 v' _ _ _ (H2.out.below k6)
      have HB6 : Hid (Below w.heap.size w (y4.alloc (.cells #[.int .i64 0, .bool false, .int .i64 0, .int .i64 0] 38))) := HB2.out.trans (k6.mono HB2.out.size)
      clear k5 k6
      go_wp2_with fail
      refine C9.mono ?_
      rintro e y5 ⟨g', rfl, _, _, k7⟩
      clear C9
      go_wp2_with fail
      go_ret
      exact ⟨rfl, HB6.out.trans (k7.mono HB6.out.size)⟩
end diskNobody
end Go.Proofs.Ytkadpmmielegfaa
