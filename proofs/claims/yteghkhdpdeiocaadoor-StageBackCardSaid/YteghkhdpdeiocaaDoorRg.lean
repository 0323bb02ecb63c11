/-
  A range over a map of one entry, and over none.
-/
import Derived.Test.YteghkhdpdeiocaaDoorBase
namespace Go.Proofs.YteghkhdpdeiocaaDoor
open Go.RowKit Go.ChangeMaps
set_option linter.unusedVariables false
set_option maxRecDepth 100000

theorem left_one (e : MapEntry) : leftOf #[e] #[] = #[e] := by simp [leftOf]
theorem left_none (e : MapEntry) : leftOf #[e] #[e.born] = #[] := by simp [leftOf]
theorem below_setBlock {B : Nat} {W w : World} (h : Below B W w) {r : Nat} (hr : B ≤ r) (o : Obj) : Below B W (setBlock w r o) :=
  ⟨h.os, h.tape, h.output, by simpa [setBlock] using h.size, fun k hk => by
    simp only [setBlock]
    rw [Array.getElem?_setIfInBounds_ne (by omega)]
    exact h.block k hk⟩
/-- the steps of a range over a map of one entry -/
theorem steps_one {w : World} {m : Nat} {e : MapEntry} {clock : Nat} (hb : w.heap[m]? = some (.map #[e] clock)) (hlt : e.born < clock) (ty : TypeId) :
    ∃ w0 w1 : World, Below w.heap.size w w0 ∧ Below w.heap.size w w1 ∧ (Instr.range 29 (.map (some m))).run Tryd.prog w = .ok (.pointer (some ⟨w.heap.size, 0, none⟩)) w0 ∧
      (Instr.next (.pointer (some ⟨w.heap.size, 0, none⟩)) false ty).run Tryd.prog w0 = .ok (.tuple #[.bool true, e.key, e.val]) w1 ∧
      (Instr.entry (.pointer (some ⟨w.heap.size, 0, none⟩))).run Tryd.prog w1 = .ok (.tuple #[e.key, e.val]) w1 ∧
      (Instr.next (.pointer (some ⟨w.heap.size, 0, none⟩)) false ty).run Tryd.prog w1 = .ok (.tuple #[.bool false]) w1 := by
  have hold : ∀ x ∈ (#[e] : Array MapEntry).toList, x.born < clock := fun x hx => by simp at hx; subst hx; exact hlt
  have h1 := run_range_map (P := Tryd.prog) w 29 3 3 m #[e] clock Tryd.underlying29 hb
  have b0 : Below w.heap.size w (w.alloc (.mapIter (some m) clock #[] clock)) := (Below.refl _ _).alloc (Nat.le_refl _) _
  have hr := heap_alloc_at w (.mapIter (some m) clock #[] clock)
  have hm0 := (heap_alloc_past w (.mapIter (some m) clock #[] clock) (lt_of_heap hb)).trans hb
  generalize w.alloc (.mapIter (some m) clock #[] clock) = w0 at *
  rcases run_next_at (P := Tryd.prog) w0 ty w.heap.size m clock clock #[] #[e] clock hr hm0 hold (Nat.le_refl _) with ⟨h0, _⟩ | ⟨x, hx, w1, hal, hrun⟩
  · rw [left_one] at h0
    simp at h0
  · rw [left_one] at hx
    simp at hx
    subst hx
    have b1 : Below w.heap.size w w1 := by
      rcases hal with rfl | rfl
      · exact b0
      · exact b0.drew
    have hsz : w1.heap.size = w0.heap.size := by rcases hal with rfl | rfl <;> rfl
    have hm1 : w1.heap[m]? = some (.map #[x] clock) := by rcases hal with rfl | rfl <;> exact hm0
    have b2 := below_setBlock b1 (Nat.le_refl _) (.mapIter (some m) clock #[x.born] clock)
    have hm2 := (b2.block m (lt_of_heap hb)).trans hb
    have hr2 : (setBlock w1 w.heap.size (.mapIter (some m) clock #[x.born] clock)).heap[w.heap.size]? = some (.mapIter (some m) clock #[x.born] clock) := by
      have : w.heap.size < w1.heap.size := by rw [hsz]; exact lt_of_heap hr
      simp [setBlock, this]
    have hrun : (Instr.next (.pointer (some ⟨w.heap.size, 0, none⟩)) false ty).run Tryd.prog w0 = .ok (.tuple #[.bool true, x.key, x.val]) (setBlock w1 w.heap.size (.mapIter (some m) clock #[x.born] clock)) := by simpa using hrun
    generalize setBlock w1 w.heap.size (.mapIter (some m) clock #[x.born] clock) = w2 at *
    refine ⟨w0, w2, b0, b2, h1, hrun, ?_, ?_⟩
    · exact run_entry_at (P := Tryd.prog) w2 w.heap.size m clock #[] #[x] clock x (by simpa using hr2) hm2 (by simp) (by simp)
    · rcases run_next_at (P := Tryd.prog) w2 ty w.heap.size m clock clock #[x.born] #[x] clock hr2 hm2 hold (Nat.le_refl _) with ⟨h0, h2⟩ | ⟨y, hy, _⟩
      · exact h2
      · rw [left_none] at hy
        simp at hy
theorem steps_nil (w : World) (ty : TypeId) : ∃ w0, Below w.heap.size w w0 ∧ (Instr.range 29 (.map none)).run Tryd.prog w = .ok (.pointer (some ⟨w.heap.size, 0, none⟩)) w0 ∧
    (Instr.next (.pointer (some ⟨w.heap.size, 0, none⟩)) false ty).run Tryd.prog w0 = .ok (.tuple #[.bool false]) w0 :=
  ⟨_, (Below.refl _ _).alloc (Nat.le_refl _) _, run_range_nilMap w 29 3 3 Tryd.underlying29, run_next_nilMap w ty 0 0 #[]⟩
end Go.Proofs.YteghkhdpdeiocaaDoor
