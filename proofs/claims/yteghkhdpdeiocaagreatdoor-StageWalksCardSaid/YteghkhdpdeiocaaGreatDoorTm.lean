/-
  What Look and Root do: their contracts.
-/
import Derived.Test.YteghkhdpdeiocaaGreatDoorGR
namespace Go.Proofs.YteghkhdpdeiocaaGreatDoor
open Go.RowKit Go.Maps
set_option linter.unusedVariables false
set_option maxRecDepth 100000

theorem B3.fs {W : World} {q : Nat} {a b c : Bool} (h : B3 W q a b c) : W.frozen? ⟨q, 0, none⟩ = false ∧ W.frozen? ⟨q, 1, none⟩ = false ∧ W.frozen? ⟨q, 2, none⟩ = false := ⟨froz_at h _, froz_at h _, froz_at h _⟩
section
variable {B : Nat → Prop} {w w' : World} {b g D T L gu n : Nat} {O : Nat → Prop} {z : Zs}
/-- what Look tells -/
def lkV (z : Zs) (p : Int) : Value := if unQ z p = 0 then (match z.x.pg p.toNat with
    | none => .tuple #[.int .i64 0, .agg #[.bool false, .bool false, .bool false], .bool false]
    | some a => .tuple #[.int .i64 a.f, .agg #[.bool a.r, .bool a.w, .bool a.x], .bool true]) else .tuple #[.int .i64 0, .agg #[.bool false, .bool false, .bool false], .bool false]
theorem root_sx (h : SX B w b g D T L gu z) (hr : -1 ≤ z.x.rt) : Calls Tryz.prog 12 #[.pointer (some ⟨T, 0, none⟩)] w fun e w' => e = .returned (.int .i64 z.x.rt) ∧ w' = w := by
  have C := state_sx h hr
  have c3 := h.tb.c3
  have hl := h.tb.lt
  clear h
  unfold stE at C
  by_cases hx : z.x.rt < 0
  · rw [if_pos hx] at C
    rw [show z.x.rt = -1 by omega]
    go_enter Tryz.func12, Tryz.ntmps12
    go_wp2_with fail
    refine C.mono ?_
    rintro e w1 ⟨rfl, rfl⟩
    go_wp2_with fail
    go_ret
    exact ⟨rfl, rfl⟩
  · rw [if_neg hx] at C
    generalize z.x.rt = y at *
    go_enter Tryz.func12, Tryz.ntmps12
    go_wp2_with fail
    refine C.mono ?_
    rintro e w1 ⟨rfl, rfl⟩
    go_wp2_with fail
    go_ret
    exact ⟨rfl, rfl⟩
set_option maxHeartbeats 1600000 in
theorem look_sx (h : SX B w b g D T L gu z) (hi : Iv n O z) (p : Int) : Calls Tryz.prog 10 #[.pointer (some ⟨T, 0, none⟩), .int .i64 p] w fun e w1 => e = .returned (lkV z p) ∧ Below w.heap.size w w1 := by
  have HB : Hid (Below w.heap.size w (w.alloc (.cells #[.bool false, .bool false, .bool false] 29))) := (Below.refl _ _).alloc (Nat.le_refl _) _
  have HS : Hid (SX B (w.alloc (.cells #[.bool false, .bool false, .bool false] 29)) b g D T L gu z ∧ B3 (w.alloc (.cells #[.bool false, .bool false, .bool false] 29)) w.heap.size false false false) := ⟨h.below HB.out, heap_alloc_at _ _⟩
  have C := mapped_sx HS.out.1 hi p
  unfold lkV
  by_cases h0 : unQ z p = 0
  · rw [if_pos h0]
    obtain ⟨hr, P, y, rfl, hP, hy⟩ := unQ_ok h0
    have e1 : mdV z P = .agg #[.bool true, .bool y.r, .bool y.w, .bool y.x, .bool true, .bool false, .bool false, .int .i64 y.f] := by unfold mdV; rw [if_pos h0, Int.toNat_natCast, hy]
    rw [e1, h0] at C
    rw [Int.toNat_natCast, hy]
    simp only
    have R0 := rightsOf_any true y.r y.w y.x true false false y.f
    unfold E.ent at R0
    clear h hi h0 e1 hy
    go_enter Tryz.func10, Tryz.ntmps10
    go_wp2_with fail
    refine C.mono ?_
    rintro e w1 ⟨rfl, hb1⟩
    have hs1 : w.heap.size < w1.heap.size := by have := hb1.size; simp at this; omega
    have H1 : Hid (Below w.heap.size w (w1.alloc (.cells #[.bool true, .bool y.r, .bool y.w, .bool y.x, .bool true, .bool false, .bool false, .int .i64 y.f] 93)).drew ∧ B3 (w1.alloc (.cells #[.bool true, .bool y.r, .bool y.w, .bool y.x, .bool true, .bool false, .bool false, .int .i64 y.f] 93)).drew w.heap.size false false false ∧ EB (w1.alloc (.cells #[.bool true, .bool y.r, .bool y.w, .bool y.x, .bool true, .bool false, .bool false, .int .i64 y.f] 93)).drew w1.heap.size true y.r y.w y.x true false false y.f) := ⟨((HB.out.trans (hb1.mono (by simp))).alloc (by omega) _).drew, (heap_alloc_past _ _ hs1).trans ((hb1.block _ (by simp)).trans (heap_alloc_at w _)), heap_alloc_at _ _⟩
    have hQ1 : w.heap.size ≠ w1.heap.size := by omega
    have hQ2 : w1.heap.size ≠ w.heap.size := by omega
    have e1 := H1.out.2.2.cs
    clear hb1 C HS HB
    go_wp2_with fail
    go_region_held2 (fun W => W.cell? ⟨w1.heap.size, 0, none⟩ = some (.bool true) ∧ W.cell? ⟨w1.heap.size, 1, none⟩ = some (.bool y.r) ∧ W.cell? ⟨w1.heap.size, 2, none⟩ = some (.bool y.w) ∧ W.cell? ⟨w1.heap.size, 3, none⟩ = some (.bool y.x) ∧ W.cell? ⟨w1.heap.size, 4, none⟩ = some (.bool true) ∧ W.cell? ⟨w1.heap.size, 5, none⟩ = some (.bool false) ∧ W.cell? ⟨w1.heap.size, 6, none⟩ = some (.bool false) ∧ W.cell? ⟨w1.heap.size, 7, none⟩ = some (.int .i64 y.f))
      (first | exact e1 | exact e2 | (simp only [World.cell?_setCell_other _ _ _ _ (show (⟨w.heap.size, 0, none⟩ : Addr) ≠ ⟨w1.heap.size, _, none⟩ from fun e => hQ1 (congrArg Addr.block e))]; exact e2) | (refine ⟨?_, ?_, ?_, ?_, ?_, ?_, ?_, ?_⟩ <;> simp [go_sem, e2]))
      (first
        | (go_at_call 37; refine (R0 _).mono ?_; rintro q y1 ⟨rfl, hY1⟩; (have H2 : Hid (Below w.heap.size w y1 ∧ B3 y1 w.heap.size false false false ∧ EB y1 w1.heap.size true y.r y.w y.x true false false y.f) := ⟨H1.out.1.trans (hY1.mono (by have := H1.out.1.size; omega)), H1.out.2.1.below hY1, (hY1.block _ (lt_of_heap H1.out.2.2)).trans H1.out.2.2⟩); (have e2 := H2.out.2.2.cs); (have f2 := H2.out.2.1.fs); (have g2 := H2.out.2.1.cs)))
    go_wp2_with fail
    refine bodyPost_ret (v := .tuple #[.int .i64 y.f, .agg #[.bool y.r, .bool y.w, .bool y.x], .bool true]) ?h1 rfl ⟨rfl, ?h2⟩
    case h1 => simp [results, Tryz.results10, go_sem, g2]
    case h2 => exact ((H2.out.1.setCell (Nat.le_refl _) _).setCell (Nat.le_refl _) _).setCell (Nat.le_refl _) _
  · rw [if_neg h0]
    have e1 : mdV z p = .agg #[.bool false, .bool false, .bool false, .bool false, .bool false, .bool false, .bool false, .int .i64 0] := by unfold mdV; rw [if_neg h0]
    rw [e1] at C
    clear h hi e1
    generalize unQ z p = y at *
    go_enter Tryz.func10, Tryz.ntmps10
    go_wp2_with fail
    refine C.mono ?_
    rintro e w1 ⟨rfl, hb1⟩
    have hs1 : w.heap.size < w1.heap.size := by have := hb1.size; simp at this; omega
    have H1 : Hid (Below w.heap.size w w1 ∧ B3 w1 w.heap.size false false false) := ⟨HB.out.trans (hb1.mono (by simp)), (hb1.block _ (by simp)).trans (heap_alloc_at w _)⟩
    have e1 := H1.out.2.cs
    have f1 := H1.out.2.fs
    clear hb1 C HS HB
    go_wp2_with fail
    refine bodyPost_ret (v := .tuple #[.int .i64 0, .agg #[.bool false, .bool false, .bool false], .bool false]) ?h1 rfl ⟨rfl, ?h2⟩
    case h1 => simp [results, Tryz.results10, go_sem, e1]
    case h2 =>
      have hq := H1.out.1.size
      first
        | exact (((H1.out.1.alloc (by omega) _).setCell (Nat.le_refl _) _).setCell (Nat.le_refl _) _).setCell (Nat.le_refl _) _
        | exact ((((H1.out.1.setCell (Nat.le_refl _) _).setCell (Nat.le_refl _) _).setCell (Nat.le_refl _) _).alloc (by simp; omega) _)
end
end Go.Proofs.YteghkhdpdeiocaaGreatDoor
