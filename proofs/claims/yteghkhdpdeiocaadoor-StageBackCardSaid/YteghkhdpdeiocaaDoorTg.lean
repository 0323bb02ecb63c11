/-
  What set, find and mapped do: their contracts.
-/
import Derived.Test.YteghkhdpdeiocaaDoorTs
namespace Go.Proofs.YteghkhdpdeiocaaDoor
open Go.RowKit Go.Maps
set_option linter.unusedVariables false
set_option maxRecDepth 100000

/-- a page's places, as they are reckoned -/
theorem quo_w (p : Nat) (hp : p < 1024) : IntKind.i64.wrap ((p : Int) / 32) = (p : Int) / 32 := by rw [IntKind.wrap_i64]; omega
theorem rem_w (p : Nat) : (p : Int).tmod 32 = (p : Int) % 32 := by rw [Int.tmod_eq_emod_of_nonneg (by omega)]
/-- an entry in a block of its own -/
def EB (W : World) (q : Nat) (v r w' x u s d : Bool) (fr : Int) : Prop := W.heap[q]? = some (.cells #[.bool v, .bool r, .bool w', .bool x, .bool u, .bool s, .bool d, .int .i64 fr] 78 (0, 0))
theorem EB.cs {W : World} {q : Nat} {v r w' x u s d : Bool} {fr : Int} (h : EB W q v r w' x u s d fr) : W.cell? ⟨q, 0, none⟩ = some (.bool v) ∧ W.cell? ⟨q, 1, none⟩ = some (.bool r) ∧ W.cell? ⟨q, 2, none⟩ = some (.bool w') ∧ W.cell? ⟨q, 3, none⟩ = some (.bool x) ∧ W.cell? ⟨q, 4, none⟩ = some (.bool u) ∧ W.cell? ⟨q, 5, none⟩ = some (.bool s) ∧ W.cell? ⟨q, 6, none⟩ = some (.bool d) ∧ W.cell? ⟨q, 7, none⟩ = some (.int .i64 fr) := by
  unfold EB at h
  refine ⟨?_, ?_, ?_, ?_, ?_, ?_, ?_, ?_⟩ <;> rw [cell_at h] <;> rfl
theorem EB.fs {W : World} {q : Nat} {v r w' x u s d : Bool} {fr : Int} (h : EB W q v r w' x u s d fr) : W.frozen? ⟨q, 0, none⟩ = false ∧ W.frozen? ⟨q, 1, none⟩ = false ∧ W.frozen? ⟨q, 2, none⟩ = false ∧ W.frozen? ⟨q, 3, none⟩ = false ∧ W.frozen? ⟨q, 4, none⟩ = false ∧ W.frozen? ⟨q, 5, none⟩ = false ∧ W.frozen? ⟨q, 6, none⟩ = false ∧ W.frozen? ⟨q, 7, none⟩ = false := by
  unfold EB at h
  refine ⟨?_, ?_, ?_, ?_, ?_, ?_, ?_, ?_⟩ <;> exact froz_at h _
section
variable {B : Nat → Prop} {w w' : World} {b g D T L gu : Nat} {z : Zs}
set_option maxHeartbeats 1600000 in
/-- a page's entry written -/
theorem set_sx (h : SX B w b g D T L gu z) {p F : Nat} (hp : p < 1024) (hl : z.x.lo (p / 32) = F) (hf : F * 256 + 256 ≤ z.m.length) (v r w' x u s d : Bool) (fr : Int) : Calls Tryd.prog 23 #[.pointer (some ⟨T, 0, none⟩), .int .i64 p, E.ent v r w' x u s d fr] w fun e w1 => e = .returned (.tuple #[]) ∧ SX B w1 b g D T L gu ⟨set8 z.m F (p % 32) (E.packN v r w' x u s d fr), z.S, z.x⟩ ∧ Tn (fun k => k = g) B w w1 := by
  have HB : Hid (Below w.heap.size w (w.alloc (.cells #[.bool v, .bool r, .bool w', .bool x, .bool u, .bool s, .bool d, .int .i64 fr] 78))) := (Below.refl _ _).alloc (Nat.le_refl _) _
  have HS : Hid (SX B (w.alloc (.cells #[.bool v, .bool r, .bool w', .bool x, .bool u, .bool s, .bool d, .int .i64 fr] 78)) b g D T L gu z) := h.below HB.out
  have hz := h.tb.lt
  have HG : Hid (w.heap.size ≠ g) := fun e => by have := h.mm.glt; omega
  clear h
  have C2 := write_sx HS.out.drew F (p % 32) hf (by omega) v r w' x u s d fr
  have hp1 : (p : Int) < 1024 := by omega
  have hq : (p : Int) / 32 = ((p / 32 : Nat) : Int) := by omega
  have hr : (p : Int) % 32 = ((p % 32 : Nat) : Int) := by omega
  have hw := quo_w p hp
  have hm := rem_w p
  have hlk : ∀ W m' S', SX B W b g D T L gu ⟨m', S', z.x⟩ → (Instr.lookup 29 (.map (some L)) (.int .i64 ((p : Int) / 32)) false).run Tryd.prog W = .ok (.int .i64 F) W := fun W m' S' hW => by
    have lr : (Instr.lookup 29 (.map (some L)) (.int .i64 ((p / 32 : Nat) : Int)) false).run Tryd.prog W = .ok ((loM z.x.lo (p / 32)).getD zv) W := look_run hW.mp (p / 32) (by omega)
    rw [hq, lr, loM_some (by omega) (by rw [hl]; omega), hl]
    rfl
  have HQ : Hid (EB (w.alloc (.cells #[.bool v, .bool r, .bool w', .bool x, .bool u, .bool s, .bool d, .int .i64 fr] 78)).drew w.heap.size v r w' x u s d fr) := heap_alloc_at _ _
  rw [← hr] at C2
  have HK : Hid (_) := hlk
  have hc1 := And.intro HS.out.drew.tb.c4 (And.intro (hlk _ z.m z.S HS.out.drew) HQ.out.cs)
  clear hq hr hlk
  unfold E.ent at *
  go_enter Tryd.func23, Tryd.ntmps23
  go_wp2_with fail
  go_region_held2 (fun W => W.cell? ⟨T, 4, none⟩ = some (.map (some L)) ∧ (Instr.lookup 29 (.map (some L)) (.int .i64 ((p : Int) / 32)) false).run Tryd.prog W = .ok (.int .i64 F) W ∧ W.cell? ⟨w.heap.size, 0, none⟩ = some (.bool v) ∧ W.cell? ⟨w.heap.size, 1, none⟩ = some (.bool r) ∧ W.cell? ⟨w.heap.size, 2, none⟩ = some (.bool w') ∧ W.cell? ⟨w.heap.size, 3, none⟩ = some (.bool x) ∧ W.cell? ⟨w.heap.size, 4, none⟩ = some (.bool u) ∧ W.cell? ⟨w.heap.size, 5, none⟩ = some (.bool s) ∧ W.cell? ⟨w.heap.size, 6, none⟩ = some (.bool d) ∧ W.cell? ⟨w.heap.size, 7, none⟩ = some (.int .i64 fr))
    (first | exact hc1 | exact hc2)
    (first
      | (go_at_call 56; refine C2.mono ?_; rintro q y2 ⟨rfl, hY, hT⟩; (have H2 : Hid (SX B y2 b g D T L gu ⟨set8 z.m F (p % 32) (E.packN v r w' x u s d fr), z.S, z.x⟩ ∧ Tn (fun k => k = g) B (w.alloc (.cells #[.bool v, .bool r, .bool w', .bool x, .bool u, .bool s, .bool d, .int .i64 fr] 78)).drew y2) := ⟨hY, hT⟩); (have hc2 := And.intro hY.tb.c4 (And.intro (HK.out _ _ _ hY) (EB.cs (hT.keep _ _ HQ.out HG.out (.inr (not_of (by decide)))))))))
  go_wp2_with fail
  go_end0
  exact ⟨rfl, H2.out.1, (Tn.of_below HB.out).drew.trans H2.out.2⟩
end
end Go.Proofs.YteghkhdpdeiocaaDoor
