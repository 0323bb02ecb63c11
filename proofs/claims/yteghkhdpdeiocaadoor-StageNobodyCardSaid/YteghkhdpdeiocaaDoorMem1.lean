/-
  What a memory is in the heap, and what the small functions over it do: their contracts.
-/
import Derived.Test.YteghkhdpdeiocaaDoorBytes
import Derived.Laws.CopyOwn
namespace Go.Proofs.YteghkhdpdeiocaaDoor
open Go.RowKit
set_option linter.unusedVariables false
set_option maxRecDepth 100000

/-- a memory that New or Clone made: its block b, the row g of its bytes -/
structure MM (w : World) (b g : Nat) (zs : List Int) : Prop where
  cell : w.heap[b]? = some (.cells #[.slice (some ⟨g, 0, none⟩) zs.length zs.length] 96 (0, 0))
  row : w.heap[g]? = some (.cells (zs.map (Value.int .u8)).toArray 5 (0, 0))
  ne : b ≠ g
  bytes : Bytes zs
  pos : 0 < zs.length
  len : zs.length ≤ 16777216

theorem lt_of_heap {w : World} {b : Nat} {o : Obj} (h : w.heap[b]? = some o) : b < w.heap.size := (Array.getElem?_eq_some_iff.1 h).1
theorem MM.blt {w : World} {b g : Nat} {zs : List Int} (h : MM w b g zs) : b < w.heap.size := lt_of_heap h.cell
theorem MM.glt {w : World} {b g : Nat} {zs : List Int} (h : MM w b g zs) : g < w.heap.size := lt_of_heap h.row
theorem MM.cell0 {w : World} {b g : Nat} {zs : List Int} (h : MM w b g zs) : w.cell? ⟨b, 0, none⟩ = some (.slice (some ⟨g, 0, none⟩) zs.length zs.length) := by
  simp [World.cell?, h.cell]
theorem MM.rowAt {w : World} {b g : Nat} {zs : List Int} (h : MM w b g zs) (i : Nat) (hi : i < zs.length) : w.cell? ⟨g, i, none⟩ = some (.int .u8 (zs.getD i 0)) := by
  simp [World.cell?, h.row, List.getElem?_eq_getElem hi]
theorem MM.kept {w w' : World} {b g : Nat} {zs : List Int} (h : MM w b g zs) {r : Option Nat} (hk : w.grownBy w' r) (hb : some b ≠ r) (hg : some g ≠ r) : MM w' b g zs :=
  ⟨(hk.block b h.blt hb).trans h.cell, (hk.block g h.glt hg).trans h.row, h.ne, h.bytes, h.pos, h.len⟩
theorem MM.below {w w' : World} {b g : Nat} {zs : List Int} (h : MM w b g zs) (hk : Below w.heap.size w w') : MM w' b g zs :=
  ⟨(hk.block b h.blt).trans h.cell, (hk.block g h.glt).trans h.row, h.ne, h.bytes, h.pos, h.len⟩

theorem bytes_mid {zs : List Int} (h : Bytes zs) (o n : Nat) : Bytes ((zs.drop o).take n) := by
  intro i
  by_cases hi : i < n
  · have := h (o + i)
    simp only [List.getD, List.getElem?_take, hi, if_true, List.getElem?_drop] at this ⊢
    exact this
  · simp [List.getD, List.getElem?_take, hi]
/-- a piece of its bytes, as a slice -/
theorem MM.sl {w : World} {b g : Nat} {zs : List Int} (h : MM w b g zs) (o n : Nat) (hn : o + n ≤ zs.length) : SL w (some ⟨g, o, none⟩) n ((zs.drop o).take n) := by
  refine ⟨by simp; omega, bytes_mid h.bytes o n, .inr ⟨g, o, rfl, h.glt, fun i hi => ?_⟩⟩
  rw [h.rowAt (o + i) (by omega)]
  simp [List.getD, hi, List.getElem?_drop]
theorem MM.slAll {w : World} {b g : Nat} {zs : List Int} (h : MM w b g zs) : SL w (some ⟨g, 0, none⟩) zs.length zs := by
  have := h.sl 0 zs.length (by omega)
  simpa using this

/-- what stands in the memory that p points to: nothing, if p is nil or no call made it -/
def HV (w : World) (p v : Value) : Prop := (p = .pointer none ∧ v = .slice none 0 0) ∨ ∃ b, p = .pointer (some ⟨b, 0, none⟩) ∧ b < w.heap.size ∧ w.cell? ⟨b, 0, none⟩ = some v
theorem MM.hv {w : World} {b g : Nat} {zs : List Int} (h : MM w b g zs) : HV w (.pointer (some ⟨b, 0, none⟩)) (.slice (some ⟨g, 0, none⟩) zs.length zs.length) := .inr ⟨b, rfl, h.blt, h.cell0⟩
theorem HV.nil (w : World) : HV w (.pointer none) (.slice none 0 0) := .inl ⟨rfl, rfl⟩
theorem HV.below {w w' : World} {p v : Value} (h : HV w p v) (hk : Below w.heap.size w w') : HV w' p v := by
  rcases h with h | ⟨b, rfl, hlt, hc⟩
  · exact .inl h
  · exact .inr ⟨b, rfl, Nat.lt_of_lt_of_le hlt hk.size, ((bcell hk).1 b 0 hlt).trans hc⟩

theorem held_any (p v : Value) (w : World) (h : HV w p v) : Calls Tryd.prog 58 #[p] w fun e w' => e = .returned v ∧ w' = w := by
  rcases h with ⟨rfl, rfl⟩ | ⟨b, rfl, hlt, hc⟩
  · go_enter Tryd.func58, Tryd.ntmps58
    go_wp2
    go_ret
    exact ⟨rfl, rfl⟩
  · go_enter Tryd.func58, Tryd.ntmps58
    go_wp2
    go_ret
    exact ⟨rfl, rfl⟩
theorem made_any (p : Value) (a : Option Addr) (n c : Nat) (w : World) (h : HV w p (.slice a n c)) : Calls Tryd.prog 86 #[p] w fun e w' => e = .returned (.bool (decide (0 < n))) ∧ w' = w := by
  go_enter Tryd.func86, Tryd.ntmps86
  go_wp2_with fail
  refine (held_any _ _ _ h).mono ?_
  rintro e w1 ⟨rfl, rfl⟩
  go_wp2_with fail
  go_ret
  exact ⟨ret_bool (by simp), rfl⟩
end Go.Proofs.YteghkhdpdeiocaaDoor
