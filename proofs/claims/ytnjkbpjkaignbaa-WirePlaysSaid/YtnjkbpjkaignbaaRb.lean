/-
  What the document's Has, Join, put and Receive do.
-/
import Derived.Test.YtnjkbpjkaignbaaRa
namespace Go.Proofs.Ytnjkbpjkaignbaa
open Go.RowKit
set_option linter.unusedVariables false
set_option maxRecDepth 20000

/-- there is no such port -/
def NoHas (r : Nat) (port : Int) (w : World) : Prop := Calls Try.prog 18 #[.pointer (some ⟨r, 0, none⟩), .int .i64 port] w fun e w' => e = .returned (.bool false) ∧ w' = w
def IsHas (r i : Nat) (w : World) : Prop := Calls Try.prog 18 #[.pointer (some ⟨r, 0, none⟩), .int .i64 i] w fun e w' => e = .returned (.bool true) ∧ w' = w
section
variable {B : Nat} {w w' : World} {r g d n gc : Nat} {V : Nat → Value} {Gr : Nat → Int} {A : Nat → List (Int × List Int)}
theorem has_ok (h : RW B w r g d n gc V Gr A) {i : Nat} (hi : i < n) : IsHas r i w := by
  obtain ⟨c, _⟩ := h.cc
  have hl := h.lt
  have hi' : (i : Int) < (n : Int) := by omega
  clear h
  unfold IsHas
  go_enter Try.func18, Try.ntmps18
  go_wp2
  go_ret
  exact ⟨rfl, rfl⟩
theorem has_bad (h : RW B w r g d n gc V Gr A) {port : Int} (hi : port < 0 ∨ (n : Int) ≤ port) : NoHas r port w := by
  obtain ⟨c, _⟩ := h.cc
  have hl := h.lt
  clear h
  unfold NoHas
  rcases hi with hi | hi
  · have hi' : ¬ 0 ≤ port := by omega
    go_enter Try.func18, Try.ntmps18
    go_wp2
    go_ret
    exact ⟨rfl, rfl⟩
  · have hi' : 0 ≤ port := by omega
    have hi'' : ¬ port < (n : Int) := by omega
    go_enter Try.func18, Try.ntmps18
    go_wp2
    go_ret
    exact ⟨rfl, rfl⟩
theorem rjoin_bad (h : RW B w r g d n gc V Gr A) {port : Int} (hi : port < 0 ∨ (n : Int) ≤ port) (x : Int) : Calls Try.prog 17 #[.pointer (some ⟨r, 0, none⟩), .int .i64 port, .int .i64 x] w fun e w' => e = .returned (.int .i64 2) ∧ w' = w := by
  have H : Hid (NoHas r port w) := has_bad h hi
  clear h hi
  go_enter Try.func17, Try.ntmps17
  go_wp2_with fail
  refine Calls.mono H.out ?_
  rintro e w ⟨rfl, rfl⟩
  go_wp2_with fail
  go_ret
  exact ⟨rfl, rfl⟩
theorem rjoin_ok (h : RW B w r g d n gc V Gr A) {i : Nat} (hi : i < n) (x : Int) : Calls Try.prog 17 #[.pointer (some ⟨r, 0, none⟩), .int .i64 i, .int .i64 x] w fun e w' => e = .returned (.int .i64 0) ∧ RW B w' r g d n gc V (upd Gr i x) A ∧ Trn (RS g d n V) w w' := by
  have H : Hid (IsHas r i w) := has_ok h hi
  obtain ⟨c0, c1⟩ := h.cc
  have hl := h.lt
  have hgl := h.glt
  have ci := h.gi hi
  have hf := (h.f i).2
  have hi' : (i : Int) < (n : Int) := by omega
  have HF : Hid (∀ k, RW B ((w.drewN k).setCell ⟨g, i, none⟩ (.int .i64 x)) r g d n gc V (upd Gr i x) A ∧ Trn (RS g d n V) w ((w.drewN k).setCell ⟨g, i, none⟩ (.int .i64 x))) := fun k => by
    have hk : RW B (w.drewN k) r g d n gc V Gr A := h.keep fun _ _ _ => rfl
    obtain ⟨p, q⟩ := hk.setg hi x
    exact ⟨p, q.os, q.tape, q.output, q.size, q.block⟩
  clear h
  go_enter Try.func17, Try.ntmps17
  go_wp2_with fail
  refine Calls.mono H.out ?_
  rintro e w ⟨rfl, rfl⟩
  go_wp2_with fail
  first
    | (go_ret; exact ⟨rfl, HF.out 0⟩)
    | (go_region
       all_goals
         go_wp2_with fail
         go_ret
         exact ⟨rfl, HF.out 1⟩)
theorem rreceive_bad (h : RW B w r g d n gc V Gr A) {port : Int} (hi : port < 0 ∨ (n : Int) ≤ port) : Calls Try.prog 15 #[.pointer (some ⟨r, 0, none⟩), .int .i64 port] w fun e w' => e = .returned (.tuple #[.agg #[.int .i64 0, .string ByteArray.empty], .bool false]) ∧ Below w.heap.size w w' := by
  have hb : Below w.heap.size w (w.alloc (.cells #[.int .i64 0, .string ByteArray.empty] 46)) := (Below.refl _ _).alloc (Nat.le_refl _) _
  have H : Hid (NoHas r port (w.alloc (.cells #[.int .i64 0, .string ByteArray.empty] 46))) := has_bad (h.below hb) hi
  have HB : Hid (Below w.heap.size w (w.alloc (.cells #[.int .i64 0, .string ByteArray.empty] 46))) := hb
  clear h hi hb
  go_enter Try.func15, Try.ntmps15
  go_wp2_with fail
  refine Calls.mono H.out ?_
  rintro e w1 ⟨rfl, rfl⟩
  go_wp2_with fail
  exact bodyPost_ret (v := _) (results_cell_row2 Try.results15 _ _ _ _ _ _ _ rfl (heap_alloc_at _ _) Try.underlying46 rfl (by kernel_rfl)) rfl ⟨rfl, HB.out⟩
theorem rreceive_none (h : RW B w r g d n gc V Gr A) {i : Nat} (hi : i < n) (hq : A i = []) : Calls Try.prog 15 #[.pointer (some ⟨r, 0, none⟩), .int .i64 i] w fun e w' => e = .returned (.tuple #[.agg #[.int .i64 0, .string ByteArray.empty], .bool false]) ∧ Below w.heap.size w w' := by
  have hb : Below w.heap.size w (w.alloc (.cells #[.int .i64 0, .string ByteArray.empty] 46)) := (Below.refl _ _).alloc (Nat.le_refl _) _
  have H : Hid (IsHas r i (w.alloc (.cells #[.int .i64 0, .string ByteArray.empty] 46))) := has_ok (h.below hb) hi
  have HB : Hid (Below w.heap.size w (w.alloc (.cells #[.int .i64 0, .string ByteArray.empty] 46))) := hb
  obtain ⟨c0, c1⟩ := h.cc
  have hl := h.lt
  have hdl := h.dlt
  have ci := h.di hi
  obtain ⟨a, cp, hv⟩ := (h.qs i hi).form
  rw [hv, hq] at ci
  simp only [List.length_nil] at ci
  have hi' : (i : Int) < (n : Int) := by omega
  clear h hb hv hq
  go_enter Try.func15, Try.ntmps15
  go_wp2_with fail
  refine Calls.mono H.out ?_
  rintro e w1 ⟨rfl, rfl⟩
  go_wp2_with fail
  exact bodyPost_ret (v := _) (results_cell_row2 Try.results15 _ _ _ _ _ _ _ rfl (heap_alloc_at _ _) Try.underlying46 rfl (by kernel_rfl)) rfl ⟨rfl, HB.out⟩
end
end Go.Proofs.Ytnjkbpjkaignbaa
