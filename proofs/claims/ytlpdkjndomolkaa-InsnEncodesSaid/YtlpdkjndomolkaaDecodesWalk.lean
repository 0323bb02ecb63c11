/-
  The law InsnDecodes: its walk.
-/
import Derived.Test.YtlpdkjndomolkaaWalks17
namespace Go.Proofs.Ytlpdkjndomolkaa
open Go.RowKit
set_option linter.unusedVariables false

theorem names_any (w : World) : Calls Try.prog 13 #[] w fun e w' => e = .returned (.bool true) ∧ w' = w := by
  go_enter Try.func13, Try.ntmps13
  go_wp2
  go_ret
  exact ⟨rfl, rfl⟩

theorem decodes_of (a x0 x1 x2 x3 x4 er : Int)
    (C1 : ∀ w, Calls Try.prog 14 #[.int .u32 a] w fun e w' => e = .returned (.tuple #[.agg #[.int .i64 x0, .int .i64 x1, .int .i64 x2, .int .i64 x3, .int .i64 x4], .int .i64 er]) ∧ Below w.heap.size w w')
    (C2 : ∀ w, Calls Try.prog 15 #[.int .u32 a] w fun e w' => e = .returned (.tuple #[.agg #[.int .i64 x0, .int .i64 x1, .int .i64 x2, .int .i64 x3, .int .i64 x4], .int .i64 er]) ∧ Below w.heap.size w w') (w : World) :
    Calls Try.prog 4 #[.int .u32 a] w fun e w' => e = .returned (.bool true) ∧ Below w.heap.size w w' := by
  have C3 := names_any
  go_enter Try.func4, Try.ntmps4
  go_wp2_with fail
  refine (C1 _).mono ?_
  rintro e w1 ⟨rfl, hb1⟩
  go_wp2_with fail
  refine (C2 _).mono ?_
  rintro e w2 ⟨rfl, hb2⟩
  have HB2 : Hid (Below w.heap.size w w2) := (hb1.alloc hb1.size _).trans (hb2.mono (by simp; have := hb1.size; omega))
  obtain ⟨hcc2, hff2⟩ := bcell hb2
  simp only [World.size_alloc] at hcc2 hff2
  have hs2 : w1.heap.size < w2.heap.size := by have := hb2.size; simp at this; omega
  have hs1 := hb1.size
  clear hb1 hb2
  go_wp2_with fail
  refine (C3 _).mono ?_
  rintro e w3 ⟨rfl, rfl⟩
  go_wp2_with fail
  go_ret
  exact ⟨rfl, HB2.out.alloc (by omega) _⟩

theorem decodes_any (a : Int) (ha : 0 ≤ a) (ha' : a ≤ 4294967295) (w : World) :
    Calls Try.prog 4 #[.int .u32 a] w fun e w' => e = .returned (.bool true) ∧ Below w.heap.size w w' := by
  cases hv : validW a
  · exact decodes_of a 0 0 0 0 0 10 (decode_no a ha ha' hv) (rdecode_no a ha ha' hv) w
  · exact decodes_of a _ _ _ _ _ 0 (decode_yes a ha ha' hv) (rdecode_yes a ha ha' hv) w
end Go.Proofs.Ytlpdkjndomolkaa
