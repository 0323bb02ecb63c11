/-
  What is read out of a word (takeApart), and Decode of package insn: their contracts.
-/
import Derived.Test.YtkckobbedpccfaaDoorIWalks11
namespace Go.Proofs.YtkckobbedpccfaaDoor.I
open Go.RowKit
set_option linter.unusedVariables false
set_option maxRecDepth 100000

theorem fw26 (w : Int) : fieldW w 26 6 = opW w := by unfold fieldW opW; rw [if_pos (by decide)]; rfl
theorem fw22 (w : Int) : fieldW w 22 4 = rdW w := by unfold fieldW rdW; rw [if_pos (by decide)]; rfl
theorem fw18 (w : Int) : fieldW w 18 4 = rs1W w := by unfold fieldW rs1W; rw [if_pos (by decide)]; rfl
theorem fw14 (w : Int) : fieldW w 14 4 = w / 16384 % 16 := by unfold fieldW; rw [if_pos (by decide)]; rfl
theorem fw0s (w : Int) : fieldW w 0 14 = w % 16384 := by
  unfold fieldW
  rw [if_pos (by decide)]
  show w / 1 % 16384 = _
  rw [Int.ediv_one]
theorem fw0l (w : Int) : fieldW w 0 18 = w % 262144 := by
  unfold fieldW
  rw [if_pos (by decide)]
  show w / 1 % 262144 = _
  rw [Int.ediv_one]
theorem sw14 (v : Int) : signWI v 14 = (v + 8192) % 16384 - 8192 := by unfold signWI; rw [if_pos (by decide)]; rfl
theorem sw18 (v : Int) : signWI v 18 = (v + 131072) % 262144 - 131072 := by unfold signWI; rw [if_pos (by decide)]; rfl

theorem wf_small (x : Int) (h0 : -4294967296 ≤ x) (h1 : x ≤ 4294967296) : (Lit.int .i64 x).wf = true := WalkArith.wf_i64 (by omega)

theorem signed14 (a : Int) (ha : 0 ≤ a) (ha' : a ≤ 4294967295) (w : World) :
    Calls Tryd.prog 35 #[.int .u32 a, .int .i64 14] w fun e w' => e = .returned (.int .i64 ((a % 16384 + 8192) % 16384 - 8192)) ∧ w' = w := by
  have C1 := field_any a 0 14 ha ha'
  have C2 := sign_any (fieldW a 0 14) 14
  rw [sw14] at C2
  rw [fw0s] at C1 C2
  generalize a % 16384 = f at *
  generalize (f + 8192) % 16384 - 8192 = g at *
  go_enter Tryd.func35, Tryd.ntmps35
  go_wp2_with fail
  refine (C1 _).mono ?_
  rintro e w1 ⟨rfl, rfl⟩
  go_wp2_with fail
  refine (C2 _).mono ?_
  rintro e w1 ⟨rfl, rfl⟩
  go_wp2_with fail
  go_ret
  exact ⟨rfl, rfl⟩
theorem signed18 (a : Int) (ha : 0 ≤ a) (ha' : a ≤ 4294967295) (w : World) :
    Calls Tryd.prog 35 #[.int .u32 a, .int .i64 18] w fun e w' => e = .returned (.int .i64 ((a % 262144 + 131072) % 262144 - 131072)) ∧ w' = w := by
  have C1 := field_any a 0 18 ha ha'
  have C2 := sign_any (fieldW a 0 18) 18
  rw [sw18] at C2
  rw [fw0l] at C1 C2
  generalize a % 262144 = f at *
  generalize (f + 131072) % 262144 - 131072 = g at *
  go_enter Tryd.func35, Tryd.ntmps35
  go_wp2_with fail
  refine (C1 _).mono ?_
  rintro e w1 ⟨rfl, rfl⟩
  go_wp2_with fail
  refine (C2 _).mono ?_
  rintro e w1 ⟨rfl, rfl⟩
  go_wp2_with fail
  go_ret
  exact ⟨rfl, rfl⟩

theorem apart_is (a : Int) (ha : 0 ≤ a) (ha' : a ≤ 4294967295) (w : World) :
    Calls Tryd.prog 22 #[.int .u32 a] w fun e w' => e = .returned (ins (opW a) (rdW a) (rs1W a) (rs2W a) (immW a)) ∧ Below w.heap.size w w' := by
  have C1 := field_any a 26 6 ha ha'
  have C2 := field_any a 22 4 ha ha'
  have C3 := field_any a 18 4 ha ha'
  have C4 := field_any a 14 4 ha ha'
  have C5 := signed14 a ha ha'
  have C6 := signed18 a ha ha'
  have C7 := isLong_any (opW a)
  rw [fw26] at C1
  rw [fw22] at C2
  rw [fw18] at C3
  rw [fw14] at C4
  unfold rs2W immW ins
  by_cases h5 : shapeR (opW a) = 5
  · have e5 : decide (shapeR (opW a) = 5) = true := by simp [h5]
    rw [if_pos h5, if_pos h5]
    rw [e5] at C7
    clear h5 e5 C4 C5
    generalize opW a = x0 at *
    generalize rdW a = x1 at *
    generalize rs1W a = x2 at *
    generalize (a % 262144 + 131072) % 262144 - 131072 = x4 at *
    go_enter Tryd.func22, Tryd.ntmps22
    go_wp2_with fail
    refine (C1 _).mono ?_
    rintro e w1 ⟨rfl, rfl⟩
    go_wp2_with fail
    refine (C2 _).mono ?_
    rintro e w1 ⟨rfl, rfl⟩
    go_wp2_with fail
    refine (C3 _).mono ?_
    rintro e w1 ⟨rfl, rfl⟩
    go_wp2_with fail
    refine (C7 _).mono ?_
    rintro e w1 ⟨rfl, rfl⟩
    go_wp2_with fail
    refine (C6 _).mono ?_
    rintro e w1 ⟨rfl, rfl⟩
    go_wp2_with fail
    exact bodyPost_ret (v := .agg #[.int .i64 x0, .int .i64 x1, .int .i64 x2, .int .i64 0, .int .i64 x4]) (by simp [results, Tryd.results22, go_sem]) rfl
      ⟨rfl, ((Below.refl _ _).alloc (Nat.le_refl _) _).alloc (by simp) _⟩
  · have e5 : decide (shapeR (opW a) = 5) = false := by simp [h5]
    rw [if_neg h5, if_neg h5]
    rw [e5] at C7
    clear h5 e5 C6
    generalize opW a = x0 at *
    generalize rdW a = x1 at *
    generalize rs1W a = x2 at *
    generalize a / 16384 % 16 = x3 at *
    generalize (a % 16384 + 8192) % 16384 - 8192 = x4 at *
    go_enter Tryd.func22, Tryd.ntmps22
    go_wp2_with fail
    refine (C1 _).mono ?_
    rintro e w1 ⟨rfl, rfl⟩
    go_wp2_with fail
    refine (C2 _).mono ?_
    rintro e w1 ⟨rfl, rfl⟩
    go_wp2_with fail
    refine (C3 _).mono ?_
    rintro e w1 ⟨rfl, rfl⟩
    go_wp2_with fail
    refine (C7 _).mono ?_
    rintro e w1 ⟨rfl, rfl⟩
    go_wp2_with fail
    refine (C4 _).mono ?_
    rintro e w1 ⟨rfl, rfl⟩
    go_wp2_with fail
    refine (C5 _).mono ?_
    rintro e w1 ⟨rfl, rfl⟩
    go_wp2_with fail
    exact bodyPost_ret (v := .agg #[.int .i64 x0, .int .i64 x1, .int .i64 x2, .int .i64 x3, .int .i64 x4]) (by simp [results, Tryd.results22, go_sem]) rfl
      ⟨rfl, ((Below.refl _ _).alloc (Nat.le_refl _) _).alloc (by simp) _⟩

theorem opW_wf (a : Int) : (Lit.int .i64 (opW a)).wf = true := wf_small _ (by unfold opW; omega) (by unfold opW; omega)

theorem decode_no (a : Int) (ha : 0 ≤ a) (ha' : a ≤ 4294967295) (hv : validW a = false) (w : World) :
    Calls Tryd.prog 12 #[.int .u32 a] w fun e w' => e = .returned (.tuple #[ins 0 0 0 0 0, .int .i64 10]) ∧ Below w.heap.size w w' := by
  have C1 := apart_is a ha ha'
  have C2 := valid_any (opW a) (rdW a) (rs1W a) (rs2W a) (immW a) (opW_wf a)
  unfold validW at hv
  rw [hv] at C2
  clear hv
  unfold ins at *
  generalize opW a = x0 at *
  generalize rdW a = x1 at *
  generalize rs1W a = x2 at *
  generalize rs2W a = x3 at *
  generalize immW a = x4 at *
  go_enter Tryd.func12, Tryd.ntmps12
  go_wp2_with fail
  refine (C1 _).mono ?_
  rintro e w1 ⟨rfl, hb1⟩
  have HB1 : Hid (Below w.heap.size w w1) := ((Below.refl _ _).alloc (Nat.le_refl _) _).trans (hb1.mono (by simp))
  obtain ⟨hcc1, hff1⟩ := bcell hb1
  simp only [World.size_alloc] at hcc1 hff1
  have hs1 : w.heap.size < w1.heap.size := by have := hb1.size; simp at this; omega
  clear hb1 C1
  go_wp2_with fail
  refine (C2 _).mono ?_
  rintro e w2 ⟨rfl, hb2⟩
  have HB2 : Hid (Below w.heap.size w w2) := (HB1.out.alloc (by omega) _).trans (hb2.mono (by simp; omega))
  obtain ⟨hcc2, hff2⟩ := bcell hb2
  simp only [World.size_alloc] at hcc2 hff2
  have hs2 : w.heap.size < w1.heap.size + 1 := by omega
  clear hb2 C2
  go_wp2_with fail
  exact bodyPost_ret (v := .tuple #[.agg #[.int .i64 0, .int .i64 0, .int .i64 0, .int .i64 0, .int .i64 0], .int .i64 10]) (by simp [results, Tryd.results12, go_sem, hcc2, hcc1, hs1, hs2]) rfl
    ⟨rfl, ((((HB2.out.setCell (by simp) _).setCell (by simp) _).setCell (by simp) _).setCell (by simp) _).setCell (by simp) _⟩

theorem decode_yes (a : Int) (ha : 0 ≤ a) (ha' : a ≤ 4294967295) (hv : validW a = true) (w : World) :
    Calls Tryd.prog 12 #[.int .u32 a] w fun e w' => e = .returned (.tuple #[ins (opW a) (rdW a) (rs1W a) (rs2W a) (immW a), .int .i64 0]) ∧ Below w.heap.size w w' := by
  have C1 := apart_is a ha ha'
  have C2 := valid_any (opW a) (rdW a) (rs1W a) (rs2W a) (immW a) (opW_wf a)
  unfold validW at hv
  rw [hv] at C2
  clear hv
  unfold ins at *
  generalize opW a = x0 at *
  generalize rdW a = x1 at *
  generalize rs1W a = x2 at *
  generalize rs2W a = x3 at *
  generalize immW a = x4 at *
  go_enter Tryd.func12, Tryd.ntmps12
  go_wp2_with fail
  refine (C1 _).mono ?_
  rintro e w1 ⟨rfl, hb1⟩
  have HB1 : Hid (Below w.heap.size w w1) := ((Below.refl _ _).alloc (Nat.le_refl _) _).trans (hb1.mono (by simp))
  obtain ⟨hcc1, hff1⟩ := bcell hb1
  simp only [World.size_alloc] at hcc1 hff1
  have hs1 : w.heap.size < w1.heap.size := by have := hb1.size; simp at this; omega
  clear hb1 C1
  go_wp2_with fail
  refine (C2 _).mono ?_
  rintro e w2 ⟨rfl, hb2⟩
  have HB2 : Hid (Below w.heap.size w w2) := (HB1.out.alloc (by omega) _).trans (hb2.mono (by simp; omega))
  obtain ⟨hcc2, hff2⟩ := bcell hb2
  simp only [World.size_alloc] at hcc2 hff2
  have hs2 : w.heap.size < w1.heap.size + 1 := by omega
  clear hb2 C2
  go_wp2_with fail
  exact bodyPost_ret (v := .tuple #[.agg #[.int .i64 x0, .int .i64 x1, .int .i64 x2, .int .i64 x3, .int .i64 x4], .int .i64 0]) (by simp [results, Tryd.results12, go_sem, hcc2, hcc1, hs1, hs2]) rfl
    ⟨rfl, ((((HB2.out.setCell (by simp) _).setCell (by simp) _).setCell (by simp) _).setCell (by simp) _).setCell (by simp) _⟩
end Go.Proofs.YtkckobbedpccfaaDoor.I
