/-
  The document's Decode: the contract.
-/
import Derived.Test.YtkckobbedpccfaaDoorIRf
namespace Go.Proofs.YtkckobbedpccfaaDoor.I
open Go.RowKit
set_option linter.unusedVariables false
set_option maxRecDepth 100000

theorem rdec_long_yes (a x0 x1 x4 : Int)
    (C1 : ∀ w, Calls Tryd.prog 26 #[.int .u32 a, .int .i64 26, .int .i64 6] w fun e w' => e = .returned (.int .i64 x0) ∧ w' = w)
    (C2 : ∀ w, Calls Tryd.prog 26 #[.int .u32 a, .int .i64 22, .int .i64 4] w fun e w' => e = .returned (.int .i64 x1) ∧ w' = w)
    (C3 : ∀ w, Calls Tryd.prog 21 #[.int .i64 x0] w fun e w' => e = .returned (.int .i64 5) ∧ w' = w)
    (f : Int) (C4 : ∀ w, Calls Tryd.prog 26 #[.int .u32 a, .int .i64 0, .int .i64 18] w fun e w' => e = .returned (.int .i64 f) ∧ w' = w)
    (C5 : ∀ w, Calls Tryd.prog 27 #[.int .i64 f, .int .i64 18] w fun e w' => e = .returned (.int .i64 x4) ∧ w' = w)
    (C8 : ∀ w, Calls Tryd.prog 11 #[.agg #[.int .i64 x0, .int .i64 x1, .int .i64 0, .int .i64 0, .int .i64 x4]] w fun e w' => e = .returned (.tuple #[.int .u32 a, .int .i64 0]) ∧ Below w.heap.size w w') (w : World) :
    Calls Tryd.prog 14 #[.int .u32 a] w fun e w' => e = .returned (.tuple #[.agg #[.int .i64 x0, .int .i64 x1, .int .i64 0, .int .i64 0, .int .i64 x4], .int .i64 0]) ∧ Below w.heap.size w w' := by
  go_enter Tryd.func14, Tryd.ntmps14
  go_wp2_with fail
  refine (C1 _).mono ?_
  rintro e w1 ⟨rfl, rfl⟩
  go_wp2_with fail
  refine (C2 _).mono ?_
  rintro e w1 ⟨rfl, rfl⟩
  go_wp2_with fail
  refine (C3 _).mono ?_
  rintro e w1 ⟨rfl, rfl⟩
  go_wp2_with fail
  refine (C4 _).mono ?_
  rintro e w1 ⟨rfl, rfl⟩
  go_wp2_with fail
  refine (C5 _).mono ?_
  rintro e w1 ⟨rfl, rfl⟩
  go_wp2_with fail
  refine (C8 _).mono ?_
  rintro e w2 ⟨rfl, hb2⟩
  have HB2 : Hid (Below w.heap.size w w2) := (((Below.refl _ _).alloc (Nat.le_refl _) _).alloc (by simp) _).trans (hb2.mono (by simp; omega))
  obtain ⟨hcc2, hff2⟩ := bcell hb2
  simp only [World.size_alloc] at hcc2 hff2
  have hlt : w.heap.size < w.heap.size + 1 + 1 := by omega
  clear hb2
  go_wp2_with fail
  exact bodyPost_ret (v := .tuple #[.agg #[.int .i64 x0, .int .i64 x1, .int .i64 0, .int .i64 0, .int .i64 x4], .int .i64 0]) (by simp [results, Tryd.results14, go_sem, hcc2, hlt]) rfl
    ⟨rfl, ((((HB2.out.setCell (by simp) _).setCell (by simp) _).setCell (by simp) _).setCell (by simp) _).setCell (by simp) _⟩

theorem rdec_long_no (a x0 x1 x4 : Int)
    (C1 : ∀ w, Calls Tryd.prog 26 #[.int .u32 a, .int .i64 26, .int .i64 6] w fun e w' => e = .returned (.int .i64 x0) ∧ w' = w)
    (C2 : ∀ w, Calls Tryd.prog 26 #[.int .u32 a, .int .i64 22, .int .i64 4] w fun e w' => e = .returned (.int .i64 x1) ∧ w' = w)
    (C3 : ∀ w, Calls Tryd.prog 21 #[.int .i64 x0] w fun e w' => e = .returned (.int .i64 5) ∧ w' = w)
    (f : Int) (C4 : ∀ w, Calls Tryd.prog 26 #[.int .u32 a, .int .i64 0, .int .i64 18] w fun e w' => e = .returned (.int .i64 f) ∧ w' = w)
    (C5 : ∀ w, Calls Tryd.prog 27 #[.int .i64 f, .int .i64 18] w fun e w' => e = .returned (.int .i64 x4) ∧ w' = w)
    (C8 : ∀ w, Calls Tryd.prog 11 #[.agg #[.int .i64 x0, .int .i64 x1, .int .i64 0, .int .i64 0, .int .i64 x4]] w fun e w' => e = .returned (.tuple #[.int .u32 0, .int .i64 10]) ∧ Below w.heap.size w w') (w : World) :
    Calls Tryd.prog 14 #[.int .u32 a] w fun e w' => e = .returned (.tuple #[.agg #[.int .i64 0, .int .i64 0, .int .i64 0, .int .i64 0, .int .i64 0], .int .i64 10]) ∧ Below w.heap.size w w' := by
  go_enter Tryd.func14, Tryd.ntmps14
  go_wp2_with fail
  refine (C1 _).mono ?_
  rintro e w1 ⟨rfl, rfl⟩
  go_wp2_with fail
  refine (C2 _).mono ?_
  rintro e w1 ⟨rfl, rfl⟩
  go_wp2_with fail
  refine (C3 _).mono ?_
  rintro e w1 ⟨rfl, rfl⟩
  go_wp2_with fail
  refine (C4 _).mono ?_
  rintro e w1 ⟨rfl, rfl⟩
  go_wp2_with fail
  refine (C5 _).mono ?_
  rintro e w1 ⟨rfl, rfl⟩
  go_wp2_with fail
  refine (C8 _).mono ?_
  rintro e w2 ⟨rfl, hb2⟩
  have HB2 : Hid (Below w.heap.size w w2) := (((Below.refl _ _).alloc (Nat.le_refl _) _).alloc (by simp) _).trans (hb2.mono (by simp; omega))
  obtain ⟨hcc2, hff2⟩ := bcell hb2
  simp only [World.size_alloc] at hcc2 hff2
  have hlt : w.heap.size < w.heap.size + 1 + 1 := by omega
  clear hb2
  go_wp2_with fail
  exact bodyPost_ret (v := .tuple #[.agg #[.int .i64 0, .int .i64 0, .int .i64 0, .int .i64 0, .int .i64 0], .int .i64 10]) (by simp [results, Tryd.results14, go_sem, hcc2, hlt]) rfl
    ⟨rfl, ((((HB2.out.setCell (by simp) _).setCell (by simp) _).setCell (by simp) _).setCell (by simp) _).setCell (by simp) _⟩

theorem rdec_long_ne (a y x0 x1 x4 : Int) (hne : y ≠ a)
    (C1 : ∀ w, Calls Tryd.prog 26 #[.int .u32 a, .int .i64 26, .int .i64 6] w fun e w' => e = .returned (.int .i64 x0) ∧ w' = w)
    (C2 : ∀ w, Calls Tryd.prog 26 #[.int .u32 a, .int .i64 22, .int .i64 4] w fun e w' => e = .returned (.int .i64 x1) ∧ w' = w)
    (C3 : ∀ w, Calls Tryd.prog 21 #[.int .i64 x0] w fun e w' => e = .returned (.int .i64 5) ∧ w' = w)
    (f : Int) (C4 : ∀ w, Calls Tryd.prog 26 #[.int .u32 a, .int .i64 0, .int .i64 18] w fun e w' => e = .returned (.int .i64 f) ∧ w' = w)
    (C5 : ∀ w, Calls Tryd.prog 27 #[.int .i64 f, .int .i64 18] w fun e w' => e = .returned (.int .i64 x4) ∧ w' = w)
    (C8 : ∀ w, Calls Tryd.prog 11 #[.agg #[.int .i64 x0, .int .i64 x1, .int .i64 0, .int .i64 0, .int .i64 x4]] w fun e w' => e = .returned (.tuple #[.int .u32 y, .int .i64 0]) ∧ Below w.heap.size w w') (w : World) :
    Calls Tryd.prog 14 #[.int .u32 a] w fun e w' => e = .returned (.tuple #[.agg #[.int .i64 0, .int .i64 0, .int .i64 0, .int .i64 0, .int .i64 0], .int .i64 10]) ∧ Below w.heap.size w w' := by
  have hne' : (y == a) = false := beq_eq_false_iff_ne.2 hne
  go_enter Tryd.func14, Tryd.ntmps14
  go_wp2_with fail
  refine (C1 _).mono ?_
  rintro e w1 ⟨rfl, rfl⟩
  go_wp2_with fail
  refine (C2 _).mono ?_
  rintro e w1 ⟨rfl, rfl⟩
  go_wp2_with fail
  refine (C3 _).mono ?_
  rintro e w1 ⟨rfl, rfl⟩
  go_wp2_with fail
  refine (C4 _).mono ?_
  rintro e w1 ⟨rfl, rfl⟩
  go_wp2_with fail
  refine (C5 _).mono ?_
  rintro e w1 ⟨rfl, rfl⟩
  go_wp2_with fail
  refine (C8 _).mono ?_
  rintro e w2 ⟨rfl, hb2⟩
  have HB2 : Hid (Below w.heap.size w w2) := (((Below.refl _ _).alloc (Nat.le_refl _) _).alloc (by simp) _).trans (hb2.mono (by simp; omega))
  obtain ⟨hcc2, hff2⟩ := bcell hb2
  simp only [World.size_alloc] at hcc2 hff2
  have hlt : w.heap.size < w.heap.size + 1 + 1 := by omega
  clear hb2
  go_wp2_with fail
  exact bodyPost_ret (v := .tuple #[.agg #[.int .i64 0, .int .i64 0, .int .i64 0, .int .i64 0, .int .i64 0], .int .i64 10]) (by simp [results, Tryd.results14, go_sem, hcc2, hlt]) rfl
    ⟨rfl, ((((HB2.out.setCell (by simp) _).setCell (by simp) _).setCell (by simp) _).setCell (by simp) _).setCell (by simp) _⟩

theorem rdec_short_yes (a x0 x1 x2 x3 x4 : Int)
    (C1 : ∀ w, Calls Tryd.prog 26 #[.int .u32 a, .int .i64 26, .int .i64 6] w fun e w' => e = .returned (.int .i64 x0) ∧ w' = w)
    (C2 : ∀ w, Calls Tryd.prog 26 #[.int .u32 a, .int .i64 22, .int .i64 4] w fun e w' => e = .returned (.int .i64 x1) ∧ w' = w)
    (sh : Int) (hsh : sh ≠ 5) (C3 : ∀ w, Calls Tryd.prog 21 #[.int .i64 x0] w fun e w' => e = .returned (.int .i64 sh) ∧ w' = w)
    (f : Int) (C4 : ∀ w, Calls Tryd.prog 26 #[.int .u32 a, .int .i64 0, .int .i64 14] w fun e w' => e = .returned (.int .i64 f) ∧ w' = w)
    (C5 : ∀ w, Calls Tryd.prog 27 #[.int .i64 f, .int .i64 14] w fun e w' => e = .returned (.int .i64 x4) ∧ w' = w)
    (C6 : ∀ w, Calls Tryd.prog 26 #[.int .u32 a, .int .i64 18, .int .i64 4] w fun e w' => e = .returned (.int .i64 x2) ∧ w' = w)
    (C7 : ∀ w, Calls Tryd.prog 26 #[.int .u32 a, .int .i64 14, .int .i64 4] w fun e w' => e = .returned (.int .i64 x3) ∧ w' = w)
    (C8 : ∀ w, Calls Tryd.prog 11 #[.agg #[.int .i64 x0, .int .i64 x1, .int .i64 x2, .int .i64 x3, .int .i64 x4]] w fun e w' => e = .returned (.tuple #[.int .u32 a, .int .i64 0]) ∧ Below w.heap.size w w') (w : World) :
    Calls Tryd.prog 14 #[.int .u32 a] w fun e w' => e = .returned (.tuple #[.agg #[.int .i64 x0, .int .i64 x1, .int .i64 x2, .int .i64 x3, .int .i64 x4], .int .i64 0]) ∧ Below w.heap.size w w' := by
  have hsh' : (sh == 5) = false := beq_eq_false_iff_ne.2 hsh
  go_enter Tryd.func14, Tryd.ntmps14
  go_wp2_with fail
  refine (C1 _).mono ?_
  rintro e w1 ⟨rfl, rfl⟩
  go_wp2_with fail
  refine (C2 _).mono ?_
  rintro e w1 ⟨rfl, rfl⟩
  go_wp2_with fail
  refine (C3 _).mono ?_
  rintro e w1 ⟨rfl, rfl⟩
  go_wp2_with fail
  refine (C6 _).mono ?_
  rintro e w1 ⟨rfl, rfl⟩
  go_wp2_with fail
  refine (C7 _).mono ?_
  rintro e w1 ⟨rfl, rfl⟩
  go_wp2_with fail
  refine (C4 _).mono ?_
  rintro e w1 ⟨rfl, rfl⟩
  go_wp2_with fail
  refine (C5 _).mono ?_
  rintro e w1 ⟨rfl, rfl⟩
  go_wp2_with fail
  refine (C8 _).mono ?_
  rintro e w2 ⟨rfl, hb2⟩
  have HB2 : Hid (Below w.heap.size w w2) := (((Below.refl _ _).alloc (Nat.le_refl _) _).alloc (by simp) _).trans (hb2.mono (by simp; omega))
  obtain ⟨hcc2, hff2⟩ := bcell hb2
  simp only [World.size_alloc] at hcc2 hff2
  have hlt : w.heap.size < w.heap.size + 1 + 1 := by omega
  clear hb2
  go_wp2_with fail
  exact bodyPost_ret (v := .tuple #[.agg #[.int .i64 x0, .int .i64 x1, .int .i64 x2, .int .i64 x3, .int .i64 x4], .int .i64 0]) (by simp [results, Tryd.results14, go_sem, hcc2, hlt]) rfl
    ⟨rfl, ((((HB2.out.setCell (by simp) _).setCell (by simp) _).setCell (by simp) _).setCell (by simp) _).setCell (by simp) _⟩

theorem rdec_short_no (a x0 x1 x2 x3 x4 : Int)
    (C1 : ∀ w, Calls Tryd.prog 26 #[.int .u32 a, .int .i64 26, .int .i64 6] w fun e w' => e = .returned (.int .i64 x0) ∧ w' = w)
    (C2 : ∀ w, Calls Tryd.prog 26 #[.int .u32 a, .int .i64 22, .int .i64 4] w fun e w' => e = .returned (.int .i64 x1) ∧ w' = w)
    (sh : Int) (hsh : sh ≠ 5) (C3 : ∀ w, Calls Tryd.prog 21 #[.int .i64 x0] w fun e w' => e = .returned (.int .i64 sh) ∧ w' = w)
    (f : Int) (C4 : ∀ w, Calls Tryd.prog 26 #[.int .u32 a, .int .i64 0, .int .i64 14] w fun e w' => e = .returned (.int .i64 f) ∧ w' = w)
    (C5 : ∀ w, Calls Tryd.prog 27 #[.int .i64 f, .int .i64 14] w fun e w' => e = .returned (.int .i64 x4) ∧ w' = w)
    (C6 : ∀ w, Calls Tryd.prog 26 #[.int .u32 a, .int .i64 18, .int .i64 4] w fun e w' => e = .returned (.int .i64 x2) ∧ w' = w)
    (C7 : ∀ w, Calls Tryd.prog 26 #[.int .u32 a, .int .i64 14, .int .i64 4] w fun e w' => e = .returned (.int .i64 x3) ∧ w' = w)
    (C8 : ∀ w, Calls Tryd.prog 11 #[.agg #[.int .i64 x0, .int .i64 x1, .int .i64 x2, .int .i64 x3, .int .i64 x4]] w fun e w' => e = .returned (.tuple #[.int .u32 0, .int .i64 10]) ∧ Below w.heap.size w w') (w : World) :
    Calls Tryd.prog 14 #[.int .u32 a] w fun e w' => e = .returned (.tuple #[.agg #[.int .i64 0, .int .i64 0, .int .i64 0, .int .i64 0, .int .i64 0], .int .i64 10]) ∧ Below w.heap.size w w' := by
  have hsh' : (sh == 5) = false := beq_eq_false_iff_ne.2 hsh
  go_enter Tryd.func14, Tryd.ntmps14
  go_wp2_with fail
  refine (C1 _).mono ?_
  rintro e w1 ⟨rfl, rfl⟩
  go_wp2_with fail
  refine (C2 _).mono ?_
  rintro e w1 ⟨rfl, rfl⟩
  go_wp2_with fail
  refine (C3 _).mono ?_
  rintro e w1 ⟨rfl, rfl⟩
  go_wp2_with fail
  refine (C6 _).mono ?_
  rintro e w1 ⟨rfl, rfl⟩
  go_wp2_with fail
  refine (C7 _).mono ?_
  rintro e w1 ⟨rfl, rfl⟩
  go_wp2_with fail
  refine (C4 _).mono ?_
  rintro e w1 ⟨rfl, rfl⟩
  go_wp2_with fail
  refine (C5 _).mono ?_
  rintro e w1 ⟨rfl, rfl⟩
  go_wp2_with fail
  refine (C8 _).mono ?_
  rintro e w2 ⟨rfl, hb2⟩
  have HB2 : Hid (Below w.heap.size w w2) := (((Below.refl _ _).alloc (Nat.le_refl _) _).alloc (by simp) _).trans (hb2.mono (by simp; omega))
  obtain ⟨hcc2, hff2⟩ := bcell hb2
  simp only [World.size_alloc] at hcc2 hff2
  have hlt : w.heap.size < w.heap.size + 1 + 1 := by omega
  clear hb2
  go_wp2_with fail
  exact bodyPost_ret (v := .tuple #[.agg #[.int .i64 0, .int .i64 0, .int .i64 0, .int .i64 0, .int .i64 0], .int .i64 10]) (by simp [results, Tryd.results14, go_sem, hcc2, hlt]) rfl
    ⟨rfl, ((((HB2.out.setCell (by simp) _).setCell (by simp) _).setCell (by simp) _).setCell (by simp) _).setCell (by simp) _⟩

theorem rdecode_no (a : Int) (ha : 0 ≤ a) (ha' : a ≤ 4294967295) (hv : validW a = false) (w : World) :
    Calls Tryd.prog 14 #[.int .u32 a] w fun e w' => e = .returned (.tuple #[ins 0 0 0 0 0, .int .i64 10]) ∧ Below w.heap.size w w' := by
  have C1 := fun w => rfield_any a 26 6 ha ha' (by decide) (by decide) w
  have C2 := fun w => rfield_any a 22 4 ha ha' (by decide) (by decide) w
  have C3 := fun w => rshape_any (opW a) w
  rw [fw26] at C1
  rw [fw22] at C2
  by_cases h5 : shapeR (opW a) = 5
  · have C4 := fun w => rfield_any a 0 18 ha ha' (by decide) (by decide) w
    have C5 := fun w => rsign_any (fieldW a 0 18) 18 w
    rw [sw18] at C5
    rw [fw0l] at C4 C5
    rw [h5] at C3
    have e4 : immW a = (a % 262144 + 131072) % 262144 - 131072 := by unfold immW; rw [if_pos h5]
    rw [← e4] at C5
    have hl := long_same a ha ha' h5
    cases hp : validP (opW a) (rdW a) 0 0 (immW a)
    · exact rdec_long_no a (opW a) (rdW a) (immW a) C1 C2 C3 _ C4 C5 (fun w => rencode_no (opW a) (rdW a) 0 0 (immW a) hp w) w
    · have hne : wordP (opW a) (rdW a) 0 0 (immW a) ≠ a := fun e => by rw [hl.2 ⟨hp, e⟩] at hv; cases hv
      exact rdec_long_ne a _ (opW a) (rdW a) (immW a) hne C1 C2 C3 _ C4 C5 (fun w => rencode_long (opW a) (rdW a) 0 0 (immW a) hp h5 w) w
  · have C4 := fun w => rfield_any a 0 14 ha ha' (by decide) (by decide) w
    have C5 := fun w => rsign_any (fieldW a 0 14) 14 w
    have C6 := fun w => rfield_any a 18 4 ha ha' (by decide) (by decide) w
    have C7 := fun w => rfield_any a 14 4 ha ha' (by decide) (by decide) w
    rw [sw14] at C5
    rw [fw0s] at C4 C5
    rw [fw18] at C6
    rw [fw14] at C7
    have e4 : immW a = (a % 16384 + 8192) % 16384 - 8192 := by unfold immW; rw [if_neg h5]
    have e3 : rs2W a = a / 16384 % 16 := by unfold rs2W; rw [if_neg h5]
    rw [← e4] at C5
    rw [← e3] at C7
    exact rdec_short_no a (opW a) (rdW a) (rs1W a) (rs2W a) (immW a) C1 C2 _ h5 C3 _ C4 C5 C6 C7 (fun w => rencode_no (opW a) (rdW a) (rs1W a) (rs2W a) (immW a) hv w) w

theorem rdecode_yes (a : Int) (ha : 0 ≤ a) (ha' : a ≤ 4294967295) (hv : validW a = true) (w : World) :
    Calls Tryd.prog 14 #[.int .u32 a] w fun e w' => e = .returned (.tuple #[ins (opW a) (rdW a) (rs1W a) (rs2W a) (immW a), .int .i64 0]) ∧ Below w.heap.size w w' := by
  have C1 := fun w => rfield_any a 26 6 ha ha' (by decide) (by decide) w
  have C2 := fun w => rfield_any a 22 4 ha ha' (by decide) (by decide) w
  have C3 := fun w => rshape_any (opW a) w
  rw [fw26] at C1
  rw [fw22] at C2
  by_cases h5 : shapeR (opW a) = 5
  · have C4 := fun w => rfield_any a 0 18 ha ha' (by decide) (by decide) w
    have C5 := fun w => rsign_any (fieldW a 0 18) 18 w
    rw [sw18] at C5
    rw [fw0l] at C4 C5
    rw [h5] at C3
    have e4 : immW a = (a % 262144 + 131072) % 262144 - 131072 := by unfold immW; rw [if_pos h5]
    rw [← e4] at C5
    obtain ⟨hp, hw⟩ := (long_same a ha ha' h5).1 hv
    obtain ⟨z1, z2⟩ := valid_long h5 hv
    rw [z1, z2]
    have C8 := fun w => rencode_long (opW a) (rdW a) 0 0 (immW a) hp h5 w
    rw [hw] at C8
    exact rdec_long_yes a (opW a) (rdW a) (immW a) C1 C2 C3 _ C4 C5 C8 w
  · have C4 := fun w => rfield_any a 0 14 ha ha' (by decide) (by decide) w
    have C5 := fun w => rsign_any (fieldW a 0 14) 14 w
    have C6 := fun w => rfield_any a 18 4 ha ha' (by decide) (by decide) w
    have C7 := fun w => rfield_any a 14 4 ha ha' (by decide) (by decide) w
    rw [sw14] at C5
    rw [fw0s] at C4 C5
    rw [fw18] at C6
    rw [fw14] at C7
    have e4 : immW a = (a % 16384 + 8192) % 16384 - 8192 := by unfold immW; rw [if_neg h5]
    have e3 : rs2W a = a / 16384 % 16 := by unfold rs2W; rw [if_neg h5]
    rw [← e4] at C5
    rw [← e3] at C7
    have C8 := fun w => rencode_short (opW a) (rdW a) (rs1W a) (rs2W a) (immW a) hv h5 w
    rw [word_back a ha ha' hv] at C8
    exact rdec_short_yes a (opW a) (rdW a) (rs1W a) (rs2W a) (immW a) C1 C2 _ h5 C3 _ C4 C5 C6 C7 C8 w
end Go.Proofs.YtkckobbedpccfaaDoor.I
