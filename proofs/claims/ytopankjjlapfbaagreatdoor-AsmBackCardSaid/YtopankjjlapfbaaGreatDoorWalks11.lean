/-
  Encode of package insn: its contract.
-/
import Derived.Test.YtopankjjlapfbaaGreatDoorWalks10
namespace Go.Proofs.YtopankjjlapfbaaGreatDoor
open Go.RowKit
set_option linter.unusedVariables false
set_option maxRecDepth 100000

theorem pl26 (v : Int) (h0 : 0 ≤ v) (h1 : v ≤ 63) (w : World) :
    Calls Tryz.prog 76 #[.int .u32 0, .int .i64 v, .int .i64 26, .int .i64 6] w fun e w' => e = .returned (.int .u32 (v * 67108864)) ∧ w' = w := by
  have := place_any 0 v 26 6 (by decide) (by decide) w
  rwa [p26, Int.emod_eq_of_lt h0 (by omega)] at this
theorem pl22 (a v : Int) (ha : 0 ≤ a) (ha' : a ≤ 4294967295) (hm : a % 67108864 = 0) (h0 : 0 ≤ v) (h1 : v ≤ 15) (w : World) :
    Calls Tryz.prog 76 #[.int .u32 a, .int .i64 v, .int .i64 22, .int .i64 4] w fun e w' => e = .returned (.int .u32 (a + v * 4194304)) ∧ w' = w := by
  have := place_any a v 22 4 ha ha' w
  rwa [p22 a v ha ha' hm, Int.emod_eq_of_lt h0 (by omega)] at this
theorem pl18 (a v : Int) (ha : 0 ≤ a) (ha' : a ≤ 4294967295) (hm : a % 4194304 = 0) (h0 : 0 ≤ v) (h1 : v ≤ 15) (w : World) :
    Calls Tryz.prog 76 #[.int .u32 a, .int .i64 v, .int .i64 18, .int .i64 4] w fun e w' => e = .returned (.int .u32 (a + v * 262144)) ∧ w' = w := by
  have := place_any a v 18 4 ha ha' w
  rwa [p18 a v ha ha' hm, Int.emod_eq_of_lt h0 (by omega)] at this
theorem pl14 (a v : Int) (ha : 0 ≤ a) (ha' : a ≤ 4294967295) (hm : a % 262144 = 0) (h0 : 0 ≤ v) (h1 : v ≤ 15) (w : World) :
    Calls Tryz.prog 76 #[.int .u32 a, .int .i64 v, .int .i64 14, .int .i64 4] w fun e w' => e = .returned (.int .u32 (a + v * 16384)) ∧ w' = w := by
  have := place_any a v 14 4 ha ha' w
  rwa [p14 a v ha ha' hm, Int.emod_eq_of_lt h0 (by omega)] at this
theorem pl0s (a v : Int) (ha : 0 ≤ a) (ha' : a ≤ 4294967295) (hm : a % 16384 = 0) (w : World) :
    Calls Tryz.prog 76 #[.int .u32 a, .int .i64 v, .int .i64 0, .int .i64 14] w fun e w' => e = .returned (.int .u32 (a + v % 16384)) ∧ w' = w := by
  have := place_any a v 0 14 ha ha' w
  rwa [p0s a v ha ha' hm] at this
theorem pl0l (a v : Int) (ha : 0 ≤ a) (ha' : a ≤ 4294967295) (hm : a % 262144 = 0) (w : World) :
    Calls Tryz.prog 76 #[.int .u32 a, .int .i64 v, .int .i64 0, .int .i64 18] w fun e w' => e = .returned (.int .u32 (a + v % 262144)) ∧ w' = w := by
  have := place_any a v 0 18 ha ha' w
  rwa [p0l a v ha ha' hm] at this
theorem rpl26 (v : Int) (h0 : 0 ≤ v) (h1 : v ≤ 63) (w : World) :
    Calls Tryz.prog 29 #[.int .u32 0, .int .i64 v, .int .i64 26, .int .i64 6] w fun e w' => e = .returned (.int .u32 (v * 67108864)) ∧ w' = w := by
  have := rplace_any 0 v 26 6 (by decide) (by decide) (by decide) (by decide) w
  rwa [p26, Int.emod_eq_of_lt h0 (by omega)] at this
theorem rpl22 (a v : Int) (ha : 0 ≤ a) (ha' : a ≤ 4294967295) (hm : a % 67108864 = 0) (h0 : 0 ≤ v) (h1 : v ≤ 15) (w : World) :
    Calls Tryz.prog 29 #[.int .u32 a, .int .i64 v, .int .i64 22, .int .i64 4] w fun e w' => e = .returned (.int .u32 (a + v * 4194304)) ∧ w' = w := by
  have := rplace_any a v 22 4 ha ha' (by decide) (by decide) w
  rwa [p22 a v ha ha' hm, Int.emod_eq_of_lt h0 (by omega)] at this
theorem rpl18 (a v : Int) (ha : 0 ≤ a) (ha' : a ≤ 4294967295) (hm : a % 4194304 = 0) (h0 : 0 ≤ v) (h1 : v ≤ 15) (w : World) :
    Calls Tryz.prog 29 #[.int .u32 a, .int .i64 v, .int .i64 18, .int .i64 4] w fun e w' => e = .returned (.int .u32 (a + v * 262144)) ∧ w' = w := by
  have := rplace_any a v 18 4 ha ha' (by decide) (by decide) w
  rwa [p18 a v ha ha' hm, Int.emod_eq_of_lt h0 (by omega)] at this
theorem rpl14 (a v : Int) (ha : 0 ≤ a) (ha' : a ≤ 4294967295) (hm : a % 262144 = 0) (h0 : 0 ≤ v) (h1 : v ≤ 15) (w : World) :
    Calls Tryz.prog 29 #[.int .u32 a, .int .i64 v, .int .i64 14, .int .i64 4] w fun e w' => e = .returned (.int .u32 (a + v * 16384)) ∧ w' = w := by
  have := rplace_any a v 14 4 ha ha' (by decide) (by decide) w
  rwa [p14 a v ha ha' hm, Int.emod_eq_of_lt h0 (by omega)] at this
theorem rpl0s (a v : Int) (ha : 0 ≤ a) (ha' : a ≤ 4294967295) (hm : a % 16384 = 0) (w : World) :
    Calls Tryz.prog 29 #[.int .u32 a, .int .i64 v, .int .i64 0, .int .i64 14] w fun e w' => e = .returned (.int .u32 (a + v % 16384)) ∧ w' = w := by
  have := rplace_any a v 0 14 ha ha' (by decide) (by decide) w
  rwa [p0s a v ha ha' hm] at this
theorem rpl0l (a v : Int) (ha : 0 ≤ a) (ha' : a ≤ 4294967295) (hm : a % 262144 = 0) (w : World) :
    Calls Tryz.prog 29 #[.int .u32 a, .int .i64 v, .int .i64 0, .int .i64 18] w fun e w' => e = .returned (.int .u32 (a + v % 262144)) ∧ w' = w := by
  have := rplace_any a v 0 18 ha ha' (by decide) (by decide) w
  rwa [p0l a v ha ha' hm] at this

theorem ret_ii {k l : IntKind} {a b c d : Int} (h : a = b) (g : c = d) : Ending.returned (.tuple #[.int k a, .int l c]) = .returned (.tuple #[.int k b, .int l d]) := by rw [h, g]

theorem encode_no (op rd rs1 rs2 imm : Int) (hw : (Lit.int .i64 op).wf = true) (hv : validP op rd rs1 rs2 imm = false) (w : World) :
    Calls Tryz.prog 42 #[ins op rd rs1 rs2 imm] w fun e w' => e = .returned (.tuple #[.int .u32 0, .int .i64 10]) ∧ Below w.heap.size w w' := by
  have C0 := valid_any op rd rs1 rs2 imm hw
  rw [hv] at C0
  unfold ins at *
  go_enter Tryz.func42, Tryz.ntmps42
  go_wp2_with fail
  refine (C0 _).mono ?_
  rintro e w1 ⟨rfl, hb1⟩
  have HB : Hid (Below w.heap.size w w1) := ((Below.refl _ _).alloc (Nat.le_refl _) _).trans (hb1.mono (by simp))
  clear hb1 C0
  go_wp2_with fail
  go_ret2
  exact ⟨rfl, HB.out⟩

theorem encode_yes (op rd rs1 rs2 imm : Int) (hw : (Lit.int .i64 op).wf = true) (hv : validP op rd rs1 rs2 imm = true) (w : World) :
    Calls Tryz.prog 42 #[ins op rd rs1 rs2 imm] w fun e w' => e = .returned (.tuple #[.int .u32 (wordP op rd rs1 rs2 imm), .int .i64 0]) ∧ Below w.heap.size w w' := by
  have C0 := valid_any op rd rs1 rs2 imm hw
  rw [hv] at C0
  obtain ⟨o1, o2, d1, d2, s1, s2, t1, t2, hl, hsh⟩ := valid_facts hv
  have C5 := isLong_any op
  have HW : Hid (wordP op rd rs1 rs2 imm = if shapeR op = 5 then op * 67108864 + rd * 4194304 + imm % 262144 else op * 67108864 + rd * 4194304 + rs1 * 262144 + rs2 * 16384 + imm % 16384) := rfl
  unfold ins at *
  go_enter Tryz.func42, Tryz.ntmps42
  go_wp2_with fail
  refine (C0 _).mono ?_
  rintro e w1 ⟨rfl, hb1⟩
  have HB : Hid (Below w.heap.size w w1) := ((Below.refl _ _).alloc (Nat.le_refl _) _).trans (hb1.mono (by simp))
  obtain ⟨hcc, hff⟩ := bcell hb1
  have hs1 : w.heap.size < w1.heap.size := by have := hb1.size; simp at this; omega
  simp only [World.size_alloc] at hcc hff
  clear hb1 C0 hv
  go_wp2_with fail
  refine (pl26 op (by omega) (by omega) _).mono ?_
  rintro e w2 ⟨rfl, rfl⟩
  go_wp2_with fail
  refine (pl22 _ rd (by omega) (by omega) (by omega) d1 d2 _).mono ?_
  rintro e w2 ⟨rfl, rfl⟩
  go_wp2_with fail
  refine (pl18 _ rs1 (by omega) (by omega) (by omega) s1 s2 _).mono ?_
  rintro e w2 ⟨rfl, rfl⟩
  go_wp2_with fail
  refine (C5 _).mono ?_
  rintro e w2 ⟨rfl, rfl⟩
  clear C5
  by_cases h5 : shapeR op = 5
  · obtain ⟨z1, z2, i1, i2⟩ := hl h5
    have e5 : decide (shapeR op = 5) = true := by simp [h5]
    rw [e5]
    have HX : Hid (wordP op rd rs1 rs2 imm = op * 67108864 + rd * 4194304 + imm % 262144) := by
      show _ = _
      rw [HW.out, if_pos h5]
    clear hl hsh e5 HW h5
    go_wp2_with fail
    refine (pl0l _ imm (by omega) (by omega) (by omega) _).mono ?_
    rintro e w2 ⟨rfl, rfl⟩
    go_wp2_with fail
    go_ret2
    exact ⟨ret_ii HX.out.symm rfl, HB.out⟩
  · have e5 : decide (shapeR op = 5) = false := by simp [h5]
    rw [e5]
    have HX : Hid (wordP op rd rs1 rs2 imm = op * 67108864 + rd * 4194304 + rs1 * 262144 + rs2 * 16384 + imm % 16384) := by
      show _ = _
      rw [HW.out, if_neg h5]
    clear hl hsh e5 HW h5
    go_wp2_with fail
    refine (pl14 _ rs2 (by omega) (by omega) (by omega) t1 t2 _).mono ?_
    rintro e w2 ⟨rfl, rfl⟩
    go_wp2_with fail
    refine (pl0s _ imm (by omega) (by omega) (by omega) _).mono ?_
    rintro e w2 ⟨rfl, rfl⟩
    go_wp2_with fail
    go_ret2
    exact ⟨ret_ii HX.out.symm rfl, HB.out⟩

def encW (op rd rs1 rs2 imm : Int) : Int := if validP op rd rs1 rs2 imm then wordP op rd rs1 rs2 imm else 0
def encE (op rd rs1 rs2 imm : Int) : Int := if validP op rd rs1 rs2 imm then 0 else 10

theorem encode_any (op rd rs1 rs2 imm : Int) (hw : (Lit.int .i64 op).wf = true) (w : World) :
    Calls Tryz.prog 42 #[ins op rd rs1 rs2 imm] w fun e w' => e = .returned (.tuple #[.int .u32 (encW op rd rs1 rs2 imm), .int .i64 (encE op rd rs1 rs2 imm)]) ∧ Below w.heap.size w w' := by
  unfold encW encE
  cases hv : validP op rd rs1 rs2 imm
  · exact encode_no op rd rs1 rs2 imm hw hv w
  · exact encode_yes op rd rs1 rs2 imm hw hv w
end Go.Proofs.YtopankjjlapfbaaGreatDoor
