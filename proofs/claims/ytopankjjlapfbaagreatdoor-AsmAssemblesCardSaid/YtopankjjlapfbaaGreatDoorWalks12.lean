/-
  Valid and Encode of package insn: their contracts.
  Encode of package insn: its contract.
  What is read out of a word (takeApart), and Decode of package insn: their contracts.
-/
import Derived.Test.YtopankjjlapfbaaGreatDoorWalks9
import Derived.Test.YtopankjjlapfbaaGreatDoorInsn2
namespace Go.Proofs.YtopankjjlapfbaaGreatDoor
open Go.RowKit
set_option linter.unusedVariables false
set_option maxRecDepth 100000

/-- an instruction as it lies in the program -/
def ins (op rd rs1 rs2 imm : Int) : Value := .agg #[.int .i64 op, .int .i64 rd, .int .i64 rs1, .int .i64 rs2, .int .i64 imm]

theorem valid_any (op rd rs1 rs2 imm : Int) (hw : (Lit.int .i64 op).wf = true) (w : World) :
    Calls Tryz.prog 32 #[ins op rd rs1 rs2 imm] w fun e w' => e = .returned (.bool (validP op rd rs1 rs2 imm)) ∧ Below w.heap.size w w' := by
  have C0 := fieldsOf_any op hw
  have C1 := isRegister_any rd (rdP op)
  have C2 := isRegister_any rs1 (rs1P op)
  have C3 := isRegister_any rs2 (rs2P op)
  have C4 := has_any (loP op) (hiP op) imm
  unfold fldOf fld at C0
  unfold validP ins
  generalize regP rd (rdP op) = r1 at *
  generalize regP rs1 (rs1P op) = r2 at *
  generalize regP rs2 (rs2P op) = r3 at *
  generalize hasP (loP op) (hiP op) imm = r4 at *
  generalize shapeB op = sb at *
  generalize rdP op = f1 at *
  generalize rs1P op = f2 at *
  generalize rs2P op = f3 at *
  generalize loP op = f4 at *
  generalize hiP op = f5 at *
  go_enter Tryz.func32, Tryz.ntmps32
  go_wp2_with fail
  refine (C0 _).mono ?_
  rintro e w1 ⟨rfl, hb1⟩
  have HB : Hid (Below w.heap.size w w1) := ((Below.refl _ _).alloc (Nat.le_refl _) _).trans (hb1.mono (by simp))
  obtain ⟨hcc, hff⟩ := bcell hb1
  have hs1 : w.heap.size < w1.heap.size := by have := hb1.size; simp at this; omega
  simp only [World.size_alloc] at hcc hff
  clear hb1 C0
  cases sb
  · go_wp2_with fail
    go_ret
    exact ⟨rfl, HB.out.alloc (by omega) _⟩
  go_wp2_with fail
  refine (C1 _).mono ?_
  rintro e w2 ⟨rfl, rfl⟩
  clear C1
  cases r1
  · go_wp2_with fail
    go_ret
    exact ⟨rfl, HB.out.alloc (by omega) _⟩
  go_wp2_with fail
  refine (C2 _).mono ?_
  rintro e w2 ⟨rfl, rfl⟩
  clear C2
  cases r2
  · go_wp2_with fail
    go_ret
    exact ⟨rfl, HB.out.alloc (by omega) _⟩
  go_wp2_with fail
  refine (C3 _).mono ?_
  rintro e w2 ⟨rfl, rfl⟩
  clear C3
  cases r3
  · go_wp2_with fail
    go_ret
    exact ⟨rfl, HB.out.alloc (by omega) _⟩
  go_wp2_with fail
  refine (C4 _).mono ?_
  rintro e w3 ⟨rfl, hb3⟩
  clear C4
  go_wp2_with fail
  go_ret
  exact ⟨rfl, (HB.out.alloc (by omega) _).trans (hb3.mono (by simp; omega))⟩
end Go.Proofs.YtopankjjlapfbaaGreatDoor
namespace Go.Proofs.YtopankjjlapfbaaGreatDoor
open Go.RowKit
set_option linter.unusedVariables false
set_option maxRecDepth 100000

theorem pl26 (v : Int) (h0 : 0 ≤ v) (h1 : v ≤ 63) (w : World) :
    Calls Tryz.prog 76 #[.int .u32 0, .int .i64 v, .int .i64 26, .int .i64 6] w fun e w' => e = .returned (.int .u32 (v * 67108864)) ∧ w' = w := by
  have := place_any 0 v 26 6 (by decide) (by decide) w
  rwa [p26, Int.emod_eq_of_lt h0 (by omega)] at this
theorem pl22 (a v : Int) (ha : 0 ≤ a) (ha' : a ≤ 4294967295) (hm : a % 67108864 = 0) (h0 : 0 ≤ v) (h1 : v ≤ 15) (w : World) :
    Calls Tryz.prog 76 #[.int .u32 a, .int .i64 v, .int .i64 22, .int .i64 4] w fun e w' => e = .returned (.int .u32 (a + v * 4194304)) ∧ w' = w := by
  have := place_any a v 22 4 ha ha' w
  rwa [p22 a v ha ha' hm, Int.emod_eq_of_lt h0 (by omega)] at this
theorem pl18 (a v : Int) (ha : 0 ≤ a) (ha' : a ≤ 4294967295) (hm : a % 4194304 = 0) (h0 : 0 ≤ v) (h1 : v ≤ 15) (w : World) :
    Calls Tryz.prog 76 #[.int .u32 a, .int .i64 v, .int .i64 18, .int .i64 4] w fun e w' => e = .returned (.int .u32 (a + v * 262144)) ∧ w' = w := by
  have := place_any a v 18 4 ha ha' w
  rwa [p18 a v ha ha' hm, Int.emod_eq_of_lt h0 (by omega)] at this
theorem pl14 (a v : Int) (ha : 0 ≤ a) (ha' : a ≤ 4294967295) (hm : a % 262144 = 0) (h0 : 0 ≤ v) (h1 : v ≤ 15) (w : World) :
    Calls Tryz.prog 76 #[.int .u32 a, .int .i64 v, .int .i64 14, .int .i64 4] w fun e w' => e = .returned (.int .u32 (a + v * 16384)) ∧ w' = w := by
  have := place_any a v 14 4 ha ha' w
  rwa [p14 a v ha ha' hm, Int.emod_eq_of_lt h0 (by omega)] at this
theorem pl0s (a v : Int) (ha : 0 ≤ a) (ha' : a ≤ 4294967295) (hm : a % 16384 = 0) (w : World) :
    Calls Tryz.prog 76 #[.int .u32 a, .int .i64 v, .int .i64 0, .int .i64 14] w fun e w' => e = .returned (.int .u32 (a + v % 16384)) ∧ w' = w := by
  have := place_any a v 0 14 ha ha' w
  rwa [p0s a v ha ha' hm] at this
theorem pl0l (a v : Int) (ha : 0 ≤ a) (ha' : a ≤ 4294967295) (hm : a % 262144 = 0) (w : World) :
    Calls Tryz.prog 76 #[.int .u32 a, .int .i64 v, .int .i64 0, .int .i64 18] w fun e w' => e = .returned (.int .u32 (a + v % 262144)) ∧ w' = w := by
  have := place_any a v 0 18 ha ha' w
  rwa [p0l a v ha ha' hm] at this
theorem rpl26 (v : Int) (h0 : 0 ≤ v) (h1 : v ≤ 63) (w : World) :
    Calls Tryz.prog 29 #[.int .u32 0, .int .i64 v, .int .i64 26, .int .i64 6] w fun e w' => e = .returned (.int .u32 (v * 67108864)) ∧ w' = w := by
  have := rplace_any 0 v 26 6 (by decide) (by decide) (by decide) (by decide) w
  rwa [p26, Int.emod_eq_of_lt h0 (by omega)] at this
theorem rpl22 (a v : Int) (ha : 0 ≤ a) (ha' : a ≤ 4294967295) (hm : a % 67108864 = 0) (h0 : 0 ≤ v) (h1 : v ≤ 15) (w : World) :
    Calls Tryz.prog 29 #[.int .u32 a, .int .i64 v, .int .i64 22, .int .i64 4] w fun e w' => e = .returned (.int .u32 (a + v * 4194304)) ∧ w' = w := by
  have := rplace_any a v 22 4 ha ha' (by decide) (by decide) w
  rwa [p22 a v ha ha' hm, Int.emod_eq_of_lt h0 (by omega)] at this
theorem rpl18 (a v : Int) (ha : 0 ≤ a) (ha' : a ≤ 4294967295) (hm : a % 4194304 = 0) (h0 : 0 ≤ v) (h1 : v ≤ 15) (w : World) :
    Calls Tryz.prog 29 #[.int .u32 a, .int .i64 v, .int .i64 18, .int .i64 4] w fun e w' => e = .returned (.int .u32 (a + v * 262144)) ∧ w' = w := by
  have := rplace_any a v 18 4 ha ha' (by decide) (by decide) w
  rwa [p18 a v ha ha' hm, Int.emod_eq_of_lt h0 (by omega)] at this
theorem rpl14 (a v : Int) (ha : 0 ≤ a) (ha' : a ≤ 4294967295) (hm : a % 262144 = 0) (h0 : 0 ≤ v) (h1 : v ≤ 15) (w : World) :
    Calls Tryz.prog 29 #[.int .u32 a, .int .i64 v, .int .i64 14, .int .i64 4] w fun e w' => e = .returned (.int .u32 (a + v * 16384)) ∧ w' = w := by
  have := rplace_any a v 14 4 ha ha' (by decide) (by decide) w
  rwa [p14 a v ha ha' hm, Int.emod_eq_of_lt h0 (by omega)] at this
theorem rpl0s (a v : Int) (ha : 0 ≤ a) (ha' : a ≤ 4294967295) (hm : a % 16384 = 0) (w : World) :
    Calls Tryz.prog 29 #[.int .u32 a, .int .i64 v, .int .i64 0, .int .i64 14] w fun e w' => e = .returned (.int .u32 (a + v % 16384)) ∧ w' = w := by
  have := rplace_any a v 0 14 ha ha' (by decide) (by decide) w
  rwa [p0s a v ha ha' hm] at this
theorem rpl0l (a v : Int) (ha : 0 ≤ a) (ha' : a ≤ 4294967295) (hm : a % 262144 = 0) (w : World) :
    Calls Tryz.prog 29 #[.int .u32 a, .int .i64 v, .int .i64 0, .int .i64 18] w fun e w' => e = .returned (.int .u32 (a + v % 262144)) ∧ w' = w := by
  have := rplace_any a v 0 18 ha ha' (by decide) (by decide) w
  rwa [p0l a v ha ha' hm] at this

theorem ret_ii {k l : IntKind} {a b c d : Int} (h : a = b) (g : c = d) : Ending.returned (.tuple #[.int k a, .int l c]) = .returned (.tuple #[.int k b, .int l d]) := by rw [h, g]

theorem encode_no (op rd rs1 rs2 imm : Int) (hw : (Lit.int .i64 op).wf = true) (hv : validP op rd rs1 rs2 imm = false) (w : World) :
    Calls Tryz.prog 42 #[ins op rd rs1 rs2 imm] w fun e w' => e = .returned (.tuple #[.int .u32 0, .int .i64 10]) ∧ Below w.heap.size w w' := by
  have C0 := valid_any op rd rs1 rs2 imm hw
  rw [hv] at C0
  unfold ins at *
  go_enter Tryz.func42, Tryz.ntmps42
  go_wp2_with fail
  refine (C0 _).mono ?_
  rintro e w1 ⟨rfl, hb1⟩
  have HB : Hid (Below w.heap.size w w1) := ((Below.refl _ _).alloc (Nat.le_refl _) _).trans (hb1.mono (by simp))
  clear hb1 C0
  go_wp2_with fail
  go_ret2
  exact ⟨rfl, HB.out⟩

theorem encode_yes (op rd rs1 rs2 imm : Int) (hw : (Lit.int .i64 op).wf = true) (hv : validP op rd rs1 rs2 imm = true) (w : World) :
    Calls Tryz.prog 42 #[ins op rd rs1 rs2 imm] w fun e w' => e = .returned (.tuple #[.int .u32 (wordP op rd rs1 rs2 imm), .int .i64 0]) ∧ Below w.heap.size w w' := by
  have C0 := valid_any op rd rs1 rs2 imm hw
  rw [hv] at C0
  obtain ⟨o1, o2, d1, d2, s1, s2, t1, t2, hl, hsh⟩ := valid_facts hv
  have C5 := isLong_any op
  have HW : Hid (wordP op rd rs1 rs2 imm = if shapeR op = 5 then op * 67108864 + rd * 4194304 + imm % 262144 else op * 67108864 + rd * 4194304 + rs1 * 262144 + rs2 * 16384 + imm % 16384) := rfl
  unfold ins at *
  go_enter Tryz.func42, Tryz.ntmps42
  go_wp2_with fail
  refine (C0 _).mono ?_
  rintro e w1 ⟨rfl, hb1⟩
  have HB : Hid (Below w.heap.size w w1) := ((Below.refl _ _).alloc (Nat.le_refl _) _).trans (hb1.mono (by simp))
  obtain ⟨hcc, hff⟩ := bcell hb1
  have hs1 : w.heap.size < w1.heap.size := by have := hb1.size; simp at this; omega
  simp only [World.size_alloc] at hcc hff
  clear hb1 C0 hv
  go_wp2_with fail
  refine (pl26 op (by omega) (by omega) _).mono ?_
  rintro e w2 ⟨rfl, rfl⟩
  go_wp2_with fail
  refine (pl22 _ rd (by omega) (by omega) (by omega) d1 d2 _).mono ?_
  rintro e w2 ⟨rfl, rfl⟩
  go_wp2_with fail
  refine (pl18 _ rs1 (by omega) (by omega) (by omega) s1 s2 _).mono ?_
  rintro e w2 ⟨rfl, rfl⟩
  go_wp2_with fail
  refine (C5 _).mono ?_
  rintro e w2 ⟨rfl, rfl⟩
  clear C5
  by_cases h5 : shapeR op = 5
  · obtain ⟨z1, z2, i1, i2⟩ := hl h5
    have e5 : decide (shapeR op = 5) = true := by simp [h5]
    rw [e5]
    have HX : Hid (wordP op rd rs1 rs2 imm = op * 67108864 + rd * 4194304 + imm % 262144) := by
      show _ = _
      rw [HW.out, if_pos h5]
    clear hl hsh e5 HW h5
    go_wp2_with fail
    refine (pl0l _ imm (by omega) (by omega) (by omega) _).mono ?_
    rintro e w2 ⟨rfl, rfl⟩
    go_wp2_with fail
    go_ret2
    exact ⟨ret_ii HX.out.symm rfl, HB.out⟩
  · have e5 : decide (shapeR op = 5) = false := by simp [h5]
    rw [e5]
    have HX : Hid (wordP op rd rs1 rs2 imm = op * 67108864 + rd * 4194304 + rs1 * 262144 + rs2 * 16384 + imm % 16384) := by
      show _ = _
      rw [HW.out, if_neg h5]
    clear hl hsh e5 HW h5
    go_wp2_with fail
    refine (pl14 _ rs2 (by omega) (by omega) (by omega) t1 t2 _).mono ?_
    rintro e w2 ⟨rfl, rfl⟩
    go_wp2_with fail
    refine (pl0s _ imm (by omega) (by omega) (by omega) _).mono ?_
    rintro e w2 ⟨rfl, rfl⟩
    go_wp2_with fail
    go_ret2
    exact ⟨ret_ii HX.out.symm rfl, HB.out⟩

def encW (op rd rs1 rs2 imm : Int) : Int := if validP op rd rs1 rs2 imm then wordP op rd rs1 rs2 imm else 0
def encE (op rd rs1 rs2 imm : Int) : Int := if validP op rd rs1 rs2 imm then 0 else 10

theorem encode_any (op rd rs1 rs2 imm : Int) (hw : (Lit.int .i64 op).wf = true) (w : World) :
    Calls Tryz.prog 42 #[ins op rd rs1 rs2 imm] w fun e w' => e = .returned (.tuple #[.int .u32 (encW op rd rs1 rs2 imm), .int .i64 (encE op rd rs1 rs2 imm)]) ∧ Below w.heap.size w w' := by
  unfold encW encE
  cases hv : validP op rd rs1 rs2 imm
  · exact encode_no op rd rs1 rs2 imm hw hv w
  · exact encode_yes op rd rs1 rs2 imm hw hv w
end Go.Proofs.YtopankjjlapfbaaGreatDoor
namespace Go.Proofs.YtopankjjlapfbaaGreatDoor
open Go.RowKit
set_option linter.unusedVariables false
set_option maxRecDepth 100000

theorem fw26 (w : Int) : fieldW w 26 6 = opW w := by unfold fieldW opW; rw [if_pos (by decide)]; rfl
theorem fw22 (w : Int) : fieldW w 22 4 = rdW w := by unfold fieldW rdW; rw [if_pos (by decide)]; rfl
theorem fw18 (w : Int) : fieldW w 18 4 = rs1W w := by unfold fieldW rs1W; rw [if_pos (by decide)]; rfl
theorem fw14 (w : Int) : fieldW w 14 4 = w / 16384 % 16 := by unfold fieldW; rw [if_pos (by decide)]; rfl
theorem fw0s (w : Int) : fieldW w 0 14 = w % 16384 := by
  unfold fieldW
  rw [if_pos (by decide)]
  show w / 1 % 16384 = _
  rw [Int.ediv_one]
theorem fw0l (w : Int) : fieldW w 0 18 = w % 262144 := by
  unfold fieldW
  rw [if_pos (by decide)]
  show w / 1 % 262144 = _
  rw [Int.ediv_one]
theorem sw14 (v : Int) : signWI v 14 = (v + 8192) % 16384 - 8192 := by unfold signWI; rw [if_pos (by decide)]; rfl
theorem sw18 (v : Int) : signWI v 18 = (v + 131072) % 262144 - 131072 := by unfold signWI; rw [if_pos (by decide)]; rfl

theorem wf_small (x : Int) (h0 : -4294967296 ≤ x) (h1 : x ≤ 4294967296) : (Lit.int .i64 x).wf = true := WalkArith.wf_i64 (by omega)

theorem signed14 (a : Int) (ha : 0 ≤ a) (ha' : a ≤ 4294967295) (w : World) :
    Calls Tryz.prog 56 #[.int .u32 a, .int .i64 14] w fun e w' => e = .returned (.int .i64 ((a % 16384 + 8192) % 16384 - 8192)) ∧ w' = w := by
  have C1 := field_any a 0 14 ha ha'
  have C2 := sign_any (fieldW a 0 14) 14
  rw [sw14] at C2
  rw [fw0s] at C1 C2
  generalize a % 16384 = f at *
  generalize (f + 8192) % 16384 - 8192 = g at *
  go_enter Tryz.func56, Tryz.ntmps56
  go_wp2_with fail
  refine (C1 _).mono ?_
  rintro e w1 ⟨rfl, rfl⟩
  go_wp2_with fail
  refine (C2 _).mono ?_
  rintro e w1 ⟨rfl, rfl⟩
  go_wp2_with fail
  go_ret
  exact ⟨rfl, rfl⟩
theorem signed18 (a : Int) (ha : 0 ≤ a) (ha' : a ≤ 4294967295) (w : World) :
    Calls Tryz.prog 56 #[.int .u32 a, .int .i64 18] w fun e w' => e = .returned (.int .i64 ((a % 262144 + 131072) % 262144 - 131072)) ∧ w' = w := by
  have C1 := field_any a 0 18 ha ha'
  have C2 := sign_any (fieldW a 0 18) 18
  rw [sw18] at C2
  rw [fw0l] at C1 C2
  generalize a % 262144 = f at *
  generalize (f + 131072) % 262144 - 131072 = g at *
  go_enter Tryz.func56, Tryz.ntmps56
  go_wp2_with fail
  refine (C1 _).mono ?_
  rintro e w1 ⟨rfl, rfl⟩
  go_wp2_with fail
  refine (C2 _).mono ?_
  rintro e w1 ⟨rfl, rfl⟩
  go_wp2_with fail
  go_ret
  exact ⟨rfl, rfl⟩

theorem apart_is (a : Int) (ha : 0 ≤ a) (ha' : a ≤ 4294967295) (w : World) :
    Calls Tryz.prog 31 #[.int .u32 a] w fun e w' => e = .returned (ins (opW a) (rdW a) (rs1W a) (rs2W a) (immW a)) ∧ Below w.heap.size w w' := by
  have C1 := field_any a 26 6 ha ha'
  have C2 := field_any a 22 4 ha ha'
  have C3 := field_any a 18 4 ha ha'
  have C4 := field_any a 14 4 ha ha'
  have C5 := signed14 a ha ha'
  have C6 := signed18 a ha ha'
  have C7 := isLong_any (opW a)
  rw [fw26] at C1
  rw [fw22] at C2
  rw [fw18] at C3
  rw [fw14] at C4
  unfold rs2W immW ins
  by_cases h5 : shapeR (opW a) = 5
  · have e5 : decide (shapeR (opW a) = 5) = true := by simp [h5]
    rw [if_pos h5, if_pos h5]
    rw [e5] at C7
    clear h5 e5 C4 C5
    generalize opW a = x0 at *
    generalize rdW a = x1 at *
    generalize rs1W a = x2 at *
    generalize (a % 262144 + 131072) % 262144 - 131072 = x4 at *
    go_enter Tryz.func31, Tryz.ntmps31
    go_wp2_with fail
    refine (C1 _).mono ?_
    rintro e w1 ⟨rfl, rfl⟩
    go_wp2_with fail
    refine (C2 _).mono ?_
    rintro e w1 ⟨rfl, rfl⟩
    go_wp2_with fail
    refine (C3 _).mono ?_
    rintro e w1 ⟨rfl, rfl⟩
    go_wp2_with fail
    refine (C7 _).mono ?_
    rintro e w1 ⟨rfl, rfl⟩
    go_wp2_with fail
    refine (C6 _).mono ?_
    rintro e w1 ⟨rfl, rfl⟩
    go_wp2_with fail
    exact bodyPost_ret (v := .agg #[.int .i64 x0, .int .i64 x1, .int .i64 x2, .int .i64 0, .int .i64 x4]) (by simp [results, Tryz.results31, go_sem]) rfl
      ⟨rfl, ((Below.refl _ _).alloc (Nat.le_refl _) _).alloc (by simp) _⟩
  · have e5 : decide (shapeR (opW a) = 5) = false := by simp [h5]
    rw [if_neg h5, if_neg h5]
    rw [e5] at C7
    clear h5 e5 C6
    generalize opW a = x0 at *
    generalize rdW a = x1 at *
    generalize rs1W a = x2 at *
    generalize a / 16384 % 16 = x3 at *
    generalize (a % 16384 + 8192) % 16384 - 8192 = x4 at *
    go_enter Tryz.func31, Tryz.ntmps31
    go_wp2_with fail
    refine (C1 _).mono ?_
    rintro e w1 ⟨rfl, rfl⟩
    go_wp2_with fail
    refine (C2 _).mono ?_
    rintro e w1 ⟨rfl, rfl⟩
    go_wp2_with fail
    refine (C3 _).mono ?_
    rintro e w1 ⟨rfl, rfl⟩
    go_wp2_with fail
    refine (C7 _).mono ?_
    rintro e w1 ⟨rfl, rfl⟩
    go_wp2_with fail
    refine (C4 _).mono ?_
    rintro e w1 ⟨rfl, rfl⟩
    go_wp2_with fail
    refine (C5 _).mono ?_
    rintro e w1 ⟨rfl, rfl⟩
    go_wp2_with fail
    exact bodyPost_ret (v := .agg #[.int .i64 x0, .int .i64 x1, .int .i64 x2, .int .i64 x3, .int .i64 x4]) (by simp [results, Tryz.results31, go_sem]) rfl
      ⟨rfl, ((Below.refl _ _).alloc (Nat.le_refl _) _).alloc (by simp) _⟩

theorem opW_wf (a : Int) : (Lit.int .i64 (opW a)).wf = true := wf_small _ (by unfold opW; omega) (by unfold opW; omega)

theorem decode_no (a : Int) (ha : 0 ≤ a) (ha' : a ≤ 4294967295) (hv : validW a = false) (w : World) :
    Calls Tryz.prog 17 #[.int .u32 a] w fun e w' => e = .returned (.tuple #[ins 0 0 0 0 0, .int .i64 10]) ∧ Below w.heap.size w w' := by
  have C1 := apart_is a ha ha'
  have C2 := valid_any (opW a) (rdW a) (rs1W a) (rs2W a) (immW a) (opW_wf a)
  unfold validW at hv
  rw [hv] at C2
  clear hv
  unfold ins at *
  generalize opW a = x0 at *
  generalize rdW a = x1 at *
  generalize rs1W a = x2 at *
  generalize rs2W a = x3 at *
  generalize immW a = x4 at *
  go_enter Tryz.func17, Tryz.ntmps17
  go_wp2_with fail
  refine (C1 _).mono ?_
  rintro e w1 ⟨rfl, hb1⟩
  have HB1 : Hid (Below w.heap.size w w1) := ((Below.refl _ _).alloc (Nat.le_refl _) _).trans (hb1.mono (by simp))
  obtain ⟨hcc1, hff1⟩ := bcell hb1
  simp only [World.size_alloc] at hcc1 hff1
  have hs1 : w.heap.size < w1.heap.size := by have := hb1.size; simp at this; omega
  clear hb1 C1
  go_wp2_with fail
  refine (C2 _).mono ?_
  rintro e w2 ⟨rfl, hb2⟩
  have HB2 : Hid (Below w.heap.size w w2) := (HB1.out.alloc (by omega) _).trans (hb2.mono (by simp; omega))
  obtain ⟨hcc2, hff2⟩ := bcell hb2
  simp only [World.size_alloc] at hcc2 hff2
  have hs2 : w.heap.size < w1.heap.size + 1 := by omega
  clear hb2 C2
  go_wp2_with fail
  exact bodyPost_ret (v := .tuple #[.agg #[.int .i64 0, .int .i64 0, .int .i64 0, .int .i64 0, .int .i64 0], .int .i64 10]) (by simp [results, Tryz.results17, go_sem, hcc2, hcc1, hs1, hs2]) rfl
    ⟨rfl, ((((HB2.out.setCell (by simp) _).setCell (by simp) _).setCell (by simp) _).setCell (by simp) _).setCell (by simp) _⟩

theorem decode_yes (a : Int) (ha : 0 ≤ a) (ha' : a ≤ 4294967295) (hv : validW a = true) (w : World) :
    Calls Tryz.prog 17 #[.int .u32 a] w fun e w' => e = .returned (.tuple #[ins (opW a) (rdW a) (rs1W a) (rs2W a) (immW a), .int .i64 0]) ∧ Below w.heap.size w w' := by
  have C1 := apart_is a ha ha'
  have C2 := valid_any (opW a) (rdW a) (rs1W a) (rs2W a) (immW a) (opW_wf a)
  unfold validW at hv
  rw [hv] at C2
  clear hv
  unfold ins at *
  generalize opW a = x0 at *
  generalize rdW a = x1 at *
  generalize rs1W a = x2 at *
  generalize rs2W a = x3 at *
  generalize immW a = x4 at *
  go_enter Tryz.func17, Tryz.ntmps17
  go_wp2_with fail
  refine (C1 _).mono ?_
  rintro e w1 ⟨rfl, hb1⟩
  have HB1 : Hid (Below w.heap.size w w1) := ((Below.refl _ _).alloc (Nat.le_refl _) _).trans (hb1.mono (by simp))
  obtain ⟨hcc1, hff1⟩ := bcell hb1
  simp only [World.size_alloc] at hcc1 hff1
  have hs1 : w.heap.size < w1.heap.size := by have := hb1.size; simp at this; omega
  clear hb1 C1
  go_wp2_with fail
  refine (C2 _).mono ?_
  rintro e w2 ⟨rfl, hb2⟩
  have HB2 : Hid (Below w.heap.size w w2) := (HB1.out.alloc (by omega) _).trans (hb2.mono (by simp; omega))
  obtain ⟨hcc2, hff2⟩ := bcell hb2
  simp only [World.size_alloc] at hcc2 hff2
  have hs2 : w.heap.size < w1.heap.size + 1 := by omega
  clear hb2 C2
  go_wp2_with fail
  exact bodyPost_ret (v := .tuple #[.agg #[.int .i64 x0, .int .i64 x1, .int .i64 x2, .int .i64 x3, .int .i64 x4], .int .i64 0]) (by simp [results, Tryz.results17, go_sem, hcc2, hcc1, hs1, hs2]) rfl
    ⟨rfl, ((((HB2.out.setCell (by simp) _).setCell (by simp) _).setCell (by simp) _).setCell (by simp) _).setCell (by simp) _⟩
end Go.Proofs.YtopankjjlapfbaaGreatDoor
