/-
  The law InsnBack: its walk.
-/
import Derived.Test.YtlpdkjndomolkaaWalks12
namespace Go.Proofs.Ytlpdkjndomolkaa
open Go.RowKit
set_option linter.unusedVariables false

theorem enc_one (w : World) : Calls Try.prog 7 #[ins 14 1 2 0 (-1)] w fun e w' => e = .returned (.tuple #[.int .u32 944259071, .int .i64 0]) ∧ Below w.heap.size w w' :=
  encode_yes 14 1 2 0 (-1) (by decide) (by decide) w

theorem dec_enc (op rd rs1 rs2 imm : Int) (h : validP op rd rs1 rs2 imm = true) (w : World) :
    Calls Try.prog 14 #[.int .u32 (wordP op rd rs1 rs2 imm)] w fun e w' => e = .returned (.tuple #[ins op rd rs1 rs2 imm, .int .i64 0]) ∧ Below w.heap.size w w' := by
  obtain ⟨e0, e1, e2, e3, e4⟩ := insn_back h
  obtain ⟨r0, r1⟩ := word_range h
  have hv : validW (wordP op rd rs1 rs2 imm) = true := by unfold validW; rw [e0, e1, e2, e3, e4]; exact h
  have := decode_yes (wordP op rd rs1 rs2 imm) r0 r1 hv w
  rwa [e0, e1, e2, e3, e4] at this

theorem enc_dec (a : Int) (ha : 0 ≤ a) (ha' : a ≤ 4294967295) (hv : validW a = true) (w : World) :
    Calls Try.prog 7 #[ins (opW a) (rdW a) (rs1W a) (rs2W a) (immW a)] w fun e w' => e = .returned (.tuple #[.int .u32 a, .int .i64 0]) ∧ Below w.heap.size w w' := by
  have := encode_yes (opW a) (rdW a) (rs1W a) (rs2W a) (immW a) (opW_wf a) hv w
  rwa [word_back a ha ha' hv] at this

theorem val_dec (a : Int) (hv : validW a = true) (w : World) :
    Calls Try.prog 11 #[ins (opW a) (rdW a) (rs1W a) (rs2W a) (immW a)] w fun e w' => e = .returned (.bool true) ∧ Below w.heap.size w w' := by
  have := valid_any (opW a) (rdW a) (rs1W a) (rs2W a) (immW a) (opW_wf a) w
  unfold validW at hv
  rwa [hv] at this

theorem back_nn (a0 a1 a2 a3 a4 b : Int) (wa : (Lit.int .i64 a0).wf = true) (hb0 : 0 ≤ b) (hb1 : b ≤ 4294967295) (hx : validP a0 a1 a2 a3 a4 = false) (hw : validW b = false) (w : World) :
    Calls Try.prog 5 #[ins a0 a1 a2 a3 a4, .int .u32 b] w fun e w' => e = .returned (.bool true) ∧ Below w.heap.size w w' := by
  have C0 := enc_one
  have C1 := encode_no a0 a1 a2 a3 a4 wa hx
  have C3 := decode_no b hb0 hb1 hw
  clear hx hw
  unfold ins at *
  go_enter Try.func5, Try.ntmps5
  go_wp2_with fail
  refine (C0 _).mono ?_
  rintro e w1 ⟨rfl, hb1⟩
  have HB : Hid (Below w.heap.size w w1) := ((Below.refl _ _).alloc (Nat.le_refl _) _).trans (hb1.mono (by simp))
  obtain ⟨hcc1, hff1⟩ := bcell hb1
  simp only [World.size_alloc] at hcc1 hff1
  have hs1 : w.heap.size < w1.heap.size := by have := hb1.size; simp at this; omega
  clear hb1 C0
  go_wp2_with fail
  refine (C1 _).mono ?_
  rintro e w2 ⟨rfl, hb2⟩
  have HB2 : Hid (Below w.heap.size w w2) := HB.out.trans (hb2.mono (by omega))
  obtain ⟨hcc2, hff2⟩ := bcell hb2
  have hs2 : w.heap.size < w2.heap.size := by have := hb2.size; omega
  clear hb2 C1 HB
  go_wp2_with fail
  refine (C3 _).mono ?_
  rintro e w4 ⟨rfl, hb4⟩
  have HB4 : Hid (Below w.heap.size w w4) := HB2.out.trans (hb4.mono (by omega))
  have hs4 : w.heap.size < w4.heap.size := by have := hb4.size; omega
  clear hb4 C3 HB2
  go_wp2_with fail
  go_ret
  exact ⟨rfl, HB4.out.alloc (by omega) _⟩

theorem back_ny (a0 a1 a2 a3 a4 b : Int) (wa : (Lit.int .i64 a0).wf = true) (hb0 : 0 ≤ b) (hb1 : b ≤ 4294967295) (hx : validP a0 a1 a2 a3 a4 = false) (hw : validW b = true) (w : World) :
    Calls Try.prog 5 #[ins a0 a1 a2 a3 a4, .int .u32 b] w fun e w' => e = .returned (.bool true) ∧ Below w.heap.size w w' := by
  have C0 := enc_one
  have C1 := encode_no a0 a1 a2 a3 a4 wa hx
  have C3 := decode_yes b hb0 hb1 hw
  have C4 := enc_dec b hb0 hb1 hw
  have C5 := val_dec b hw
  clear hx hw
  generalize opW b = x0 at *
  generalize rdW b = x1 at *
  generalize rs1W b = x2 at *
  generalize rs2W b = x3 at *
  generalize immW b = x4 at *
  unfold ins at *
  go_enter Try.func5, Try.ntmps5
  go_wp2_with fail
  refine (C0 _).mono ?_
  rintro e w1 ⟨rfl, hb1⟩
  have HB : Hid (Below w.heap.size w w1) := ((Below.refl _ _).alloc (Nat.le_refl _) _).trans (hb1.mono (by simp))
  obtain ⟨hcc1, hff1⟩ := bcell hb1
  simp only [World.size_alloc] at hcc1 hff1
  have hs1 : w.heap.size < w1.heap.size := by have := hb1.size; simp at this; omega
  clear hb1 C0
  go_wp2_with fail
  refine (C1 _).mono ?_
  rintro e w2 ⟨rfl, hb2⟩
  have HB2 : Hid (Below w.heap.size w w2) := HB.out.trans (hb2.mono (by omega))
  obtain ⟨hcc2, hff2⟩ := bcell hb2
  have hs2 : w.heap.size < w2.heap.size := by have := hb2.size; omega
  clear hb2 C1 HB
  go_wp2_with fail
  refine (C3 _).mono ?_
  rintro e w4 ⟨rfl, hb4⟩
  have HB4 : Hid (Below w.heap.size w w4) := HB2.out.trans (hb4.mono (by omega))
  have hs4 : w.heap.size < w4.heap.size := by have := hb4.size; omega
  clear hb4 C3 HB2
  go_wp2_with fail
  refine (C4 _).mono ?_
  rintro e w5 ⟨rfl, hb5⟩
  have HB5 : Hid (Below w.heap.size w w5) := (HB4.out.alloc (by omega) _).trans (hb5.mono (by simp; omega))
  obtain ⟨hcc5, hff5⟩ := bcell hb5
  simp only [World.size_alloc] at hcc5 hff5
  have hs5 : w4.heap.size < w5.heap.size := by have := hb5.size; simp at this; omega
  clear hb5 C4 HB4
  go_wp2_with fail
  refine (C5 _).mono ?_
  rintro e w6 ⟨rfl, hb6⟩
  have HB6 : Hid (Below w.heap.size w w6) := HB5.out.trans (hb6.mono (by omega))
  clear hb6 C5 HB5
  go_wp2_with fail
  go_ret
  exact ⟨rfl, HB6.out⟩

theorem back_yn (a0 a1 a2 a3 a4 b : Int) (wa : (Lit.int .i64 a0).wf = true) (hb0 : 0 ≤ b) (hb1 : b ≤ 4294967295) (hx : validP a0 a1 a2 a3 a4 = true) (hw : validW b = false) (w : World) :
    Calls Try.prog 5 #[ins a0 a1 a2 a3 a4, .int .u32 b] w fun e w' => e = .returned (.bool true) ∧ Below w.heap.size w w' := by
  have C0 := enc_one
  have C1 := encode_yes a0 a1 a2 a3 a4 wa hx
  have C2 := dec_enc a0 a1 a2 a3 a4 hx
  generalize wordP a0 a1 a2 a3 a4 = v at *
  have C3 := decode_no b hb0 hb1 hw
  clear hx hw
  unfold ins at *
  go_enter Try.func5, Try.ntmps5
  go_wp2_with fail
  refine (C0 _).mono ?_
  rintro e w1 ⟨rfl, hb1⟩
  have HB : Hid (Below w.heap.size w w1) := ((Below.refl _ _).alloc (Nat.le_refl _) _).trans (hb1.mono (by simp))
  obtain ⟨hcc1, hff1⟩ := bcell hb1
  simp only [World.size_alloc] at hcc1 hff1
  have hs1 : w.heap.size < w1.heap.size := by have := hb1.size; simp at this; omega
  clear hb1 C0
  go_wp2_with fail
  refine (C1 _).mono ?_
  rintro e w2 ⟨rfl, hb2⟩
  have HB2 : Hid (Below w.heap.size w w2) := HB.out.trans (hb2.mono (by omega))
  obtain ⟨hcc2, hff2⟩ := bcell hb2
  have hs2 : w.heap.size < w2.heap.size := by have := hb2.size; omega
  clear hb2 C1 HB
  go_wp2_with fail
  refine (C2 _).mono ?_
  rintro e w3 ⟨rfl, hb3⟩
  have HB3 : Hid (Below w.heap.size w w3) := HB2.out.trans (hb3.mono (by omega))
  obtain ⟨hcc3, hff3⟩ := bcell hb3
  have hs3 : w.heap.size < w3.heap.size := by have := hb3.size; omega
  clear hb3 C2 HB2
  go_wp2_with fail
  refine (C3 _).mono ?_
  rintro e w4 ⟨rfl, hb4⟩
  have HB4 : Hid (Below w.heap.size w w4) := (HB3.out.alloc (by omega) _).trans (hb4.mono (by simp; omega))
  have hs4 : w.heap.size < w4.heap.size := by have := hb4.size; simp at this; omega
  clear hb4 C3 HB3
  go_wp2_with fail
  go_ret
  exact ⟨rfl, HB4.out.alloc (by omega) _⟩

theorem back_yy (a0 a1 a2 a3 a4 b : Int) (wa : (Lit.int .i64 a0).wf = true) (hb0 : 0 ≤ b) (hb1 : b ≤ 4294967295) (hx : validP a0 a1 a2 a3 a4 = true) (hw : validW b = true) (w : World) :
    Calls Try.prog 5 #[ins a0 a1 a2 a3 a4, .int .u32 b] w fun e w' => e = .returned (.bool true) ∧ Below w.heap.size w w' := by
  have C0 := enc_one
  have C1 := encode_yes a0 a1 a2 a3 a4 wa hx
  have C2 := dec_enc a0 a1 a2 a3 a4 hx
  generalize wordP a0 a1 a2 a3 a4 = v at *
  have C3 := decode_yes b hb0 hb1 hw
  have C4 := enc_dec b hb0 hb1 hw
  have C5 := val_dec b hw
  clear hx hw
  generalize opW b = x0 at *
  generalize rdW b = x1 at *
  generalize rs1W b = x2 at *
  generalize rs2W b = x3 at *
  generalize immW b = x4 at *
  unfold ins at *
  go_enter Try.func5, Try.ntmps5
  go_wp2_with fail
  refine (C0 _).mono ?_
  rintro e w1 ⟨rfl, hb1⟩
  have HB : Hid (Below w.heap.size w w1) := ((Below.refl _ _).alloc (Nat.le_refl _) _).trans (hb1.mono (by simp))
  obtain ⟨hcc1, hff1⟩ := bcell hb1
  simp only [World.size_alloc] at hcc1 hff1
  have hs1 : w.heap.size < w1.heap.size := by have := hb1.size; simp at this; omega
  clear hb1 C0
  go_wp2_with fail
  refine (C1 _).mono ?_
  rintro e w2 ⟨rfl, hb2⟩
  have HB2 : Hid (Below w.heap.size w w2) := HB.out.trans (hb2.mono (by omega))
  obtain ⟨hcc2, hff2⟩ := bcell hb2
  have hs2 : w.heap.size < w2.heap.size := by have := hb2.size; omega
  clear hb2 C1 HB
  go_wp2_with fail
  refine (C2 _).mono ?_
  rintro e w3 ⟨rfl, hb3⟩
  have HB3 : Hid (Below w.heap.size w w3) := HB2.out.trans (hb3.mono (by omega))
  obtain ⟨hcc3, hff3⟩ := bcell hb3
  have hs3 : w.heap.size < w3.heap.size := by have := hb3.size; omega
  clear hb3 C2 HB2
  go_wp2_with fail
  refine (C3 _).mono ?_
  rintro e w4 ⟨rfl, hb4⟩
  have HB4 : Hid (Below w.heap.size w w4) := (HB3.out.alloc (by omega) _).trans (hb4.mono (by simp; omega))
  have hs4 : w.heap.size < w4.heap.size := by have := hb4.size; simp at this; omega
  clear hb4 C3 HB3
  go_wp2_with fail
  refine (C4 _).mono ?_
  rintro e w5 ⟨rfl, hb5⟩
  have HB5 : Hid (Below w.heap.size w w5) := (HB4.out.alloc (by omega) _).trans (hb5.mono (by simp; omega))
  obtain ⟨hcc5, hff5⟩ := bcell hb5
  simp only [World.size_alloc] at hcc5 hff5
  have hs5 : w4.heap.size < w5.heap.size := by have := hb5.size; simp at this; omega
  clear hb5 C4 HB4
  go_wp2_with fail
  refine (C5 _).mono ?_
  rintro e w6 ⟨rfl, hb6⟩
  have HB6 : Hid (Below w.heap.size w w6) := HB5.out.trans (hb6.mono (by omega))
  clear hb6 C5 HB5
  go_wp2_with fail
  go_ret
  exact ⟨rfl, HB6.out⟩

theorem back_any (a0 a1 a2 a3 a4 b : Int) (wa : (Lit.int .i64 a0).wf = true) (hb0 : 0 ≤ b) (hb1 : b ≤ 4294967295) (w : World) :
    Calls Try.prog 5 #[ins a0 a1 a2 a3 a4, .int .u32 b] w fun e w' => e = .returned (.bool true) ∧ Below w.heap.size w w' := by
  cases hx : validP a0 a1 a2 a3 a4 <;> cases hw : validW b
  · exact back_nn a0 a1 a2 a3 a4 b wa hb0 hb1 hx hw w
  · exact back_ny a0 a1 a2 a3 a4 b wa hb0 hb1 hx hw w
  · exact back_yn a0 a1 a2 a3 a4 b wa hb0 hb1 hx hw w
  · exact back_yy a0 a1 a2 a3 a4 b wa hb0 hb1 hx hw w
end Go.Proofs.Ytlpdkjndomolkaa
