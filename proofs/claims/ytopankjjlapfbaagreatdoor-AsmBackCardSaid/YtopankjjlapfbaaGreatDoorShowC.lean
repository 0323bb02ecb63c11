/-
  The program's Show at any word.
-/
import Derived.Test.YtopankjjlapfbaaGreatDoorShowB
namespace Go.Proofs.YtopankjjlapfbaaGreatDoor
open Go.RowKit
set_option linter.unusedVariables false
set_option maxRecDepth 100000

theorem show_bare (a x0 x1 x2 x3 x4 : Int) (n : Nat) (nm : ByteArray) (h0 : x0 = (n : Int)) (hn : n < 49)
    (C1 : ∀ w, Calls Tryz.prog 17 #[.int .u32 a] w fun e w' => e = .returned (.tuple #[.agg #[.int .i64 x0, .int .i64 x1, .int .i64 x2, .int .i64 x3, .int .i64 x4], .int .i64 0]) ∧ Below w.heap.size w w')
    (C2 : ∀ w, Calls Tryz.prog 19 #[.int .i64 x0] w fun e w' => e = .returned (.slice none 0 0) ∧ w' = w)
    (w : World) (hl : Lies w) (hc : nameL.getD n ⟨#[]⟩ = nm) :
    Calls Tryz.prog 11 #[.int .u32 a] w fun e w' => e = .returned (.string nm) ∧ Below w.heap.size w w' := by
  subst h0
  go_enter Tryz.func11, Tryz.ntmps11
  go_wp2_with fail
  refine (C1 _).mono ?_
  rintro e w1 ⟨rfl, hb1⟩
  have hl1 := hl.below hb1
  have hg := hl1.nam n hn
  have hg0 : 0 < w1.heap.size := by have := hl1.big; omega
  rw [hc] at hg
  clear C1
  go_wp2_with fail
  refine (C2 _).mono ?_
  rintro e w2 ⟨rfl, rfl⟩
  go_wp2_with fail
  go_loop [5, 27] (fun s i => s = .string nm ∧ i = .int .i64 0) (fun _ _ => 0)
  case atStart => exact ⟨rfl, rfl⟩
  case round =>
    obtain ⟨rfl, rfl⟩ := hrel
    go_wp2_with fail
    go_ret
    exact ⟨rfl, hb1.alloc hb1.size _⟩

theorem plcL_len (op : Int) : (plcL op).length ≤ 3 := by
  unfold plcL
  repeat' split
  all_goals decide

/-- what is shown of a word -/
def showS (a : Int) : ByteArray :=
  if validW a = true then lineS (nameS (opW a)) (rdW a) (rs1W a) (rs2W a) (immW a) (plcL (opW a)) else ⟨#[46, 119, 111, 114, 100, 32]⟩ ++ itoS a

theorem valid_op {a : Int} (h : validW a = true) : 1 ≤ opW a ∧ opW a ≤ 48 := by
  have hs : shapeB (opW a) = true := by
    unfold validW validP at h
    cases hb : shapeB (opW a)
    · rw [hb] at h; simp at h
    · rfl
  have := shape_cases (opW a)
  unfold shapeB at hs
  simp at hs
  omega
theorem fv_small (a p : Int) : -1000000 ≤ fv (rdW a) (rs1W a) (rs2W a) (immW a) p ∧ fv (rdW a) (rs1W a) (rs2W a) (immW a) p ≤ 1000000 := by
  unfold fv rdW rs1W rs2W immW
  repeat' split
  all_goals omega

theorem show_any (a : Int) (ha : 0 ≤ a) (ha' : a ≤ 4294967295) (w : World) (hl : Lies w) :
    Calls Tryz.prog 11 #[.int .u32 a] w fun e w' => e = .returned (.string (showS a)) ∧ Below w.heap.size w w' := by
  unfold showS
  cases hv : validW a
  · exact show_no a ha ha' hv w hl
  · rw [if_pos rfl]
    have ho := valid_op hv
    have C1 := decode_yes a ha ha' hv
    have C2 := places_any (opW a)
    obtain ⟨n, hn⟩ : ∃ n : Nat, opW a = (n : Int) := ⟨(opW a).toNat, by omega⟩
    have hnm : nameL.getD n ⟨#[]⟩ = nameS (opW a) := by unfold nameS; rw [hn]; rfl
    by_cases hp : plcL (opW a) = []
    · rw [hp]
      unfold rowV rowW at C2
      rw [hp] at C2
      exact show_bare a _ _ _ _ _ n _ hn (by omega) C1 (fun w => by simpa using C2 w) w hl hnm
    · unfold rowV rowW at C2
      exact show_of a _ _ _ _ _ n _ (plcL (opW a)) hn (by omega) (nameS_size _) (fv_small a) (plcL_len _) C1 (fun w => by simpa [hp] using C2 w) w hl hnm
end Go.Proofs.YtopankjjlapfbaaGreatDoor
