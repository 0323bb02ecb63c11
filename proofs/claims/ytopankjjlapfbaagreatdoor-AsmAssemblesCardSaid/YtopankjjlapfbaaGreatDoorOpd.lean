/-
  The one operand of .word and .fill.
-/
import Derived.Test.YtopankjjlapfbaaGreatDoorNam
import Derived.Test.YtopankjjlapfbaaGreatDoorIns
namespace Go.Proofs.YtopankjjlapfbaaGreatDoor
open Go.RowKit
set_option linter.unusedVariables false
set_option maxRecDepth 100000

/-- a slice that holds these strings -/
def SlS (w : World) (v : Value) (os : List ByteArray) : Prop :=
  ∃ a cap, v = .slice a os.length cap ∧ (os ≠ [] → ∃ blk off, a = some ⟨blk, off, none⟩ ∧ blk < w.heap.size ∧ ∀ i, i < os.length → w.cell? ⟨blk, off + i, none⟩ = some (.string (os.getD i ⟨#[]⟩)))
theorem SlS.below {w w' : World} {v : Value} {os : List ByteArray} (h : SlS w v os) (hb : Below w.heap.size w w') : SlS w' v os := by
  obtain ⟨a, cap, hv, h⟩ := h
  refine ⟨a, cap, hv, fun ho => ?_⟩
  obtain ⟨blk, off, ha, hlt, hc⟩ := h ho
  exact ⟨blk, off, ha, Nat.lt_of_lt_of_le hlt hb.size, fun i hi => by rw [hb.cell (p := ⟨blk, off + i, none⟩) hlt]; exact hc i hi⟩

theorem numberWithin_any (v : Value) (os : List ByteArray) (lo hi : Int) (w : World) (hv : SlS w v os) (hsz : ∀ o ∈ os, o.size ≤ 65536) (he : Errs w) :
    Calls Tryz.prog 74 #[v, .int .i64 lo, .int .i64 hi] w fun e w' => (∃ x, e = .returned (.tuple #[.int .i64 x, .bool (withinO os lo hi).isSome]) ∧ ∀ y, withinO os lo hi = some y → x = y) ∧ Below w.heap.size w w' := by
  obtain ⟨a, cap, rfl, h⟩ := hv
  by_cases h1 : os.length = 1
  · obtain ⟨o, rfl⟩ := List.length_eq_one_iff.1 h1
    obtain ⟨blk, off, rfl, hlt, hc⟩ := h (by simp)
    have hc0 : w.cell? ⟨blk, off, none⟩ = some (.string o) := hc 0 (by simp)
    have C1 := number_any o (hsz o (by simp)) w he
    have hw : withinO [o] lo hi = match numO o with
      | some v => if lo ≤ v ∧ v ≤ hi then some v else none
      | none => none := rfl
    generalize withinO [o] lo hi = R at *
    generalize numO o = O at *
    clear h hc h1 hsz
    simp only [List.length_cons, List.length_nil]
    go_enter Tryz.func74, Tryz.ntmps74
    go_wp2_with fail
    refine C1.mono ?_
    rintro e w2 ⟨⟨v, rfl, hv⟩, hb⟩
    cases O with
    | none =>
      simp at hw
      subst hw
      go_wp2_with fail
      go_ret2
      refine ⟨?_, hb⟩
      first
        | exact ⟨_, rfl, fun x hx => by cases hx⟩
        | exact ⟨_, rfl⟩
    | some x =>
      obtain rfl := hv x rfl
      simp at hw
      by_cases q0 : lo ≤ v
      · by_cases q1 : v ≤ hi
        · rw [if_pos ⟨q0, q1⟩] at hw
          subst hw
          go_wp2_with fail
          go_ret2
          exact ⟨⟨v, by simp, fun x hx => by cases hx; rfl⟩, hb⟩
        · rw [if_neg (by omega)] at hw
          subst hw
          go_wp2_with fail
          go_ret2
          refine ⟨?_, hb⟩
          first
            | exact ⟨v, by simp [q1], fun x hx => by cases hx⟩
            | exact ⟨v, by simp [q1]⟩
      · rw [if_neg (by omega)] at hw
        subst hw
        go_wp2_with fail
        go_ret2
        refine ⟨?_, hb⟩
        first
          | exact ⟨_, rfl, fun x hx => by cases hx⟩
          | exact ⟨_, rfl⟩
  · have hw : withinO os lo hi = none := by
      unfold withinO
      split
      · rename_i o; simp at h1
      · rfl
    rw [hw]
    have hne : ((os.length : Int) == 1) = false := by rw [beq_eq_false_iff_ne]; omega
    clear hw h hsz
    generalize os.length = L at *
    go_enter Tryz.func74, Tryz.ntmps74
    go_wp2_with fail
    go_ret2
    refine ⟨?_, Below.refl _ _⟩
    first
      | exact ⟨0, rfl, fun x hx => by cases hx⟩
      | exact ⟨0, rfl⟩
end Go.Proofs.YtopankjjlapfbaaGreatDoor
