/-
  The words of a line.
-/
import Derived.Test.YtopankjjlapfbaaGreatDoorOpd
namespace Go.Proofs.YtopankjjlapfbaaGreatDoor
open Go.RowKit
set_option linter.unusedVariables false
set_option maxRecDepth 100000

def gapB (x : Nat) : Bool := x == 32 || x == 44 || x == 9 || x == 40 || x == 41
/-- what stands ahead of the first # -/
def saidS (line : ByteArray) : ByteArray := ⟨(Lib.cut line.data.toList [35]).1.toArray⟩
/-- the words of a line -/
def wordsL (line : ByteArray) : List ByteArray := Lib.goFieldsP gapB (saidS line)

theorem isGap_any (x : Nat) (w : World) : Calls Tryz.prog 70 #[.int .i32 (x : Int)] w fun e w' => e = .returned (.bool (gapB x)) ∧ w' = w := by
  by_cases h : x = 32 ∨ x = 44 ∨ x = 9 ∨ x = 40 ∨ x = 41
  · rcases h with rfl | rfl | rfl | rfl | rfl
    all_goals
      go_enter Tryz.func70, Tryz.ntmps70
      go_wp2
      go_ret
      exact ⟨rfl, rfl⟩
  · have hb : gapB x = false := by unfold gapB; simp; omega
    have e1 : ((x : Int) == 32) = false := by rw [beq_eq_false_iff_ne]; omega
    have e2 : ((x : Int) == 44) = false := by rw [beq_eq_false_iff_ne]; omega
    have e3 : ((x : Int) == 9) = false := by rw [beq_eq_false_iff_ne]; omega
    have e4 : ((x : Int) == 40) = false := by rw [beq_eq_false_iff_ne]; omega
    have e5 : ((x : Int) == 41) = false := by rw [beq_eq_false_iff_ne]; omega
    rw [hb]
    clear h hb
    go_enter Tryz.func70, Tryz.ntmps70
    go_wp2
    go_ret
    exact ⟨rfl, rfl⟩

theorem split_any (line : ByteArray) (hs : line.size ≤ 65536) (w : World) (he : Errs w) :
    Calls Tryz.prog 37 #[.string line] w fun e w' => (∃ A, e = .returned (.slice (some ⟨A, 0, none⟩) (wordsL line).length (wordsL line).length) ∧ A < w'.heap.size ∧ w.heap.size ≤ A ∧ ∀ i, i < (wordsL line).length → w'.cell? ⟨A, i, none⟩ = some (.string ((wordsL line).getD i ⟨#[]⟩))) ∧ Below w.heap.size w w' := by
  obtain ⟨m, hm⟩ := he.mx
  have C1 := Tryz.strings_Cut line ⟨#[35]⟩ m w (by omega) hm
  rw [show (⟨#[35]⟩ : ByteArray).data.toList = [35] from rfl] at C1
  have hsz : (saidS line).size ≤ 65536 := by
    show (Lib.cut line.data.toList [35]).1.toArray.size ≤ _
    have h2 : line.data.toList.length = line.size := by rw [Array.length_toList]; rfl
    unfold Lib.cut
    split <;> simp <;> omega
  have C2 := fun (w : World) => Tryz.strings_FieldsFunc_runes 70 #[] (enters_of Tryz.func70 (by kernel_rfl) rfl) gapB (saidS line) w (by omega) (fun W x _ _ => by
    refine (isGap_any x W).mono ?_
    rintro e w' ⟨rfl, rfl⟩
    exact ⟨rfl, 0, rfl⟩)
  have hw : wordsL line = Lib.goFieldsP gapB (saidS line) := rfl
  rw [← hw] at C2
  have hsd : (⟨(Lib.cut line.data.toList [35]).1.toArray⟩ : ByteArray) = saidS line := rfl
  rw [hsd] at C1
  clear hw hsd
  generalize wordsL line = ws at *
  generalize saidS line = sd at *
  generalize (⟨(Lib.cut line.data.toList [35]).2.1.toArray⟩ : ByteArray) = rs at *
  generalize (Lib.cut line.data.toList [35]).2.2 = bo at *
  go_enter Tryz.func37, Tryz.ntmps37
  go_wp2_with fail
  refine C1.mono ?_
  rintro e w1 ⟨rfl, n, rfl⟩
  go_wp2_with fail
  refine (C2 _).mono ?_
  rintro e w2 ⟨A, rfl, hA, hown, hb⟩
  go_wp2_with fail
  go_ret
  have hb' : Below w.heap.size w w2 := (below_drewN (Below.refl _ w) n).trans hb
  refine ⟨⟨A, rfl, ?_, hA, fun i hi => ?_⟩, hb'⟩
  · obtain ⟨_, h | ⟨g, c, cur, h, _, hh, _⟩⟩ := hown
    · cases h.1
    · cases h
      rcases Nat.lt_or_ge A w2.heap.size with h' | h'
      · exact h'
      · rw [Array.getElem?_eq_none h'] at hh; cases hh
  · rw [hown.cellAt i (by simpa using hi)]
    simp [List.getD, hi]
end Go.Proofs.YtopankjjlapfbaaGreatDoor
