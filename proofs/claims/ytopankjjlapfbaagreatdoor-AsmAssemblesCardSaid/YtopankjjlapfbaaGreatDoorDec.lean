/-
  Numbers in digits: the document's Decimal.
-/
import Derived.Test.YtopankjjlapfbaaGreatDoorWalks6
import Derived.Lib.ItoaNum
import Derived.Lib.ItoaMem
import Derived.Laws.Concat
import Derived.Laws.BytesArg
namespace Go.Proofs.YtopankjjlapfbaaGreatDoor
open Go.RowKit
set_option linter.unusedVariables false
set_option maxRecDepth 100000

theorem nDigits_le : ∀ u : Nat, Lib.nDigits u ≤ u + 1 := by
  intro u
  induction u using Nat.strongRecOn with
  | _ u ih =>
    by_cases h : u < 10
    · rw [Lib.nDigits_small h]; omega
    · rw [Lib.nDigits_big h]
      have := ih (u / 10) (by omega)
      omega

/-- a number's digits, as bytes of a string -/
def decS (u : Nat) : ByteArray := ⟨(Lib.decDigits u).toArray⟩
theorem decS_size (u : Nat) : (decS u).size ≤ u + 1 := by
  have := nDigits_le u
  have h := Lib.decDigits_length u
  show (Lib.decDigits u).toArray.size ≤ _
  simp [h]
  exact this
theorem decS_big (u : Nat) (h : ¬ u < 10) : decS u = decS (u / 10) ++ decS (u % 10) := by
  unfold decS
  rw [Go.ByteArray.mk_append_mk, Lib.decDigits_one (show u % 10 < 10 by omega), Lib.decDigits, dif_neg h]

theorem one_byte (w : World) (z : Int) : (convert 36 9 (.slice (some ⟨w.heap.size, 0, none⟩) 1 1)).run Tryz.prog (w.alloc (.cells #[.int .u8 z] 5)) = .ok (.string ⟨#[UInt8.ofNat z.toNat]⟩) (w.alloc (.cells #[.int .u8 z] 5)) := by
  have h := run_convert_bytes_arg (P := Tryz.prog) (w.alloc (.cells #[.int .u8 z] 5)) 36 5 Tryz.underlying36 Tryz.underlying5 w.heap.size 0 1 1 [z] rfl (by
    intro i hi
    obtain rfl : i = 0 := by simpa using hi
    simp) 9 Tryz.underlying9
  simpa [strOfNums] using h


theorem decimal_nat : ∀ (u : Nat), (u : Int) ≤ 9223372036854775807 → ∀ w, Calls Tryz.prog 103 #[.int .i64 (u : Int)] w fun e w' => e = .returned (.string (decS u)) ∧ Below w.heap.size w w' := by
  intro u
  induction u using Nat.strongRecOn with
  | _ u ih =>
    intro hu w
    by_cases h : u < 10
    · clear ih
      have hc : u = 0 ∨ u = 1 ∨ u = 2 ∨ u = 3 ∨ u = 4 ∨ u = 5 ∨ u = 6 ∨ u = 7 ∨ u = 8 ∨ u = 9 := by omega
      rcases hc with rfl | rfl | rfl | rfl | rfl | rfl | rfl | rfl | rfl | rfl
      all_goals
        go_enter Tryz.func103, Tryz.ntmps103
        go_wp2
        rw [one_byte]
        go_wp2
        go_ret
        exact ⟨by unfold decS; rw [Lib.decDigits_one (by decide)]; rfl, (Below.refl _ _).alloc (Nat.le_refl _) _⟩
    · have C1 := ih (u / 10) (by omega) (by omega)
      have C2 := ih (u % 10) (by omega) (by omega)
      have s1 := decS_size (u / 10)
      have s2 := decS_size (u % 10)
      rw [decS_big u h]
      rw [show ((u / 10 : Nat) : Int) = (u : Int) / 10 by omega] at C1
      rw [show ((u % 10 : Nat) : Int) = (u : Int) % 10 by omega] at C2
      have s3 : (decS (u / 10)).size + (decS (u % 10)).size ≤ 9223372036854775807 := by omega
      generalize decS (u / 10) = p at *
      generalize decS (u % 10) = q at *
      have hv : 10 ≤ (u : Int) := by omega
      generalize (u : Int) = v at *
      clear ih s1 s2 h
      go_enter Tryz.func103, Tryz.ntmps103
      go_wp2_with fail
      refine (C1 _).mono ?_
      rintro e w1 ⟨rfl, hb1⟩
      go_wp2_with fail
      refine (C2 _).mono ?_
      rintro e w2 ⟨rfl, hb2⟩
      go_wp2_with fail
      go_ret
      exact ⟨rfl, hb1.trans (hb2.mono hb1.size)⟩

/-- a number's text -/
def itoS (v : Int) : ByteArray := ⟨(Lib.itoa v).toArray⟩
theorem itoS_nat (u : Nat) : itoS (u : Int) = decS u := by
  unfold itoS decS
  rw [Lib.itoa_nonneg]
theorem itoS_neg (u : Nat) (h : 1 ≤ u) : itoS (-(u : Int)) = ⟨#[45]⟩ ++ decS u := by
  unfold itoS decS
  rw [show (⟨#[45]⟩ : ByteArray) = ⟨([45] : List UInt8).toArray⟩ from rfl, Go.ByteArray.mk_append_mk]
  unfold Lib.itoa
  rw [if_pos (by omega), Int.natAbs_neg, Int.natAbs_natCast]
  rfl
theorem itoS_size (v : Int) : (itoS v).size ≤ v.natAbs + 2 := by
  rcases Int.lt_or_le v 0 with h | h
  · obtain ⟨u, rfl⟩ : ∃ u : Nat, v = -(u : Int) := ⟨v.natAbs, by omega⟩
    rw [itoS_neg u (by omega), Go.ByteArray.size_append']
    have := decS_size u
    show 1 + _ ≤ _
    omega
  · obtain ⟨u, rfl⟩ : ∃ u : Nat, v = (u : Int) := ⟨v.toNat, by omega⟩
    rw [itoS_nat]
    have := decS_size u
    omega

theorem decimal_any (v : Int) (h0 : -4611686018427387904 ≤ v) (h1 : v ≤ 9223372036854775807) (w : World) :
    Calls Tryz.prog 103 #[.int .i64 v] w fun e w' => e = .returned (.string (itoS v)) ∧ Below w.heap.size w w' := by
  rcases Int.lt_or_le v 0 with h | h
  · obtain ⟨u, hu⟩ : ∃ u : Nat, v = -(u : Int) := ⟨v.natAbs, by omega⟩
    have C1 := decimal_nat u (by omega)
    rw [show (u : Int) = -v by omega] at C1
    rw [hu, itoS_neg u (by omega), ← hu]
    have s1 := decS_size u
    have s3 : 1 + (decS u).size ≤ 9223372036854775807 := by omega
    generalize decS u = p at *
    clear hu s1
    go_enter Tryz.func103, Tryz.ntmps103
    go_wp2_with fail
    refine (C1 _).mono ?_
    rintro e w1 ⟨rfl, hb1⟩
    go_wp2_with fail
    go_ret
    exact ⟨rfl, hb1⟩
  · obtain ⟨u, rfl⟩ : ∃ u : Nat, v = (u : Int) := ⟨v.toNat, by omega⟩
    rw [itoS_nat]
    exact decimal_nat u (by omega) w
end Go.Proofs.YtopankjjlapfbaaGreatDoor
