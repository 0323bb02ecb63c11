/-
  The walk of ConsoleNobody.
-/
import Derived.Test.YtbncgmjjkoedhaaRd
namespace Go.Proofs.Ytbncgmjjkoedhaa.consoleNobody
open Go.RowKit
set_option linter.unusedVariables false
set_option maxRecDepth 20000
/-- the state between the rounds -/
structure NS (w0 w : World) (A N L : Nat) (n : Int) (v : Value) : Prop where
  bel : Below w0.heap.size w0 w
  a1 : w.cell? ⟨A, 1, none⟩ = some (.int .i64 n)
  a3 : w.cell? ⟨A, 3, none⟩ = some v
  n0 : w.cell? ⟨N, 0, none⟩ = some (.bool false)
  l0 : w.cell? ⟨L, 0, none⟩ = some (.pointer none)
  l1 : w.cell? ⟨L, 1, none⟩ = some (.pointer (some ⟨N, 0, none⟩))
theorem NS.un {w0 w : World} {A N L : Nat} {n : Int} {v : Value} (h : NS w0 w A N L n v) : UN w (.pointer (some ⟨N, 0, none⟩)) := .inr ⟨N, rfl, World.block_lt_of_cell? w ⟨N, 0, none⟩ h.n0, h.n0⟩
theorem NS.below {w0 w w' : World} {A N L : Nat} {n : Int} {v : Value} (h : NS w0 w A N L n v) (hb : Below w.heap.size w w') : NS w0 w' A N L n v := by
  have k : ∀ {b o : Nat} {x : Value}, w.cell? ⟨b, o, none⟩ = some x → w'.cell? ⟨b, o, none⟩ = some x := fun {b o x} hx => ((bcell hb).1 b o (World.block_lt_of_cell? w ⟨b, o, none⟩ hx)).trans hx
  exact ⟨h.bel.trans (hb.mono h.bel.size), k h.a1, k h.a3, k h.n0, k h.l0, k h.l1⟩
set_option maxHeartbeats 1600000 in
theorem walk (k n t : Int) (ad : Option Addr) (len cp : Nat) (w : World) :
    Calls Try.prog 4 #[.agg #[.int .i64 k, .int .i64 n, .int .i64 t, .slice ad len cp]] w fun r w' => r = .returned (.bool true) ∧ Below w.heap.size w w' := by
  have E0 : NS w (((w.alloc (.cells #[.int .i64 k, .int .i64 n, .int .i64 t, .slice ad len cp] 30)).alloc (.cells #[.bool false, .slice none 0 0, .slice none 0 0, .int .i64 0, .int .i64 0] 43)).alloc (.cells #[.pointer none, .pointer (some ⟨w.heap.size + 1, 0, none⟩)] 23)) w.heap.size (w.heap.size + 1) (w.heap.size + 1 + 1) n (.slice ad len cp) :=
    ⟨(((Below.refl _ _).alloc (Nat.le_refl _) _).alloc (by simp) _).alloc (by simp; omega) _, by simp [go_sem], by simp [go_sem], by simp [go_sem], by simp [go_sem], by simp [go_sem]⟩
  go_enter Try.func4, Try.ntmps4
  go_wp2_with fail
  go_loopw [13] (fun i wr => ∃ j : Nat, j ≤ 2 ∧ i = .int .i64 j ∧ NS w wr w.heap.size (w.heap.size + 1) (w.heap.size + 1 + 1) n (.slice ad len cp)) (fun i _ => 2 - (intOf i).toNat)
  case atStart => exact ⟨0, by omega, rfl, E0⟩
  case round =>
    obtain ⟨j, hj, rfl, E⟩ := hrel
    clear E0
    obtain ⟨p, hp, hl⟩ : ∃ p, (j < 2 → UN wr p) ∧ (j < 2 → wr.cell? ⟨w.heap.size + 1 + 1, j, none⟩ = some p) := by
      obtain rfl | rfl | rfl : j = 0 ∨ j = 1 ∨ j = 2 := by omega
      · exact ⟨_, fun _ => .inl rfl, fun _ => E.l0⟩
      · exact ⟨_, fun _ => E.un, fun _ => E.l1⟩
      · exact ⟨.pointer none, fun h => absurd h (by omega), fun h => absurd h (by omega)⟩
    by_cases h2 : j < 2
    · have HP : Hid (UN wr p) := hp h2
      have hl := hl h2
      have h2' : (j : Int) < 2 := by omega
      have a1 := E.a1
      have a3 := E.a3
      clear hp
      have HE : Hid (NS w wr w.heap.size (w.heap.size + 1) (w.heap.size + 1 + 1) n (.slice ad len cp)) := E
      clear E
      go_wp2_with fail
      refine (input_un HP.out _).mono ?_
      rintro r x ⟨rfl, rfl⟩
      go_wp2_with fail
      refine (write_un HP.out _).mono ?_
      rintro r x ⟨rfl, rfl⟩
      go_wp2_with fail
      refine (read_un HP.out n).mono ?_
      rintro r y ⟨rfl, hb⟩
      have HY : Hid (NS w y w.heap.size (w.heap.size + 1) (w.heap.size + 1 + 1) n (.slice ad len cp) ∧ UN y p) := ⟨HE.out.below hb, HP.out.below hb⟩
      clear hb HE HP hl a1 a3
      go_wp2_with fail
      refine (written_un HY.out.2).mono ?_
      rintro r z ⟨rfl, hb⟩
      have HZ : Hid (NS w z w.heap.size (w.heap.size + 1) (w.heap.size + 1 + 1) n (.slice ad len cp) ∧ UN z p) := ⟨HY.out.1.below hb, HY.out.2.below hb⟩
      clear hb HY
      go_wp2_with fail
      refine (counts_un HZ.out.2).mono ?_
      rintro r y ⟨rfl, hb⟩
      have HY : Hid (NS w y w.heap.size (w.heap.size + 1) (w.heap.size + 1 + 1) n (.slice ad len cp)) := HZ.out.1.below hb
      clear hb HZ
      go_wp2_with fail
      go_roundw
      case rel => exact ⟨j + 1, by omega, by go_num, HY.out⟩
      case measure => simp [intOf]; omega
    · obtain rfl : j = 2 := by omega
      have bl := E.bel
      go_wp2_with fail
      go_ret
      exact ⟨rfl, bl⟩
end Go.Proofs.Ytbncgmjjkoedhaa.consoleNobody
