/-
  The walk of LinesNobody.
-/
import Derived.Test.YtdmegoglcnggoaaSd
namespace Go.Proofs.Ytdmegoglcnggoaa.linesNobody
open Go.RowKit
set_option linter.unusedVariables false
set_option maxRecDepth 20000
/-- the state between the rounds -/
structure NS (w0 w : World) (A N L : Nat) (c e x : Int) : Prop where
  bel : Below w0.heap.size w0 w
  a1 : w.cell? ⟨A, 1, none⟩ = some (.int .i64 c)
  a2 : w.cell? ⟨A, 2, none⟩ = some (.int .i64 e)
  a3 : w.cell? ⟨A, 3, none⟩ = some (.int .u64 x)
  n0 : w.cell? ⟨N, 0, none⟩ = some (.slice none 0 0)
  l0 : w.cell? ⟨L, 0, none⟩ = some (.pointer none)
  l1 : w.cell? ⟨L, 1, none⟩ = some (.pointer (some ⟨N, 0, none⟩))
theorem NS.un {w0 w : World} {A N L : Nat} {c e x : Int} (h : NS w0 w A N L c e x) : UN w (.pointer (some ⟨N, 0, none⟩)) := .inr ⟨N, rfl, World.block_lt_of_cell? w ⟨N, 0, none⟩ h.n0, h.n0⟩
set_option maxHeartbeats 1600000 in
theorem walk (k c e x : Int) (w : World) :
    Calls Try.prog 4 #[.agg #[.int .i64 k, .int .i64 c, .int .i64 e, .int .u64 x]] w fun r w' => r = .returned (.bool true) ∧ Below w.heap.size w w' := by
  have E0 : NS w (((w.alloc (.cells #[.int .i64 k, .int .i64 c, .int .i64 e, .int .u64 x] 33)).alloc (.cells #[.slice none 0 0] 58)).alloc (.cells #[.pointer none, .pointer (some ⟨w.heap.size + 1, 0, none⟩)] 23)) w.heap.size (w.heap.size + 1) (w.heap.size + 1 + 1) c e x :=
    ⟨(((Below.refl _ _).alloc (Nat.le_refl _) _).alloc (by simp) _).alloc (by simp; omega) _, by simp [go_sem], by simp [go_sem], by simp [go_sem], by simp [go_sem], by simp [go_sem], by simp [go_sem]⟩
  go_enter Try.func4, Try.ntmps4
  go_wp2_with fail
  go_loopw [15] (fun i wr => ∃ j : Nat, j ≤ 2 ∧ i = .int .i64 j ∧ NS w wr w.heap.size (w.heap.size + 1) (w.heap.size + 1 + 1) c e x) (fun i _ => 2 - (intOf i).toNat)
  case atStart => exact ⟨0, by omega, rfl, E0⟩
  case round =>
    obtain ⟨j, hj, rfl, E⟩ := hrel
    clear E0
    obtain ⟨p, hp, hl⟩ : ∃ p, (j < 2 → UN wr p) ∧ (j < 2 → wr.cell? ⟨w.heap.size + 1 + 1, j, none⟩ = some p) := by
      obtain rfl | rfl | rfl : j = 0 ∨ j = 1 ∨ j = 2 := by omega
      · exact ⟨_, fun _ => .inl rfl, fun _ => E.l0⟩
      · exact ⟨_, fun _ => E.un, fun _ => E.l1⟩
      · exact ⟨.pointer none, fun h => absurd h (by omega), fun h => absurd h (by omega)⟩
    by_cases h2 : j < 2
    · have HU : Hid (Off p c 1 wr) := of_un (hp h2) c
      have hl := hl h2
      have h2' : (j : Int) < 2 := by omega
      have a1 := E.a1
      have a2 := E.a2
      have a3 := E.a3
      clear hp
      have HE : Hid (NS w wr w.heap.size (w.heap.size + 1) (w.heap.size + 1 + 1) c e x) := E
      clear E
      go_wp2_with fail
      refine (take_off HU.out (by decide)).mono ?_
      rintro r wr ⟨rfl, rfl⟩
      go_wp2_with fail
      refine (tick_off HU.out (by decide) x).mono ?_
      rintro r wr ⟨rfl, rfl⟩
      go_wp2_with fail
      refine (armed_off HU.out (by decide)).mono ?_
      rintro r wr ⟨rfl, rfl⟩
      go_wp2_with fail
      refine (send_off HU.out (by decide) e).mono ?_
      rintro r wr ⟨rfl, rfl⟩
      go_wp2_with fail
      refine (waiting_off HU.out (by decide)).mono ?_
      rintro r wr ⟨rfl, rfl⟩
      go_wp2_with fail
      refine (set_off HU.out (by decide) x).mono ?_
      rintro r wr ⟨rfl, rfl⟩
      go_wp2_with fail
      refine (now_off HU.out (by decide)).mono ?_
      rintro r wr ⟨rfl, rfl⟩
      go_wp2_with fail
      go_roundw
      case rel => exact ⟨j + 1, by omega, by go_num, HE.out⟩
      case measure => simp [intOf]; omega
    · obtain rfl : j = 2 := by omega
      have bl := E.bel
      go_wp2_with fail
      go_ret
      exact ⟨rfl, bl⟩
end Go.Proofs.Ytdmegoglcnggoaa.linesNobody
