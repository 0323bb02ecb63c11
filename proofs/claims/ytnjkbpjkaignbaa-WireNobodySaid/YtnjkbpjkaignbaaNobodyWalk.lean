/-
  The walk of WireNobody.
-/
import Derived.Test.YtnjkbpjkaignbaaSd
namespace Go.Proofs.Ytnjkbpjkaignbaa.wireNobody
open Go.RowKit
set_option linter.unusedVariables false
set_option maxRecDepth 20000
/-- the state between the rounds -/
structure NS (w0 w : World) (A N L : Nat) (c e : Int) (v : Value) : Prop where
  bel : Below w0.heap.size w0 w
  a1 : w.cell? ⟨A, 1, none⟩ = some (.int .i64 c)
  a2 : w.cell? ⟨A, 2, none⟩ = some (.int .i64 e)
  a3 : w.cell? ⟨A, 3, none⟩ = some v
  n0 : w.cell? ⟨N, 0, none⟩ = some (.slice none 0 0)
  l0 : w.cell? ⟨L, 0, none⟩ = some (.pointer none)
  l1 : w.cell? ⟨L, 1, none⟩ = some (.pointer (some ⟨N, 0, none⟩))
theorem NS.un {w0 w : World} {A N L : Nat} {c e : Int} {v : Value} (h : NS w0 w A N L c e v) : UN w (.pointer (some ⟨N, 0, none⟩)) := .inr ⟨N, rfl, World.block_lt_of_cell? w ⟨N, 0, none⟩ h.n0, h.n0⟩
theorem NS.below {w0 w w' : World} {A N L : Nat} {c e : Int} {v : Value} (h : NS w0 w A N L c e v) (hb : Below w.heap.size w w') : NS w0 w' A N L c e v := by
  have k : ∀ {b o : Nat} {x : Value}, w.cell? ⟨b, o, none⟩ = some x → w'.cell? ⟨b, o, none⟩ = some x := fun {b o x} hx => ((bcell hb).1 b o (World.block_lt_of_cell? w ⟨b, o, none⟩ hx)).trans hx
  exact ⟨h.bel.trans (hb.mono h.bel.size), k h.a1, k h.a2, k h.a3, k h.n0, k h.l0, k h.l1⟩
theorem un_below {w w' : World} {p : Value} (h : UN w p) (hb : Below w.heap.size w w') : UN w' p := by
  rcases h with h | ⟨b, rfl, hlt, hc⟩
  · exact .inl h
  · exact .inr ⟨b, rfl, Nat.lt_of_lt_of_le hlt hb.size, ((bcell hb).1 b 0 hlt).trans hc⟩
set_option maxHeartbeats 1600000 in
theorem walk (k c e : Int) (ad : Option Addr) (n cp : Nat) (w : World) :
    Calls Try.prog 4 #[.agg #[.int .i64 k, .int .i64 c, .int .i64 e, .slice ad n cp]] w fun r w' => r = .returned (.bool true) ∧ Below w.heap.size w w' := by
  have E0 : NS w (((w.alloc (.cells #[.int .i64 k, .int .i64 c, .int .i64 e, .slice ad n cp] 34)).alloc (.cells #[.slice none 0 0] 60)).alloc (.cells #[.pointer none, .pointer (some ⟨w.heap.size + 1, 0, none⟩)] 24)) w.heap.size (w.heap.size + 1) (w.heap.size + 1 + 1) c e (.slice ad n cp) :=
    ⟨(((Below.refl _ _).alloc (Nat.le_refl _) _).alloc (by simp) _).alloc (by simp; omega) _, by simp [go_sem], by simp [go_sem], by simp [go_sem], by simp [go_sem], by simp [go_sem], by simp [go_sem]⟩
  go_enter Try.func4, Try.ntmps4
  go_wp2_with fail
  go_loopw [13] (fun i wr => ∃ j : Nat, j ≤ 2 ∧ i = .int .i64 j ∧ NS w wr w.heap.size (w.heap.size + 1) (w.heap.size + 1 + 1) c e (.slice ad n cp)) (fun i _ => 2 - (intOf i).toNat)
  case atStart => exact ⟨0, by omega, rfl, E0⟩
  case round =>
    obtain ⟨j, hj, rfl, E⟩ := hrel
    clear E0
    obtain ⟨p, hp, hl⟩ : ∃ p, (j < 2 → UN wr p) ∧ (j < 2 → wr.cell? ⟨w.heap.size + 1 + 1, j, none⟩ = some p) := by
      obtain rfl | rfl | rfl : j = 0 ∨ j = 1 ∨ j = 2 := by omega
      · exact ⟨_, fun _ => .inl rfl, fun _ => E.l0⟩
      · exact ⟨_, fun _ => E.un, fun _ => E.l1⟩
      · exact ⟨.pointer none, fun h => absurd h (by omega), fun h => absurd h (by omega)⟩
    by_cases h2 : j < 2
    · have HP : Hid (UN wr p) := hp h2
      have hl := hl h2
      have h2' : (j : Int) < 2 := by omega
      have a1 := E.a1
      have a2 := E.a2
      have a3 := E.a3
      clear hp
      have HE : Hid (NS w wr w.heap.size (w.heap.size + 1) (w.heap.size + 1 + 1) c e (.slice ad n cp)) := E
      clear E
      go_wp2_with fail
      refine (send_off (of_un HP.out c) (by decide) e _).mono ?_
      rintro r wr ⟨rfl, rfl⟩
      go_wp2_with fail
      refine (receive_off (of_un (un_below HP.out ((Below.refl _ _).alloc (Nat.le_refl _) _)) e) (by decide)).mono ?_
      rintro r y ⟨rfl, hb⟩
      have HF : Hid (∀ o, NS w (y.alloc o) w.heap.size (w.heap.size + 1) (w.heap.size + 1 + 1) c e (.slice ad n cp) ∧ UN (y.alloc o) p) := fun o => by
        have hb' := hb.trans (((Below.refl _ y).alloc (Nat.le_refl _) o).mono hb.size)
        exact ⟨HE.out.below hb', un_below HP.out hb'⟩
      have HY := HE.out.below hb
      have a1 := HY.a1
      have a2 := HY.a2
      have a3 := HY.a3
      have hA : w.heap.size < y.heap.size := World.block_lt_of_cell? y ⟨w.heap.size, 1, none⟩ a1
      clear hb HY HE HP hl
      dsimp only [z42]
      go_wp2_with fail
      refine (inject_off (of_un (HF.out _).2 e) (by decide) _).mono ?_
      rintro r y1 ⟨rfl, rfl⟩
      go_wp2_with fail
      refine (waiting_off (of_un (HF.out _).2 e) (by decide)).mono ?_
      rintro r y1 ⟨rfl, rfl⟩
      go_wp2_with fail
      refine (join_off (of_un (HF.out _).2 e) (by decide) c).mono ?_
      rintro r y1 ⟨rfl, rfl⟩
      go_wp2_with fail
      go_roundw
      case rel => exact ⟨j + 1, by omega, by go_num, (HF.out _).1⟩
      case measure => simp [intOf]; omega
    · obtain rfl : j = 2 := by omega
      have bl := E.bel
      go_wp2_with fail
      go_ret
      exact ⟨rfl, bl⟩
end Go.Proofs.Ytnjkbpjkaignbaa.wireNobody
