/-
  An operation and its operands, read, whatever they are.
-/
import Derived.Test.YtopankjjlapfbaaGreatDoorInstrC
import Derived.Test.YtopankjjlapfbaaGreatDoorShowC
namespace Go.Proofs.YtopankjjlapfbaaGreatDoor
open Go.RowKit
set_option linter.unusedVariables false
set_option maxRecDepth 100000

theorem instr_bare (op : Int) (a : Option Addr) (cap : Nat) (w : World)
    (C1 : ∀ w, Calls Tryz.prog 19 #[.int .i64 op] w fun e w' => e = .returned (.slice none 0 0) ∧ w' = w) :
    Calls Tryz.prog 75 #[.int .i64 op, .slice a 0 cap] w fun e w' => e = .returned (.tuple #[stV ⟨0, op, 0, 0, 0, 0, ⟨#[]⟩, 0, 1⟩, .bool true]) ∧ Below w.heap.size w w' := by
  go_enter Tryz.func75, Tryz.ntmps75
  go_wp2_with fail
  go_step3
  go_wp2_with fail
  refine (C1 _).mono ?_
  rintro e w1 ⟨rfl, rfl⟩
  go_wp2_with fail
  go_step3
  go_wp2_with fail
  go_loop [8, 9, 25] (fun _ ok i => ok = .bool true ∧ i = .int .i64 0) (fun _ _ _ => 0)
  case atStart => exact ⟨rfl, rfl⟩
  case round =>
    obtain ⟨rfl, rfl⟩ := hrel
    go_wp2_with fail
    exact bodyPost_ret (v := .tuple #[stV ⟨0, op, 0, 0, 0, 0, ⟨#[]⟩, 0, 1⟩, .bool true]) (by simp [results, Tryz.results75, go_sem, stV, stC]) rfl
      ⟨rfl, ((Below.refl _ _).alloc (Nat.le_refl _) _).alloc (by simp) _⟩

theorem instr_any (op : Int) (v : Value) (os : List ByteArray) (w : World) (hv : SlS w v os) (hsz : ∀ o ∈ os, o.size ≤ 65536) (he : Errs w) :
    Calls Tryz.prog 75 #[.int .i64 op, v] w fun e w' => (∃ s', e = .returned (.tuple #[stV s', .bool (instrO op os).isSome]) ∧ ∀ s, instrO op os = some s → s' = s) ∧ Below w.heap.size w w' := by
  have C1 := places_any op
  unfold instrO
  by_cases hl : os.length = (plcL op).length
  · rw [if_pos hl]
    obtain ⟨a, cap, rfl, h⟩ := hv
    by_cases hp : plcL op = []
    · rw [hp] at C1 hl ⊢
      have ho : os = [] := List.length_eq_zero_iff.1 hl
      subst ho
      unfold rowV rowW at C1
      refine (instr_bare op a cap w (fun w => by simpa using C1 w)).mono ?_
      rintro e w' ⟨rfl, hb⟩
      exact ⟨⟨_, rfl, fun s hs => by cases hs; rfl⟩, hb⟩
    · unfold rowV rowW at C1
      have ho : os ≠ [] := fun h0 => hp (by rw [h0] at hl; exact List.length_eq_zero_iff.1 hl.symm)
      obtain ⟨blk, off, rfl, hlt, hc⟩ := h ho
      exact instr_some op (plcL op) os blk off cap w hp hl (plcL_len op) hlt hc hsz he (fun w => by simpa [hp] using C1 w)
  · rw [if_neg hl]
    refine (instr_no op v os w hv hl).mono ?_
    rintro e w' ⟨⟨s', rfl⟩, hb⟩
    exact ⟨⟨s', rfl, fun s hs => by cases hs⟩, hb⟩
end Go.Proofs.YtopankjjlapfbaaGreatDoor
