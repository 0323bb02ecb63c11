/-
  What Clear of a memory does: its contract.
-/
import Derived.Test.YtcpkboihkgkkmaaDoorMem5
namespace Go.Proofs.YtcpkboihkgkkmaaDoor
open Go.RowKit
set_option linter.unusedVariables false

def clrE (len : Nat) (f : Int) : Int := if 0 ≤ f ∧ f < (len : Int) / 256 then 0 else 12
def clearV (zs : List Int) (f : Int) : List Int := if 0 ≤ f ∧ f < (zs.length : Int) / 256 then splice zs (f.toNat * 256) (List.replicate 256 0) else zs
theorem mclear_nobody (p : Value) (f : Int) (w : World) (h : HV w p (.slice none 0 0)) :
    Calls Tryd.prog 19 #[p, .int .i64 f] w fun e w' => e = .returned (.int .i64 1) ∧ w' = w := by
  go_enter Tryd.func19, Tryd.ntmps19
  go_wp2_with fail
  refine (made_any _ _ _ _ _ h).mono ?_
  rintro e w1 ⟨rfl, rfl⟩
  go_wp2_with fail
  go_ret
  exact ⟨rfl, rfl⟩
theorem mclear_mm (b g : Nat) (zs : List Int) (f : Int) (w : World) (h : MM w b g zs) :
    Calls Tryd.prog 19 #[.pointer (some ⟨b, 0, none⟩), .int .i64 f] w fun e w' => e = .returned (.int .i64 (clrE zs.length f)) ∧ MM w' b g (clearV zs f) ∧ w.grownBy w' (some g) := by
  have hd : decide (0 < zs.length) = true := decide_eq_true h.pos
  have hl := h.len
  have hc := h.cell0
  have hlt := h.blt
  by_cases h0 : f < 0
  · rw [show clrE zs.length f = 12 by rw [clrE, if_neg (by omega)], show clearV zs f = zs by rw [clearV, if_neg (by omega)]]
    go_enter Tryd.func19, Tryd.ntmps19
    go_wp2_with fail
    refine (made_any _ _ _ _ _ h.hv).mono ?_
    rintro e w1 ⟨rfl, rfl⟩
    rw [hd]
    clear hd
    go_wp2_with fail
    go_ret
    exact ⟨rfl, h, grown_refl _ _⟩
  · by_cases h1 : f < (zs.length : Int) / 256
    · rw [show clrE zs.length f = 0 by rw [clrE, if_pos (by omega)], show clearV zs f = splice zs (f.toNat * 256) (List.replicate 256 0) by rw [clearV, if_pos (by omega)]]
      obtain ⟨F, rfl⟩ := Int.eq_ofNat_of_zero_le (show 0 ≤ f by omega)
      rw [Int.toNat_natCast]
      have hle : F * 256 + 256 ≤ zs.length := by omega
      obtain ⟨w3, hr3, hg3, hgr3⟩ := run_clear_sl 0 g (F * 256) 256 (zs.length - F * 256) zs h.row (by decide) hle
      have hm3 := h.wrote (length_splice zs (F * 256) (List.replicate 256 0) (by rw [List.length_replicate]; omega)) (bytes_splice h.bytes (bytes_zeros 256) (F * 256) (by rw [List.length_replicate]; omega)) hg3 hgr3
      have HM : Hid (_) := hm3
      have HR : Hid (_) := hr3
      clear hm3 hg3 hr3
      go_enter Tryd.func19, Tryd.ntmps19
      go_wp2_with fail
      refine (made_any _ _ _ _ _ h.hv).mono ?_
      rintro e w1 ⟨rfl, rfl⟩
      rw [hd]
      clear hd
      go_wp2_with fail
      refine (frames_any _ _ _ _ _ hl h.hv).mono ?_
      rintro e w2 ⟨rfl, rfl⟩
      go_wp2_with fail
      rw [HR.out]
      go_wp2_with fail
      go_ret
      exact ⟨rfl, HM.out, hgr3⟩
    · rw [show clrE zs.length f = 12 by rw [clrE, if_neg (by omega)], show clearV zs f = zs by rw [clearV, if_neg (by omega)]]
      go_enter Tryd.func19, Tryd.ntmps19
      go_wp2_with fail
      refine (made_any _ _ _ _ _ h.hv).mono ?_
      rintro e w1 ⟨rfl, rfl⟩
      rw [hd]
      clear hd
      go_wp2_with fail
      refine (frames_any _ _ _ _ _ hl h.hv).mono ?_
      rintro e w2 ⟨rfl, rfl⟩
      go_wp2_with fail
      go_ret
      exact ⟨rfl, h, grown_refl _ _⟩
end Go.Proofs.YtcpkboihkgkkmaaDoor
