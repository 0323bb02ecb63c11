/-
  The document's tables: what Close does.
-/
import Derived.Test.YteghkhdpdeiocaaGreatDoorGM
namespace Go.Proofs.YteghkhdpdeiocaaGreatDoor
open Go.RowKit Go.Maps
set_option linter.unusedVariables false
set_option maxRecDepth 100000

section
variable {N0 n : Nat} {O : Nat → Prop} {w w' : World} {c h R r U gu : Nat} {z : Zs}
set_option maxHeartbeats 1600000 in
theorem rclose_uz (x : UZ N0 w c h R r U gu z) (hi : Iv n O z) (hg : 1 ≤ gu) : Calls Tryz.prog 29 #[.pointer (some ⟨U, 0, none⟩)] w fun e w1 => e = .returned (.int .i64 (clE z)) ∧ UZ N0 w1 c h R r U gu (clZ gu z) ∧ Tq N0 (fun k => k = h ∨ k = U) w w1 := by
  have c3 := x.ub.c0.2.2.2
  have dl := x.ub.lt
  unfold clE clZ
  by_cases hx : z.x.rt < 0
  · rw [if_pos hx, if_pos hx]
    have HS : Hid (UZ N0 w c h R r U gu z) := x
    clear x hi
    generalize z.x.rt = y at *
    go_enter Tryz.func29, Tryz.ntmps29
    go_wp2_with fail
    go_ret
    exact ⟨rfl, HS.out, Tq.refl _ _ _⟩
  · rw [if_neg hx, if_neg hx]
    have HI : Hid (∀ p, Iv n O (unsZ gu z p)) := fun p => (hi.unmaps hg p).1
    have H0 : Hid (UZ N0 w c h R r U gu (unsZ gu z 0) ∧ Tq N0 (fun k => k = h ∨ k = U) w w) := ⟨x, Tq.refl _ _ _⟩
    clear x hi
    go_enter Tryz.func29, Tryz.ntmps29
    go_wp2_with fail
    go_loopw [3] (fun i wr => ∃ p : Nat, p ≤ 1024 ∧ i = .int .i64 p ∧ Hid (UZ N0 wr c h R r U gu (unsZ gu z p) ∧ Tq N0 (fun k => k = h ∨ k = U) w wr)) (fun i _ => 1024 - (intOf i).toNat)
    case atStart => exact ⟨0, by omega, rfl, H0.out⟩
    case round =>
      obtain ⟨p, hp, rfl, HJ⟩ := hrel
      by_cases hp2 : p < 1024
      · have hp3 : (p : Int) < 1024 := by omega
        have CU := runmap_uz HJ.out.1 (HI.out p) (p : Int)
        go_wp2_with fail
        refine CU.mono ?_
        rintro e w2 ⟨rfl, h2, t2⟩
        have H2 : Hid (UZ N0 w2 c h R r U gu (unsZ gu z (p + 1)) ∧ Tq N0 (fun k => k = h ∨ k = U) w w2) := ⟨h2, HJ.out.2.trans t2⟩
        clear h2 t2 CU HJ
        go_wp2_with fail
        go_roundw
        case rel => exact ⟨p + 1, by omega, by go_num, H2.out⟩
        case measure => simp [intOf]; omega
      · obtain rfl : p = 1024 := by omega
        generalize hz1 : unsZ gu z 1024 = z1 at *
        have hc1 := And.intro HJ.out.1.drew.ub.c0.2.1 HJ.out.1.drew.ub.c0.2.2.2
        have F1 := rfree (HJ.out.1.rz.below (Below.refl _ _).drew).rf z1.x.rt 0
        have dz := HJ.out.1.ub.lt
        go_wp2_with fail
        go_region_held2 (fun W => W.cell? ⟨U, 1, none⟩ = some (.pointer (some ⟨R, 0, none⟩)) ∧ W.cell? ⟨U, 3, none⟩ = some (.int .i64 z1.x.rt))
          (first | exact hc1 | exact hc2)
          (first
            | (go_at_call 61; refine F1.mono ?_; rintro q y2 ⟨rfl, hf2, ht2⟩; (have H3 : Hid (UZ N0 y2 c h R r U gu ⟨z1.m, frS z1.S z1.x.rt 0, z1.x⟩ ∧ Tq N0 (fun k => k = h ∨ k = U) w y2) := ⟨HJ.out.1.drew.frames hf2 ht2, HJ.out.2.drew.trans (Tq.of_tu ht2)⟩); (have hc2 := And.intro H3.out.1.ub.c0.2.1 H3.out.1.ub.c0.2.2.2)))
        clear hc1 F1 dz
        have d3 := H3.out.1.ub.c0.2.2.2
        have f3 := H3.out.1.ub.fz 3
        have dl3 := H3.out.1.ub.lt
        obtain ⟨t5, n5⟩ := H3.out.1.ub.setR (-1)
        have H5 : Hid (UZ N0 (y2.setCell ⟨U, 3, none⟩ (.int .i64 (-1))) c h R r U gu (clF z1) ∧ Tq N0 (fun k => k = h ∨ k = U) w (y2.setCell ⟨U, 3, none⟩ (.int .i64 (-1)))) := ⟨H3.out.1.block t5 n5, H3.out.2.trans (Tq.of_trn n5 fun _ e => .inr e)⟩
        clear t5 n5
        go_wp2_with fail
        go_ret
        exact ⟨rfl, H5.out.1, H5.out.2⟩
end
end Go.Proofs.YteghkhdpdeiocaaGreatDoor
