/-
  What New does.
-/
import Derived.Test.YtioanbdmkiphfaaDoorLu
namespace Go.Proofs.YtioanbdmkiphfaaDoor
open Go.RowKit
set_option linter.unusedVariables false
set_option maxRecDepth 20000

/-- P15.1: the error -/
def newE (len : Nat) (t c : Int) : Int := if ¬ (1 ≤ c ∧ c ≤ 8) then 2 else if ¬ t % 8 = 0 then 11 else if ¬ t + 16 ≤ len then 12 else 0
theorem new_cores (b g : Nat) (zs : List Int) (t c : Int) (w : World) (hm : MM w b g zs) (hl : 256 ≤ zs.length) (hc : ¬ (1 ≤ c ∧ c ≤ 8)) :
    Calls Tryd.prog 11 #[.pointer (some ⟨b, 0, none⟩), .int .u64 t, .int .i64 c] w fun e w' => e = .returned (.tuple #[.pointer none, .int .i64 2]) ∧ w' = w := by
  have C := frames_any _ _ _ _ w hm.len hm.hv
  have hq : ¬ (zs.length / 256 : Int) = 0 := by omega
  obtain ⟨F, HF⟩ : ∃ F, (zs.length / 256 : Int) = F := ⟨_, rfl⟩
  rw [HF] at C hq
  have hq' : (F == 0) = false := by simpa using hq
  by_cases h1 : c < 1
  · clear hc hq HF
    go_enter Tryd.func11, Tryd.ntmps11
    go_wp2_with fail
    refine C.mono ?_
    rintro e w1 ⟨rfl, rfl⟩
    go_wp2_with fail
    go_ret2
    exact ⟨rfl, rfl⟩
  · have h2 : 8 < c := by omega
    clear hc hq HF
    go_enter Tryd.func11, Tryd.ntmps11
    go_wp2_with fail
    refine C.mono ?_
    rintro e w1 ⟨rfl, rfl⟩
    go_wp2_with fail
    go_ret2
    exact ⟨rfl, rfl⟩
theorem new_align (b g : Nat) (zs : List Int) (t c : Int) (w : World) (hm : MM w b g zs) (hl : 256 ≤ zs.length) (hc : 1 ≤ c ∧ c ≤ 8) (ht : 0 ≤ t) (h8 : ¬ t % 8 = 0) :
    Calls Tryd.prog 11 #[.pointer (some ⟨b, 0, none⟩), .int .u64 t, .int .i64 c] w fun e w' => e = .returned (.tuple #[.pointer none, .int .i64 11]) ∧ w' = w := by
  have C := frames_any _ _ _ _ w hm.len hm.hv
  have hq : ¬ (zs.length / 256 : Int) = 0 := by omega
  obtain ⟨F, HF⟩ : ∃ F, (zs.length / 256 : Int) = F := ⟨_, rfl⟩
  rw [HF] at C hq
  have hq' : (F == 0) = false := by simpa using hq
  obtain ⟨h1, h2⟩ := hc
  clear hq HF
  go_enter Tryd.func11, Tryd.ntmps11
  go_wp2_with fail
  refine C.mono ?_
  rintro e w1 ⟨rfl, rfl⟩
  go_wp2_with fail
  go_ret2
  exact ⟨rfl, rfl⟩
theorem put16 (b g : Nat) (zs : List Int) (t : Int) (w w2 : World) (hm : MM w b g zs) (ht : 0 ≤ t) (ht' : t < 18446744073709551616) (hown : w2.ownsRow w.heap.size 5 1 (.slice (some ⟨w.heap.size, 0, none⟩) 16 16) 16 ((madeCells (Value.int .u8 0).cells (16 * 1)).toList)) (hgrow : w.grownBy w2 none) :
    Calls Tryd.prog 25 #[.pointer (some ⟨b, 0, none⟩), .int .u64 t, .slice (some ⟨w.heap.size, 0, none⟩) 16 16] w2 fun e w' => e = .returned (.int .i64 (if t + 16 ≤ zs.length then 0 else 12)) ∧ MM w' b g (if t + 16 ≤ zs.length then splice zs t.toNat (List.replicate 16 0) else zs) ∧ w.grownBy w' (some g) := by
  rw [made_zeros] at hown
  have hb : Below w.heap.size w w2 := (Below.refl _ _).grown hgrow (by simp) (by intro k h; cases h)
  have hs := SL.own hown (bytes_zeros 16)
  have C := mput_mm b g zs (List.replicate 16 0) t (some ⟨w.heap.size, 0, none⟩) 16 16 w2 (hm.below hb) hs (by decide) ht ht'
  have e1 : plcE zs.length t (List.replicate 16 (0 : Int)).length = if t + 16 ≤ zs.length then 0 else 12 := by
    simp only [plcE, List.length_replicate]
    by_cases h : t + 16 ≤ zs.length
    · rw [if_neg (by decide), if_neg (by simpa using h), if_pos h]
    · rw [if_neg (by decide), if_pos (by simpa using h), if_neg h]
  have e2 : putV zs t (List.replicate 16 0) = if t + 16 ≤ zs.length then splice zs t.toNat (List.replicate 16 0) else zs := by
    unfold putV
    rw [e1]
    by_cases h : t + 16 ≤ zs.length <;> simp [h]
  rw [e1, e2] at C
  refine C.mono ?_
  rintro e w' ⟨rfl, h1, h2⟩
  exact ⟨rfl, h1, grown_trans (grown_some hb _) h2⟩
set_option maxHeartbeats 1000000 in
theorem new_bound (b g : Nat) (zs : List Int) (t c : Int) (w : World) (hm : MM w b g zs) (hl : 256 ≤ zs.length) (hc : 1 ≤ c ∧ c ≤ 8) (ht : 0 ≤ t) (ht' : t < 18446744073709551616) (h8 : t % 8 = 0) (hb : ¬ t + 16 ≤ zs.length) :
    Calls Tryd.prog 11 #[.pointer (some ⟨b, 0, none⟩), .int .u64 t, .int .i64 c] w fun e w' => e = .returned (.tuple #[.pointer none, .int .i64 12]) ∧ MM w' b g zs ∧ w.grownBy w' (some g) := by
  obtain ⟨i0, hi, hz0, hz1, hz2⟩ := info_parts Tryd.info5
  have C := frames_any _ _ _ _ w hm.len hm.hv
  have hq : ¬ (zs.length / 256 : Int) = 0 := by omega
  obtain ⟨F, HF⟩ : ∃ F, (zs.length / 256 : Int) = F := ⟨_, rfl⟩
  rw [HF] at C hq
  have hq' : (F == 0) = false := by simpa using hq
  obtain ⟨h1, h2⟩ := hc
  have HM : Hid (MM w b g zs) := hm
  have HB : Hid (¬ t + 16 ≤ zs.length) := hb
  clear hq HF hm hb
  go_enter Tryd.func11, Tryd.ntmps11
  go_wp2_with fail
  refine C.mono ?_
  rintro e w1 ⟨rfl, rfl⟩
  go_wp2_with (at_make; refine wpList_make_full _ rfl _ _ 55 rfl w1.heap.size 5 i0 (.int .u8 0) 1 Tryd.underlying55 hi hz0 hz1 _ _ _ _ 16 rfl rfl (by omega) (by omega) (by rw [hz2]; omega) (by unfold maxLen; omega) (by simp) ?_; intro w2 hown2 hgrow2)
  have D := put16 b g zs t w1 w2 HM.out ht ht' hown2 hgrow2
  have hbb : ¬ t + 16 ≤ zs.length := by have := HB.out; omega
  rw [if_neg hbb, if_neg hbb] at D
  clear hbb
  clear hown2
  refine D.mono ?_
  rintro e w3 ⟨rfl, hm3, hg3⟩
  have HM3 : Hid (MM w3 b g zs) := hm3
  have HG3 : Hid (w1.grownBy w3 (some g)) := hg3
  clear hm3 hg3 D hgrow2
  go_wp2_with fail
  go_ret2
  exact ⟨rfl, HM3.out, HG3.out⟩
set_option maxHeartbeats 1000000 in
theorem new_ok (b g : Nat) (zs : List Int) (t : Int) (c : Nat) (w : World) (hm : MM w b g zs) (hT : TB w) (hg1 : 1 < g) (hl : 256 ≤ zs.length) (hc : 1 ≤ c ∧ c ≤ 8) (ht : 0 ≤ t) (h8 : t % 8 = 0) (hb : t + 16 ≤ zs.length) :
    Calls Tryd.prog 11 #[.pointer (some ⟨b, 0, none⟩), .int .u64 t, .int .i64 c] w fun e w' => ∃ k, e = .returned (.tuple #[.pointer (some ⟨k, 0, none⟩), .int .i64 0]) ∧ LX w' k b g (splice zs t.toNat (List.replicate 16 0)) t c (fun _ => 0) (fun _ => 0) ∧ w.heap.size ≤ k ∧ w.grownBy w' (some g) := by
  obtain ⟨i0, hi, hz0, hz1, hz2⟩ := info_parts Tryd.info5
  have C := frames_any _ _ _ _ w hm.len hm.hv
  have hq : ¬ (zs.length / 256 : Int) = 0 := by omega
  obtain ⟨F, HF⟩ : ∃ F, (zs.length / 256 : Int) = F := ⟨_, rfl⟩
  rw [HF] at C hq
  have hq' : (F == 0) = false := by simpa using hq
  obtain ⟨h1, h2⟩ := hc
  have HM : Hid (MM w b g zs) := hm
  have HTB : Hid (TB w) := hT
  have HB : Hid (t + 16 ≤ zs.length) := hb
  have ht' : t < 18446744073709551616 := by have := hm.len; omega
  have h1' : 1 ≤ (c : Int) := by omega
  have h2' : (c : Int) ≤ 8 := by omega
  clear hq HF hm hb hT
  go_enter Tryd.func11, Tryd.ntmps11
  go_wp2_with fail
  refine C.mono ?_
  rintro e w1 ⟨rfl, rfl⟩
  go_wp2_with (at_make; refine wpList_make_full _ rfl _ _ 55 rfl w1.heap.size 5 i0 (.int .u8 0) 1 Tryd.underlying55 hi hz0 hz1 _ _ _ _ 16 rfl rfl (by omega) (by omega) (by rw [hz2]; omega) (by unfold maxLen; omega) (by simp) ?_; intro w2 hown2 hgrow2)
  have D := put16 b g zs t w1 w2 HM.out ht ht' hown2 hgrow2
  rw [if_pos HB.out, if_pos HB.out] at D
  clear hown2
  refine D.mono ?_
  rintro e w3 ⟨rfl, hm3, hg3⟩
  have HM3 : Hid (MM w3 b g (splice zs t.toNat (List.replicate 16 0))) := hm3
  have HG3 : Hid (w1.grownBy w3 (some g)) := hg3
  clear hm3 hg3 D hgrow2
  go_wp2_with fail
  go_ret2
  have hs3 := HG3.out.size
  have hbA : ∀ o, Below w3.heap.size w3 (w3.alloc o) := fun o => (Below.refl _ _).alloc (Nat.le_refl _) _
  have hTB3 : TB w3 := HTB.out.turn (Trn.of_grown (S := fun x => x = g) HG3.out fun x hx => by cases hx; rfl) (fun x hx => by rw [hx]; exact hg1)
  have hp := HTB.out.pos
  refine ⟨w3.heap.size, rfl, ⟨⟨⟨_, heap_alloc_at _ _, rfl, rfl, rfl, rfl, fun d hd => ?_⟩, h1, h2, fun d => by decide, fun d => ⟨by decide, by decide⟩⟩, HM3.out.below (hbA _), hTB3.below (hbA _), ht, h8, ?_, by omega, hg1⟩, hs3, grown_trans HG3.out (grown_some (hbA _) _)⟩
  · match d, hd with
    | 0, _ | 1, _ | 2, _ | 3, _ | 4, _ | 5, _ | 6, _ | 7, _ => exact ⟨rfl, rfl⟩
  · rw [length_splice zs t.toNat (List.replicate 16 0) (by have := HB.out; simp; omega)]
    exact HB.out
end Go.Proofs.YtioanbdmkiphfaaDoor
