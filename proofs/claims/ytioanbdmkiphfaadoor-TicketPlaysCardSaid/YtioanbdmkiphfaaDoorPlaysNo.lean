/-
  The walk of TicketPlays where no lock is made.
-/
import Derived.Test.YtioanbdmkiphfaaDoorActs
namespace Go.Proofs.YtioanbdmkiphfaaDoor
open Go.RowKit
set_option linter.unusedVariables false
set_option maxRecDepth 20000
namespace ticketPlays
theorem names_no (w : World) : Calls Tryd.prog 10 #[] w fun e w' => e = .returned (.bool true) ∧ w' = w := by
  go_enter Tryd.func10, Tryd.ntmps10
  go_wp2
  go_ret
  exact ⟨rfl, rfl⟩
/-- both memories, all 0 -/
structure KB (w0 w : World) (b g bo go : Nat) : Prop where
  mm : MM w b g (List.replicate 512 0)
  rm : RM w bo go (List.replicate 512 0)
  bel : Below w0.heap.size w0 w
theorem new_any (b g : Nat) (t c : Int) (w : World) (hm : MM w b g (List.replicate 512 0)) (ht : 0 ≤ t) (ht' : t < 18446744073709551616) (hE : newE 512 t c ≠ 0) :
    Calls Tryd.prog 11 #[.pointer (some ⟨b, 0, none⟩), .int .u64 t, .int .i64 c] w fun e w' => e = .returned (.tuple #[.pointer none, .int .i64 (newE 512 t c)]) ∧ MM w' b g (List.replicate 512 0) ∧ w.grownBy w' (some g) := by
  unfold newE at hE ⊢
  by_cases h1 : 1 ≤ c ∧ c ≤ 8
  · rw [if_neg (fun e => e h1)] at hE ⊢
    by_cases h8 : t % 8 = 0
    · rw [if_neg (fun e => e h8)] at hE ⊢
      have h16 : ¬ t + 16 ≤ ((512 : Nat) : Int) := fun h => hE (by rw [if_neg (fun e => e h)])
      rw [if_pos h16]
      exact new_bound b g _ t c w hm (by simp) h1 ht ht' h8 (by simpa using h16)
    · rw [if_pos h8]
      refine (new_align b g _ t c w hm (by simp) h1 ht h8).mono ?_
      rintro e w' ⟨rfl, rfl⟩
      exact ⟨rfl, hm, grown_refl _ _⟩
  · rw [if_pos h1]
    refine (new_cores b g _ t c w hm (by simp) h1).mono ?_
    rintro e w' ⟨rfl, rfl⟩
    exact ⟨rfl, hm, grown_refl _ _⟩
theorem rnew_any (b g : Nat) (t c : Int) (w : World) (hm : RM w b g (List.replicate 512 0)) (ht : 0 ≤ t) (hE : newE 512 t c ≠ 0) :
    Calls Tryd.prog 12 #[.pointer (some ⟨b, 0, none⟩), .int .u64 t, .int .i64 c] w fun e w' => e = .returned (.tuple #[.pointer none, .int .i64 (newE 512 t c)]) ∧ w' = w := by
  unfold newE at hE ⊢
  by_cases h1 : 1 ≤ c ∧ c ≤ 8
  · rw [if_neg (fun e => e h1)] at hE ⊢
    by_cases h8 : t % 8 = 0
    · rw [if_neg (fun e => e h8)] at hE ⊢
      have h16 : ¬ t + 16 ≤ ((512 : Nat) : Int) := fun h => hE (by rw [if_neg (fun e => e h)])
      rw [if_pos h16]
      exact rnew_bound b g _ t c w hm (by simp) h1 ht h8 (by simpa using h16)
    · rw [if_pos h8]
      exact rnew_align b t c w h1 ht h8
  · rw [if_pos h1]
    exact rnew_cores b t c w h1
set_option maxHeartbeats 4000000 in
theorem walk_bad (t c : Int) (ad : Option Addr) (len cap : Nat) (w : World) (hT : TB w) (hlen : len < 9223372036854775808) (ht : 0 ≤ t) (ht' : t < 18446744073709551616) (hE : newE 512 t c ≠ 0) :
    Calls Tryd.prog 3 #[.int .u64 t, .int .i64 c, .slice ad len cap] w fun e w' => e = .returned (.bool true) ∧ Below w.heap.size w w' := by
  have HN : Hid (_) := new_yes 2 w (by decide) (by decide)
  obtain ⟨E, HE⟩ : ∃ E, Hid (newE 512 t c = E) := ⟨_, rfl⟩
  have HE0 : Hid (newE 512 t c ≠ 0) := hE
  have hb : (E == 0) = false := by rw [HE.out] at hE; simpa using hE
  clear hE hT
  go_enter Tryd.func3, Tryd.ntmps3
  go_wp2_with fail
  refine Calls.mono HN.out ?_
  rintro e w1 ⟨b, g, rfl, hM, lb, lg, hb1⟩
  have HR := rnew_yes 2 w1 (by decide) (by decide)
  have HM : Hid (MM w1 b g (List.replicate (2 * 256) 0)) := hM
  have HB1 : Hid (Below w.heap.size w w1) := hb1
  clear HN hM hb1
  go_wp2_with fail
  refine HR.mono ?_
  rintro e w2 ⟨bo, go, rfl, hR, lbo, lgo, hb2⟩
  have HRM : Hid (RM w2 bo go (List.replicate (2 * 256) 0)) := hR
  have HB2 : Hid (Below w1.heap.size w1 w2) := hb2
  have HNA := names_no w2
  clear HR hR hb2
  go_wp2_with fail
  refine HNA.mono ?_
  rintro e w2' ⟨rfl, rfl⟩
  have C3 := new_any b g t c _ (HM.out.below HB2.out) ht ht' HE0.out
  rw [HE.out] at C3
  clear HNA
  go_wp2_with fail
  refine C3.mono ?_
  rintro e w3 ⟨rfl, hM3, hr3⟩
  have hne1 : bo ≠ g := by have := HM.out.glt; omega
  have hne2 : go ≠ g := by have := HM.out.glt; omega
  have hR3 : RM w3 bo go (List.replicate 512 0) := HRM.out.kept hr3 (by simp; omega) (by simp; omega)
  have C4 := rnew_any bo go t c w3 hR3 ht HE0.out
  rw [HE.out] at C4
  have HK : Hid (KB w w3 b g bo go) := ⟨hM3, hR3, (HB1.out.trans (HB2.out.mono HB1.out.size)).grown hr3 (Nat.le_trans HB1.out.size HB2.out.size) (by intro x e; cases e; exact lg)⟩
  clear C3 hM3 hr3 hR3 HM HRM HB1 HB2 HE0
  go_wp2_with fail
  refine C4.mono ?_
  rintro e w3' ⟨rfl, rfl⟩
  clear C4
  go_wp2_with fail
  go_loopw [14] (fun q wr => q = .int .i64 0 ∧ Hid (KB w wr b g bo go)) (fun q _ => 0)
  case atStart => exact ⟨rfl, HK⟩
  case round =>
    obtain ⟨rfl, HZ⟩ := hrel
    clear HK
    have hbl := mbytes_yes b g (List.replicate 512 0) 0 512 wr HZ.out.mm (by simp)
    have hlz : (List.replicate 512 (0 : Int)).length = 512 := List.length_replicate
    by_cases hl0 : len = 0
    case' pos => subst hl0
    case' neg => have hl1 : (0 : Int) < (len : Int) := by omega
    all_goals
      go_wp2_with fail
      refine hbl.mono ?_
      rintro e y1 ⟨gi, rfl, hown, hb1⟩
      have hR1 := HZ.out.rm.below hb1
      have bD : Below y1.heap.size y1 y1.drew := (Below.refl _ _).drew
      have hs := SL.own hown (bytes_mid HZ.out.mm.bytes 0 512)
      rw [show ((List.replicate 512 (0 : Int)).drop 0).take 512 = List.replicate 512 0 by rw [List.drop_zero]; exact List.take_of_length_le (by rw [hlz]; omega)] at hs
      have cv1 := conv_sl 512 (SL.below hs bD)
      have hR := hR1.below bD
      have cv2 := conv_sl (List.replicate 512 (0 : Int)).length (RM.slAll hR)
      have c0 := hR.cell0
      have hlb : bo < y1.heap.size := hR1.blt
      have HB : Hid (Below w.heap.size w y1) := HZ.out.bel.trans (hb1.mono HZ.out.bel.size)
      generalize List.replicate 512 (0 : Int) = zz at *
      obtain ⟨SO, HSO⟩ : ∃ SO, Hid (strOfNums zz = SO) := ⟨_, rfl⟩
      rw [HSO.out] at cv1 cv2
      rw [hlz] at cv2 c0
      have c0' : y1.cell? ⟨bo, 0, none⟩ = some (.slice (some ⟨go, 0, none⟩) 512 512) := c0
      clear hown hs hR hR1 hb1 hbl bD HZ
      go_wp2_with fail
      go_region
      all_goals
        go_wp2_with fail
        go_ret
        exact ⟨ret_bool (by simp), HB.out.drew⟩
end ticketPlays
end Go.Proofs.YtioanbdmkiphfaaDoor
