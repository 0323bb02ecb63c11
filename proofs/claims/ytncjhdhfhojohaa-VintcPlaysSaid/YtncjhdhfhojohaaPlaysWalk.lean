/-
  The walk of VintcPlays.
-/
import Derived.Test.YtncjhdhfhojohaaDs
namespace Go.Proofs.Ytncjhdhfhojohaa
open Go.RowKit
set_option linter.unusedVariables false
set_option maxRecDepth 100000
set_option maxHeartbeats 12800000 in
theorem pwalk (vn : Int) (ad : Option Addr) (len cap : Nat) (w : World) (hK : ActsIn w ad len) (hl : (len : Int) ≤ 9223372036854775807) : Calls Try.prog 3 #[.int .i64 vn, .slice ad len cap] w fun e w' => e = .returned (.bool true) ∧ Below w.heap.size w w' := by
  have HK : Hid (ActsIn w ad len) := hK
  clear hK
  by_cases hv : 1 ≤ vn ∧ vn ≤ 4
  · obtain ⟨n, rfl⟩ : ∃ n : Nat, vn = n := ⟨vn.toNat, by omega⟩
    have C1 := new_is n (by omega) (by omega) w
    have HNN : Hid (1 ≤ n ∧ n ≤ 4) := ⟨by omega, by omega⟩
    clear hv
    go_enter Try.func3, Try.ntmps3
    go_wp2_with fail
    refine C1.mono ?_
    rintro e w1 ⟨rfl, h1, b1⟩
    have C2 := rnew_is n HNN.out.1 HNN.out.2 w1
    have H1 : Hid (IS 50 w1 w.heap.size (nz n 17) ∧ Below w.heap.size w w1) := ⟨h1, b1⟩
    clear h1 b1 C1
    go_wp2_with fail
    refine C2.mono ?_
    rintro e w2 ⟨rfl, h2, b2⟩
    have HL : Hid (w.heap.size < w1.heap.size) := H1.out.1.lt
    have H2 : Hid (PX w w2 w.heap.size w1.heap.size (nz n 17) (nz n 17) ∧ Ok (nz n 17)) := ⟨⟨H1.out.2.trans (b2.mono H1.out.2.size), H1.out.1.below b2, h2, Nat.le_refl _, Nat.le_of_lt HL.out⟩, nz_ok n HNN.out.1 HNN.out.2⟩
    have C3 := names_any w2
    clear h2 b2 C2 H1
    generalize w1.heap.size = c at *
    go_wp2_with fail
    refine C3.mono ?_
    rintro e w2 ⟨rfl, rfl⟩
    clear C3
    go_wp2_with fail
    go_loopw [9] (fun q wr => ∃ j : Nat, j ≤ len ∧ q = .int .i64 j ∧ ∃ z, Hid (PX w wr w.heap.size c z z ∧ Ok z)) (fun q _ => len - (intOf q).toNat)
    case atStart => exact ⟨0, by omega, rfl, _, H2.out⟩
    case round =>
      obtain ⟨j, hj, rfl, z, HJ⟩ := hrel
      clear H2
      by_cases hjn : j < len
      · have hjn' : (j : Int) < len := by omega
        have hj0 : (j : Int) < 9223372036854775807 := by omega
        obtain ⟨B, off, rfl, hB, x, hx, hA⟩ := HK.out.at hjn
        obtain ⟨a0, a1, a2, a3, a4⟩ := hA.below HJ.out.1.bel hB
        have lB : B < wr.heap.size := Nat.lt_of_lt_of_le hB HJ.out.1.bel.size
        have K1 := does_any HJ.out.1 HJ.out.2 x
        unfold acA at K1
        have HLN : Hid (j < len ∧ (j : Int) < 9223372036854775807) := ⟨hjn, hj0⟩
        clear HJ hA hx hB hl hj
        go_wp2_with fail
        refine K1.mono ?_
        rintro e x1 ⟨rfl, T, px, ok⟩
        have HT : Hid (PX w x1 w.heap.size c T T ∧ Ok T) := ⟨px, ok⟩
        clear px ok K1 a0 a1 a2 a3 a4 lB hjn' hj0 hjn
        go_wp2_with fail
        go_loopw [10] (fun q wr => ∃ a : Int, -1 ≤ a ∧ a ≤ 5 ∧ q = .int .i64 a ∧ Hid (PX w wr w.heap.size c T T ∧ Ok T)) (fun q _ => (5 - intOf q).toNat)
        case atStart => exact ⟨-1, by omega, by omega, rfl, HT⟩
        case round =>
          obtain ⟨a, ha1, ha5, rfl, HR⟩ := hrel
          clear HT
          by_cases ha : a ≤ 4
          · have K2 := line_is HR.out.1.is HR.out.2 a
            obtain ⟨p, hp⟩ : ∃ p, hasV T a = p := ⟨_, rfl⟩
            rw [hp] at K2
            cases p
            · go_wp2_with fail
              refine K2.mono ?_
              rintro e x2 ⟨rfl, b2⟩
              have HR2 : Hid (PX w x2 w.heap.size c T T ∧ Ok T) := ⟨HR.out.1.below b2, HR.out.2⟩
              have K3 := rhas_is HR2.out.1.rs a
              rw [hp] at K3
              clear b2 HR K2
              rw [Bool.false_and]
              go_wp2_with fail
              refine K3.mono ?_
              rintro e x2 ⟨rfl, rfl⟩
              go_wp2_with fail
              go_roundw
              case rel => exact ⟨a + 1, by omega, by omega, by go_num, HR2.out⟩
              case measure => simp [intOf]; omega
            · obtain ⟨v, rfl, v1, v2⟩ := has_nat HR.out.2 hp
              have K4 : Hid (∀ x2, PX w x2 w.heap.size c T T → Calls Try.prog 13 #[.pointer (some ⟨c, 0, none⟩), .int .i64 v] x2 fun e w' => e = .returned (.int .i64 (fst T v)) ∧ Below x2.heap.size x2 w') := fun x2 h => rfirst_is h.rs HR.out.2 v v1
              rw [Int.toNat_natCast, Bool.true_and] at K2
              have HV : Hid (v ≤ 3) := by show v ≤ 3; omega
              have hv4 : (v : Int) < 4 := by omega
              generalize fst T v = f at *
              by_cases hf : 0 < f
              · have hd : decide (0 < f) = true := decide_eq_true hf
                obtain ⟨F, hF⟩ : ∃ F : Int, (f : Int) = F := ⟨_, rfl⟩
                have hF1 : decide (0 < F) = true := decide_eq_true (by omega)
                rw [hd] at K2
                go_wp2_with fail
                refine K2.mono ?_
                rintro e x2 ⟨rfl, b2⟩
                have HR2 : Hid (PX w x2 w.heap.size c T T ∧ Ok T) := ⟨HR.out.1.below b2, HR.out.2⟩
                have K3 := rhas_is HR2.out.1.rs (v : Int)
                have K5 := K4.out x2 HR2.out.1
                rw [hF] at K5
                rw [hp] at K3
                clear b2 HR K2 K4 hF hf hd
                go_wp2_with fail
                refine K3.mono ?_
                rintro e x2 ⟨rfl, rfl⟩
                go_wp2_with fail
                refine K5.mono ?_
                rintro e x3 ⟨rfl, b3⟩
                have HR3 : Hid (PX w x3 w.heap.size c T T ∧ Ok T) := ⟨HR2.out.1.below b3, HR2.out.2⟩
                clear b3 K5 K3 HR2
                go_wp2_with fail
                go_roundw
                case rel => exact ⟨(v : Int) + 1, by omega, by omega, by go_num, HR3.out⟩
                case measure => simp [intOf]; omega
              · obtain rfl : f = 0 := by omega
                have hd : decide (0 < 0) = false := rfl
                rw [hd] at K2
                go_wp2_with fail
                refine K2.mono ?_
                rintro e x2 ⟨rfl, b2⟩
                have HR2 : Hid (PX w x2 w.heap.size c T T ∧ Ok T) := ⟨HR.out.1.below b2, HR.out.2⟩
                have K3 := rhas_is HR2.out.1.rs (v : Int)
                have K5 := K4.out x2 HR2.out.1
                rw [hp] at K3
                clear b2 HR K2 K4 hf hd
                go_wp2_with fail
                refine K3.mono ?_
                rintro e x2 ⟨rfl, rfl⟩
                go_wp2_with fail
                refine K5.mono ?_
                rintro e x3 ⟨rfl, b3⟩
                have HR3 : Hid (PX w x3 w.heap.size c T T ∧ Ok T) := ⟨HR2.out.1.below b3, HR2.out.2⟩
                clear b3 K5 K3 HR2
                go_wp2_with fail
                go_roundw
                case rel => exact ⟨(v : Int) + 1, by omega, by omega, by go_num, HR3.out⟩
                case measure => simp [intOf]; omega
          · obtain rfl : a = 5 := by omega
            go_wp2_with fail
            go_loopw [11] (fun q wr => ∃ k : Nat, k ≤ 18 ∧ q = .int .i64 k ∧ Hid (PX w wr w.heap.size c T T ∧ Ok T)) (fun q _ => 18 - (intOf q).toNat)
            case atStart => exact ⟨0, by omega, rfl, HR⟩
            case round =>
              obtain ⟨k, hk, rfl, HS⟩ := hrel
              clear HR
              by_cases hk17 : k ≤ 17
              · have hk17' : (k : Int) ≤ 17 := by omega
                obtain ⟨p, hp⟩ : ∃ p, src (k : Int) = p := ⟨_, rfl⟩
                cases p
                · have K2 := told_no HS.out.1.is HS.out.2 (k : Int) hp
                  go_wp2_with fail
                  refine K2.mono ?_
                  rintro e x2 ⟨rfl, m, rfl⟩
                  have HR2 : Hid (PX w (wr.drewN m) w.heap.size c T T ∧ Ok T) := ⟨HS.out.1.below (below_drewN (Below.refl _ _) _), HS.out.2⟩
                  clear HS K2
                  generalize wr.drewN m = x2 at *
                  have K3 := is_any (k : Int) x2
                  have K4 := is_any (k : Int) x2
                  rw [hp] at K3 K4
                  go_wp2_with fail
                  refine K3.mono ?_
                  rintro e x2 ⟨rfl, rfl⟩
                  go_wp2_with fail
                  refine K4.mono ?_
                  rintro e x2 ⟨rfl, rfl⟩
                  go_wp2_with fail
                  go_roundw
                  case rel => exact ⟨k + 1, by omega, by go_num, HR2.out⟩
                  case measure => simp [intOf]; omega
                · have hs : 1 ≤ k ∧ k ≤ 16 := by
                    unfold src at hp
                    have := of_decide_eq_true hp
                    omega
                  have K2 := told_is HS.out.1.is HS.out.2 k hs.1 hs.2
                  go_wp2_with fail
                  refine K2.mono ?_
                  rintro e x2 ⟨rfl, m, rfl⟩
                  have HR2 : Hid (PX w (wr.drewN m) w.heap.size c T T ∧ Ok T) := ⟨HS.out.1.below (below_drewN (Below.refl _ _) _), HS.out.2⟩
                  clear HS K2
                  generalize wr.drewN m = x2 at *
                  have K3 := is_any (k : Int) x2
                  have K4 := is_any (k : Int) x2
                  rw [hp] at K3 K4
                  have cP := HR2.out.1.rs.cP k (by omega)
                  have cT := HR2.out.1.rs.cT k (by omega)
                  have lc := HR2.out.1.rs.lt
                  have hk2 : (k : Int) < 17 := by omega
                  generalize T.P k = tp at *
                  generalize T.T k = tt at *
                  go_wp2_with fail
                  refine K3.mono ?_
                  rintro e x2 ⟨rfl, rfl⟩
                  go_wp2_with fail
                  refine K4.mono ?_
                  rintro e x2 ⟨rfl, rfl⟩
                  go_wp2_with fail
                  go_roundw
                  case rel => exact ⟨k + 1, by omega, by go_num, HR2.out⟩
                  case measure => simp [intOf]; omega
              · obtain rfl : k = 18 := by omega
                have hj0 := HLN.out.2
                go_wp2_with fail
                go_roundw
                case rel => exact ⟨j + 1, by have := HLN.out.1; omega, by go_num, _, HS.out⟩
                case measure => have := HLN.out.1; simp [intOf]; omega
      · obtain rfl : j = len := by omega
        have hB : Hid (_) := HJ.out.1.bel
        clear HJ HK hl
        go_wp2_with fail
        go_ret
        exact ⟨rfl, hB.out⟩
  · have C1 := new_no vn hv w
    have C2 := rnew_no vn hv w
    have C3 := names_any w
    clear hv
    go_enter Try.func3, Try.ntmps3
    go_wp2_with fail
    refine C1.mono ?_
    rintro e w ⟨rfl, rfl⟩
    go_wp2_with fail
    refine C2.mono ?_
    rintro e w ⟨rfl, rfl⟩
    go_wp2_with fail
    refine C3.mono ?_
    rintro e w ⟨rfl, rfl⟩
    clear C1 C2 C3
    clear HK
    go_wp2_with fail
    go_loopw [9] (fun q wr => q = .int .i64 0 ∧ wr = w) (fun _ _ => 0)
    case atStart => exact ⟨rfl, rfl⟩
    case round =>
      obtain ⟨rfl, rfl⟩ := hrel
      by_cases h0 : len = 0
      · subst h0
        go_wp2_with fail
        go_ret
        exact ⟨rfl, Below.refl _ _⟩
      · have h0' : decide ((0 : Int) < len) = true := decide_eq_true (by omega)
        have h1' : decide (0 < len) = true := decide_eq_true (by omega)
        clear h0
        go_wp2_with fail
        go_ret
        exact ⟨rfl, Below.refl _ _⟩
end Go.Proofs.Ytncjhdhfhojohaa
