/-
  The walk of VtimerApart.
-/
import Derived.Test.YtgiafngiledmbaaAp
namespace Go.Proofs.Ytgiafngiledmbaa
open Go.RowKit Go.Maps
set_option linter.unusedVariables false
set_option maxRecDepth 100000
/-- when each timer is due -/
def fz (zs : List Int) (i : Nat) : Int := bits .and .u64 (zs.getD i 0) 255
theorem fz_lo (zs : List Int) (i : Nat) : 0 ≤ fz zs i ∧ fz zs i ≤ 255 := by
  obtain ⟨k, h1, h2⟩ := and_lowu (zs.getD i 0) 255 255 (by decide) (by decide)
  unfold fz
  rw [h2]
  omega
/-- numbers told, the world at rest -/
theorem Li.get {B : Nat} {w : World} {v : Value} {xs : List Int} (h : Li B w v xs) : ∃ ad c, v = .slice ad xs.length c ∧ ∀ i, i < xs.length → ∃ g, ad = some ⟨g, 0, none⟩ ∧ g < w.heap.size ∧ w.cell? ⟨g, i, none⟩ = some (.int .i64 (xs.getD i 0)) := by
  obtain ⟨ad, c, e, hg⟩ := h
  refine ⟨ad, c, e, fun i hi => ?_⟩
  obtain ⟨g, h1, _, h3, h4⟩ := hg i hi
  exact ⟨g, h1, h3, h4⟩
set_option maxHeartbeats 12800000 in
theorem awalk (ad : Option Addr) (len cap : Nat) (zs : List Int) (b : Int) (w : World) (hK : NumsIn .u64 w ad len zs) (hl : (len : Int) ≤ 9223372036854775807) : Calls Try.prog 6 #[.slice ad len cap, .int .i64 b] w fun e w' => e = .returned (.bool true) ∧ Below w.heap.size w w' := by
  have C1 := new_any w
  have HK : Hid (NumsIn .u64 w ad len zs) := hK
  clear hK
  obtain ⟨m, hmin, hmn, hm40⟩ : ∃ m : Nat, min (len : Int) 40 = (m : Int) ∧ m ≤ len ∧ m ≤ 40 := ⟨min len 40, by omega, by omega, by omega⟩
  have HM : Hid (m ≤ len ∧ m ≤ 40) := ⟨hmn, hm40⟩
  go_enter Try.func6, Try.ntmps6
  go_wp2_with fail
  refine C1.mono ?_
  rintro e w1 ⟨t, ms, mt, rfl, hv, hbel, l1, l2, l3⟩
  have H1 : Hid (OX w w1 t ms mt (aL (fz zs) 0)) := ⟨hbel, hv, l2, l3⟩
  clear hv hbel l1 l2 l3 C1
  go_wp2_with fail
  try rw [hmin]
  clear hmin hmn hm40
  go_loopw [7] (fun q wr => ∃ j : Nat, j ≤ m ∧ q = .int .i64 j ∧ Hid (OX w wr t ms mt (aL (fz zs) j))) (fun q _ => m - (intOf q).toNat)
  case atStart => exact ⟨0, by omega, rfl, H1⟩
  case round =>
    obtain ⟨j, hj, rfl, HJ⟩ := hrel
    clear H1
    have hm1 := HM.out.1
    have hm2 := HM.out.2
    by_cases hjm : j < m
    · have hj0 : (j : Int) < m := by omega
      have hj3 : (j : Int) < 9223372036854775807 := by omega
      have hj1 : (j : Int) < len := by omega
      obtain ⟨kb, off, rfl, hkb, hd0⟩ := HK.out.at (j := j) (by omega)
      obtain ⟨d, hd⟩ : ∃ d, fz zs j = d := ⟨_, rfl⟩
      obtain ⟨z, hz⟩ : ∃ z, zs.getD j 0 = z := ⟨_, rfl⟩
      have hzd : bits .and .u64 z 255 = d := by rw [← hz, ← hd]; rfl
      rw [hz] at hd0
      have C2 := HJ.out.beginA (by omega)
      have HS : Hid (∀ y, OX w y t ms mt (aL (fz zs) j ++ [nw j 0]) → (Calls Try.prog 15 #[.pointer (some ⟨t, 0, none⟩), .int .i64 j, .int .u64 d] y fun e w' => e = .returned (.int .i64 0) ∧ OX w w' t ms mt (aL (fz zs) (j + 1))) ∧ y.cell? ⟨kb, off + j, none⟩ = some (.int .u64 z) ∧ kb < y.heap.size) := fun y h =>
        ⟨by rw [← hd]; exact h.setA (by omega) (fz_lo zs j).1 (fz_lo zs j).2, ((bcell h.bel).1 _ _ hkb).trans hd0, Nat.lt_of_lt_of_le hkb h.bel.size⟩
      clear HJ hd hz hd0
      have q0 : decide ((j : Int) < m) = true := decide_eq_true hj0
      go_wp2_with fail
      refine C2.mono ?_
      rintro e w2 ⟨rfl, h2⟩
      obtain ⟨C3, k0, l0⟩ := HS.out _ h2
      clear C2 h2
      go_wp2_with fail
      refine C3.mono ?_
      rintro e w3 ⟨rfl, h3⟩
      have H3 : Hid (_) := h3
      clear C3 h3 k0 l0
      go_wp2_with fail
      go_roundw
      case rel => exact ⟨j + 1, by omega, by go_num, H3⟩
      case measure => simp [intOf]; omega
    · obtain rfl : j = m := by omega
      have HF : Hid (∀ i, i < j → 0 ≤ fz zs i) := fun i _ => (fz_lo zs i).1
      by_cases hz : j = 0
      · have q0 : decide ((0 : Int) < j) = false := decide_eq_false (by omega)
        have H2 : Hid (OX w wr t ms mt (gL (fz zs) j (-1) 0)) := by
          have h := HJ.out
          rw [gL_none (G := -1) _ _ HF.out (fun i hi => by omega)] at h
          exact h
        clear HJ hj
        go_upto_region 16 with fail
        obtain ⟨G, hG⟩ : ∃ G : Int, G = -1 := ⟨_, rfl⟩
        rw [← hG] at H2
        rw [← hG]
        clear hG q0 hz
        go_loopw [9] (fun q wr => ∃ c : Nat, c ≤ 256 ∧ q = .int .u64 c ∧ Hid (OX w wr t ms mt (gL (fz zs) j G c))) (fun q _ => 256 - (intOf q).toNat)
        case atStart => exact ⟨0, by omega, rfl, H2⟩
        case round =>
          obtain ⟨c, hc, rfl, HC⟩ := hrel
          clear H2
          by_cases hc6 : c < 256
          · have p1 : decide ((c : Int) < 256) = true := decide_eq_true (by omega)
            have C6 := HC.out.dueA (c := c) (by omega) (by omega)
            have hcI : (c : Int) < 256 := by omega
            clear HC
            go_wp2_with fail
            refine C6.mono ?_
            rintro e w6 ⟨⟨v6, rfl, li⟩, h6⟩
            obtain ⟨ad2, cp2, rfl, hcells⟩ := li.get
            have HY : Hid (OX w w6 t ms mt (gL (fz zs) j G (c + 1)) ∧ ∀ i, i < (dl (fz zs) j G c).length → ∃ g, ad2 = some ⟨g, 0, none⟩ ∧ g < w6.heap.size ∧ w6.cell? ⟨g, i, none⟩ = some (.int .i64 ((dl (fz zs) j G c).getD i 0))) := ⟨h6, hcells⟩
            clear C6 h6 hcells li
            obtain ⟨n2, hn2⟩ : ∃ n2, (dl (fz zs) j G c).length = n2 := ⟨_, rfl⟩
            have HN2 : Hid ((dl (fz zs) j G c).length = n2) := hn2
            have hn40 : n2 ≤ 40 := by have := dl_le (G := G) (c := (c : Int)) (fz zs) j; omega
            rw [hn2]
            clear hn2
            go_wp2_with fail
            go_loopw [11, 12] (fun q11 q12 wr => ∃ i k : Nat, i ≤ j ∧ q11 = .int .i64 k ∧ q12 = .int .i64 i ∧ Hid (k = (dl (fz zs) i G c).length ∧ wr = w6)) (fun _ q _ => j - (intOf q).toNat)
            case atStart => exact ⟨0, 0, by omega, rfl, rfl, rfl, rfl⟩
            case round =>
              obtain ⟨i, k, hi, rfl, rfl, HI⟩ := hrel
              obtain ⟨hk, hw⟩ := HI.out
              subst hw
              have HK2 : Hid (k = (dl (fz zs) i G c).length) := hk
              clear HI hk
              by_cases hij : i < j
              · have p2 : decide ((i : Int) < j) = true := decide_eq_true (by omega)
                have hij0 : (i : Int) < j := by omega
                have hil : (i : Int) < len := by omega
                have hi3 : (i : Int) < 9223372036854775807 := by omega
                by_cases hg : (i : Int) = G
                · have p3 : decide ((i : Int) = G) = true := decide_eq_true hg
                  have p3b : ((i : Int) = G) = True := eq_true hg
                  have hk2 : k = (dl (fz zs) (i + 1) G c).length := by rw [dl_no (fun h => h.1 hg)]; exact HK2.out
                  have HK3 : Hid (k = (dl (fz zs) (i + 1) G c).length) := hk2
                  clear hk2 HK2 hg
                  go_wp2_with fail
                  go_roundw
                  case rel => exact ⟨i + 1, k, by omega, rfl, by go_num, HK3.out, by first | rfl | trivial⟩
                  case measure => simp [intOf]; omega
                · have p3 : decide ((i : Int) = G) = false := decide_eq_false hg
                  have p3b : ((i : Int) != G) = true := by simpa using hg
                  obtain ⟨kb, off, rfl, hkb, hd0⟩ := HK.out.at (j := i) (by omega)
                  obtain ⟨d, hd⟩ : ∃ d, fz zs i = d := ⟨_, rfl⟩
                  obtain ⟨z, hz⟩ : ∃ z, zs.getD i 0 = z := ⟨_, rfl⟩
                  have hzd : bits .and .u64 z 255 = d := by rw [← hz, ← hd]; rfl
                  rw [hz] at hd0
                  have k0 : wr.cell? ⟨kb, off + i, none⟩ = some (.int .u64 z) := ((bcell HY.out.1.bel).1 _ _ hkb).trans hd0
                  have l0 : kb < wr.heap.size := Nat.lt_of_lt_of_le hkb HY.out.1.bel.size
                  clear hz hd0 hkb
                  by_cases hdc : d = (c : Int)
                  · obtain ⟨b1, b2⟩ := dl_at (n := j) hij hg (hd.trans hdc)
                    rw [← HK2.out] at b1 b2
                    obtain ⟨g, rfl, gl, gc⟩ := HY.out.2 k b1
                    rw [b2] at gc
                    have hk2 : k + 1 = (dl (fz zs) (i + 1) G c).length := by rw [dl_yes hg (hd.trans hdc), List.length_append, ← HK2.out]; rfl
                    have HK3 : Hid (k + 1 = (dl (fz zs) (i + 1) G c).length) := hk2
                    rw [HN2.out] at b1
                    have hkn : (k : Int) < n2 := by omega
                    have p4 : decide ((n2 : Int) ≤ k) = false := decide_eq_false (by omega)
                    have p4b : ((n2 : Int) ≤ k) = False := eq_false (by omega)
                    have p4c : ((k : Int) < n2) = True := eq_true hkn
                    have p5 : (d == (c : Int)) = true := by simpa using hdc
                    clear hk2 HK2 hg b2 hd hdc
                    go_wp2_with fail
                    go_roundw
                    case rel => exact ⟨i + 1, k + 1, by omega, by go_num, by go_num, HK3.out, by first | rfl | trivial⟩
                    case measure => simp [intOf]; omega
                  · have p5 : (d == (c : Int)) = false := by simpa using hdc
                    have hk2 : k = (dl (fz zs) (i + 1) G c).length := by rw [dl_no (fun h => hdc (hd.symm.trans h.2))]; exact HK2.out
                    have HK3 : Hid (k = (dl (fz zs) (i + 1) G c).length) := hk2
                    clear hk2 HK2 hg hd hdc
                    go_wp2_with fail
                    go_roundw
                    case rel => exact ⟨i + 1, k, by omega, rfl, by go_num, HK3.out, by first | rfl | trivial⟩
                    case measure => simp [intOf]; omega
              · have p2 : decide ((i : Int) < j) = false := decide_eq_false (by omega)
                have hkn : k = n2 := by rw [HK2.out, ← HN2.out, show i = j by omega]
                have HY2 : Hid (OX w wr t ms mt (gL (fz zs) j G (c + 1))) := HY.out.1
                clear HK2 HN2 HY
                subst hkn
                go_wp2_with fail
                go_roundw
                case rel => exact ⟨c + 1, by omega, by go_num, HY2⟩
                case measure => simp [intOf]; omega
          · have p1 : decide ((c : Int) < 256) = false := decide_eq_false (by omega)
            have hc2 : (c : Int) = 256 := by omega
            have h := HC.out
            rw [hc2] at h
            have C7 := h.nextA (fun i _ => (fz_lo zs i).2)
            clear HC h hc2
            go_wp2_with fail
            refine C7.mono ?_
            rintro e w7 ⟨rfl, h7⟩
            have HB : Hid (Below w.heap.size w w7) := h7.bel
            clear C7 h7
            go_wp2_with fail
            go_ret
            exact ⟨rfl, HB.out⟩
      · have q0 : decide ((0 : Int) < j) = true := decide_eq_true (by omega)
        obtain ⟨r, hr, r1, r2, v, hv, hrv⟩ := gone_of b j (by omega) (by omega)
        have hj40 : (j : Int) ≤ 40 := by omega
        have hjn : ¬ (j : Int) = 0 := by omega
        have C4 := HJ.out.endA (v := v) (by omega) hv HF.out
        have HV : Hid (v ≤ 40) := Nat.le_trans (Nat.le_of_lt hv) hm2
        clear HJ hj hz hv
        go_wp2_with fail
        refine C4.mono ?_
        rintro e w4 ⟨rfl, h4⟩
        have C5 := h4.endB HV.out
        clear C4 h4
        go_wp2_with fail
        refine C5.mono ?_
        rintro e w5 ⟨rfl, h5⟩
        have H2 : Hid (_) := h5
        clear C5 h5
        go_upto_region 16 with fail
        clear hr hrv r1 r2 q0 hjn hj40 HV
        generalize (v : Int) = G at *
        go_loopw [9] (fun q wr => ∃ c : Nat, c ≤ 256 ∧ q = .int .u64 c ∧ Hid (OX w wr t ms mt (gL (fz zs) j G c))) (fun q _ => 256 - (intOf q).toNat)
        case atStart => exact ⟨0, by omega, rfl, H2⟩
        case round =>
          obtain ⟨c, hc, rfl, HC⟩ := hrel
          clear H2
          by_cases hc6 : c < 256
          · have p1 : decide ((c : Int) < 256) = true := decide_eq_true (by omega)
            have C6 := HC.out.dueA (c := c) (by omega) (by omega)
            have hcI : (c : Int) < 256 := by omega
            clear HC
            go_wp2_with fail
            refine C6.mono ?_
            rintro e w6 ⟨⟨v6, rfl, li⟩, h6⟩
            obtain ⟨ad2, cp2, rfl, hcells⟩ := li.get
            have HY : Hid (OX w w6 t ms mt (gL (fz zs) j G (c + 1)) ∧ ∀ i, i < (dl (fz zs) j G c).length → ∃ g, ad2 = some ⟨g, 0, none⟩ ∧ g < w6.heap.size ∧ w6.cell? ⟨g, i, none⟩ = some (.int .i64 ((dl (fz zs) j G c).getD i 0))) := ⟨h6, hcells⟩
            clear C6 h6 hcells li
            obtain ⟨n2, hn2⟩ : ∃ n2, (dl (fz zs) j G c).length = n2 := ⟨_, rfl⟩
            have HN2 : Hid ((dl (fz zs) j G c).length = n2) := hn2
            have hn40 : n2 ≤ 40 := by have := dl_le (G := G) (c := (c : Int)) (fz zs) j; omega
            rw [hn2]
            clear hn2
            go_wp2_with fail
            go_loopw [11, 12] (fun q11 q12 wr => ∃ i k : Nat, i ≤ j ∧ q11 = .int .i64 k ∧ q12 = .int .i64 i ∧ Hid (k = (dl (fz zs) i G c).length ∧ wr = w6)) (fun _ q _ => j - (intOf q).toNat)
            case atStart => exact ⟨0, 0, by omega, rfl, rfl, rfl, rfl⟩
            case round =>
              obtain ⟨i, k, hi, rfl, rfl, HI⟩ := hrel
              obtain ⟨hk, hw⟩ := HI.out
              subst hw
              have HK2 : Hid (k = (dl (fz zs) i G c).length) := hk
              clear HI hk
              by_cases hij : i < j
              · have p2 : decide ((i : Int) < j) = true := decide_eq_true (by omega)
                have hij0 : (i : Int) < j := by omega
                have hil : (i : Int) < len := by omega
                have hi3 : (i : Int) < 9223372036854775807 := by omega
                by_cases hg : (i : Int) = G
                · have p3 : decide ((i : Int) = G) = true := decide_eq_true hg
                  have p3b : ((i : Int) = G) = True := eq_true hg
                  have hk2 : k = (dl (fz zs) (i + 1) G c).length := by rw [dl_no (fun h => h.1 hg)]; exact HK2.out
                  have HK3 : Hid (k = (dl (fz zs) (i + 1) G c).length) := hk2
                  clear hk2 HK2 hg
                  go_wp2_with fail
                  go_roundw
                  case rel => exact ⟨i + 1, k, by omega, rfl, by go_num, HK3.out, by first | rfl | trivial⟩
                  case measure => simp [intOf]; omega
                · have p3 : decide ((i : Int) = G) = false := decide_eq_false hg
                  have p3b : ((i : Int) != G) = true := by simpa using hg
                  obtain ⟨kb, off, rfl, hkb, hd0⟩ := HK.out.at (j := i) (by omega)
                  obtain ⟨d, hd⟩ : ∃ d, fz zs i = d := ⟨_, rfl⟩
                  obtain ⟨z, hz⟩ : ∃ z, zs.getD i 0 = z := ⟨_, rfl⟩
                  have hzd : bits .and .u64 z 255 = d := by rw [← hz, ← hd]; rfl
                  rw [hz] at hd0
                  have k0 : wr.cell? ⟨kb, off + i, none⟩ = some (.int .u64 z) := ((bcell HY.out.1.bel).1 _ _ hkb).trans hd0
                  have l0 : kb < wr.heap.size := Nat.lt_of_lt_of_le hkb HY.out.1.bel.size
                  clear hz hd0 hkb
                  by_cases hdc : d = (c : Int)
                  · obtain ⟨b1, b2⟩ := dl_at (n := j) hij hg (hd.trans hdc)
                    rw [← HK2.out] at b1 b2
                    obtain ⟨g, rfl, gl, gc⟩ := HY.out.2 k b1
                    rw [b2] at gc
                    have hk2 : k + 1 = (dl (fz zs) (i + 1) G c).length := by rw [dl_yes hg (hd.trans hdc), List.length_append, ← HK2.out]; rfl
                    have HK3 : Hid (k + 1 = (dl (fz zs) (i + 1) G c).length) := hk2
                    rw [HN2.out] at b1
                    have hkn : (k : Int) < n2 := by omega
                    have p4 : decide ((n2 : Int) ≤ k) = false := decide_eq_false (by omega)
                    have p4b : ((n2 : Int) ≤ k) = False := eq_false (by omega)
                    have p4c : ((k : Int) < n2) = True := eq_true hkn
                    have p5 : (d == (c : Int)) = true := by simpa using hdc
                    clear hk2 HK2 hg b2 hd hdc
                    go_wp2_with fail
                    go_roundw
                    case rel => exact ⟨i + 1, k + 1, by omega, by go_num, by go_num, HK3.out, by first | rfl | trivial⟩
                    case measure => simp [intOf]; omega
                  · have p5 : (d == (c : Int)) = false := by simpa using hdc
                    have hk2 : k = (dl (fz zs) (i + 1) G c).length := by rw [dl_no (fun h => hdc (hd.symm.trans h.2))]; exact HK2.out
                    have HK3 : Hid (k = (dl (fz zs) (i + 1) G c).length) := hk2
                    clear hk2 HK2 hg hd hdc
                    go_wp2_with fail
                    go_roundw
                    case rel => exact ⟨i + 1, k, by omega, rfl, by go_num, HK3.out, by first | rfl | trivial⟩
                    case measure => simp [intOf]; omega
              · have p2 : decide ((i : Int) < j) = false := decide_eq_false (by omega)
                have hkn : k = n2 := by rw [HK2.out, ← HN2.out, show i = j by omega]
                have HY2 : Hid (OX w wr t ms mt (gL (fz zs) j G (c + 1))) := HY.out.1
                clear HK2 HN2 HY
                subst hkn
                go_wp2_with fail
                go_roundw
                case rel => exact ⟨c + 1, by omega, by go_num, HY2⟩
                case measure => simp [intOf]; omega
          · have p1 : decide ((c : Int) < 256) = false := decide_eq_false (by omega)
            have hc2 : (c : Int) = 256 := by omega
            have h := HC.out
            rw [hc2] at h
            have C7 := h.nextA (fun i _ => (fz_lo zs i).2)
            clear HC h hc2
            go_wp2_with fail
            refine C7.mono ?_
            rintro e w7 ⟨rfl, h7⟩
            have HB : Hid (Below w.heap.size w w7) := h7.bel
            clear C7 h7
            go_wp2_with fail
            go_ret
            exact ⟨rfl, HB.out⟩
end Go.Proofs.Ytgiafngiledmbaa
