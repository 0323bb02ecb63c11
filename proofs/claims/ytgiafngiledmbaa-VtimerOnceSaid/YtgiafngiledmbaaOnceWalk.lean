/-
  The walk of VtimerOnce.
-/
import Derived.Test.YtgiafngiledmbaaOc
namespace Go.Proofs.Ytgiafngiledmbaa
open Go.RowKit Go.Maps
set_option linter.unusedVariables false
set_option maxRecDepth 100000
theorem and_int (v m : Int) (k : Nat) (hk : (BitVec.ofInt 64 m).toNat = k) (hb : k < 9223372036854775808) (he : (k : Int) = m) : ∃ i : Int, 0 ≤ i ∧ i ≤ m ∧ bits .and .u64 v m = i := by
  obtain ⟨i, h1, h2⟩ := and_lowu v m k hk hb
  exact ⟨i, by omega, by omega, h2⟩
theorem now_one {w : World} {t ms mt : Nat} {b s d c V : Int} {st : Bool} (h : VX w t ms mt (one b false s st d)) (hb : 0 ≤ b) (hc : b ≤ c) (hc2 : c ≤ 4611686018427387904) (hV : V = c - b) : Calls Try.prog 10 #[.pointer (some ⟨t, 0, none⟩), .int .i64 4, .int .u64 c] w fun e w' => e = .returned (.tuple #[.int .u64 V, .bool true]) ∧ Below w.heap.size w w' := by
  refine (now_vx h kw4 (by omega)).mono fun e w' ⟨e1, hb⟩ => ⟨?_, hb⟩
  have e2 : nowR (one b false s st d) 4 c = V := by
    show tm _ c = _
    simp only [tm, cap_at hc2, Bool.false_eq_true, if_false, if_neg (show ¬ c < b by omega), hV]
  rw [e1, e2]
  rfl
set_option maxHeartbeats 12800000 in
theorem owalk (a b : Int) (ad : Option Addr) (len cap : Nat) (zs : List Int) (w : World) (hK : NumsIn .u64 w ad len zs) (hl : (len : Int) ≤ 9223372036854775807) : Calls Try.prog 5 #[.int .u64 a, .int .u64 b, .slice ad len cap] w fun e w' => e = .returned (.bool true) ∧ Below w.heap.size w w' := by
  obtain ⟨n0, hn0, hn1, ha⟩ := and_int a 16777215 16777215 (by decide) (by decide) rfl
  obtain ⟨d, hd, hd1, hb⟩ := and_int b 65535 65535 (by decide) (by decide) rfl
  have C1 := new_any w
  have HK : Hid (NumsIn .u64 w ad len zs) := hK
  clear hK
  go_enter Try.func5, Try.ntmps5
  go_wp2_with fail
  refine C1.mono ?_
  rintro e w1 ⟨t, ms, mt, rfl, hv, hbel, l1, l2, l3⟩
  have H1 : Hid (OX w w1 t ms mt []) := ⟨hbel, hv, l2, l3⟩
  have C2 := H1.out.begin0 (c := n0) (by omega) (by omega)
  clear hv hbel l1 l2 l3 C1 H1
  go_wp2_with fail
  refine C2.mono ?_
  rintro e w2 ⟨rfl, h2⟩
  have C3 := h2.set0 (c := d) (by omega) (by omega)
  clear h2 C2
  go_wp2_with fail
  refine C3.mono ?_
  rintro e w3 ⟨rfl, h3⟩
  have H3 : Hid (OX w w3 t ms mt (one (n0 + 0) false 0 true d)) := by rw [Int.add_zero]; exact h3
  clear h3 C3
  go_wp2_with fail
  go_loopw [8, 9, 10] (fun q8 q9 q10 wr => ∃ (j : Nat) (c lost s : Int), j ≤ len ∧ j ≤ 200 ∧ q8 = .int .u64 c ∧ q9 = .int .u64 lost ∧ q10 = .int .i64 j ∧ 0 ≤ lost ∧ lost ≤ 4095 * (j : Int) ∧ (n0 : Int) + lost ≤ c ∧ c ≤ (n0 : Int) + lost + 255 * (j : Int) ∧ Hid (OX w wr t ms mt (one (n0 + lost) false s true d))) (fun _ _ q _ => len - (intOf q).toNat)
  case atStart => exact ⟨0, n0, 0, 0, by omega, by omega, rfl, rfl, rfl, by omega, by omega, by omega, by omega, H3⟩
  case round =>
    obtain ⟨j, c, lost, s, hj, hj2, rfl, rfl, rfl, b1, b2, b3, b4, HJ⟩ := hrel
    clear H3
    by_cases hjl : j < len ∧ j < 200
    · have hj0 : (j : Int) < len := by omega
      have hj1 : (j : Int) < 200 := by omega
      have hj3 : (j : Int) < 9223372036854775807 := by omega
      obtain ⟨kb, off, rfl, hkb, hd0⟩ := HK.out.at (j := j) (by omega)
      obtain ⟨z, hz⟩ : ∃ z, zs.getD j 0 = z := ⟨_, rfl⟩
      rw [hz] at hd0
      have HZ : Hid (∀ {y : World} {L : List Tm}, OX w y t ms mt L → y.cell? ⟨kb, off + j, none⟩ = some (.int .u64 z) ∧ kb < y.heap.size) := fun h => ⟨((bcell h.bel).1 _ _ hkb).trans hd0, Nat.lt_of_lt_of_le hkb h.bel.size⟩
      clear hz hd0
      obtain ⟨k0, l0⟩ := HZ.out HJ.out
      obtain ⟨n, hn, hn2, hza⟩ := and_int z 4095 4095 (by decide) (by decide) rfl
      have C4 := HJ.out.halt0 (c := c) (by omega) (by omega) (by omega)
      clear HJ
      go_wp2_with fail
      refine C4.mono ?_
      rintro e w4 ⟨rfl, h4⟩
      have C5 := h4.dueN (c := c + n) (by omega) isd_h
      clear C4 h4 k0 l0
      go_wp2_with fail
      refine C5.mono ?_
      rintro e w5 ⟨⟨ad5, cp5, rfl⟩, h5⟩
      have C6 := h5.go0 (c := c + n) (by omega) (by omega) (by omega)
      rw [show c + (n : Int) - (c - ((n0 : Int) + lost)) = (n0 : Int) + (lost + n) by omega] at C6
      clear C5 h5
      go_wp2_with fail
      refine C6.mono ?_
      rintro e w6 ⟨rfl, h6⟩
      have H6 : Hid (_) := h6
      obtain ⟨k0, l0⟩ := HZ.out h6
      clear C6 h6
      obtain ⟨m, hm, hm2, hma⟩ := and_int (z / 65536) 255 255 (by decide) (by decide) rfl
      have HB : Hid (Below w.heap.size w w6) := H6.out.bel
      go_upto_region 16 with fail
      obtain ⟨C, hC⟩ : ∃ C : Int, c + (n : Int) + m = C := ⟨_, rfl⟩
      obtain ⟨M, hM⟩ : ∃ M : Int, lost + (n : Int) = M := ⟨_, rfl⟩
      obtain ⟨S, hS⟩ : ∃ S : Int, c - ((n0 : Int) + lost) = S := ⟨_, rfl⟩
      rw [hM, hS] at H6
      rw [hC, hM]
      have m1 : 0 ≤ M := by omega
      have m2 : M ≤ 4095 * ((j : Int) + 1) := by omega
      have m3 : (n0 : Int) + M ≤ C := by omega
      have m4 : C ≤ (n0 : Int) + M + 255 * ((j : Int) + 1) := by omega
      clear hC hM hS b1 b2 b3 b4 hza hma hn hm hn2 hm2
      by_cases hdu : d ≤ C - n0 - M
      · have C7 := H6.out.dueY (c := C) (by omega) (isd_y (by omega) (by omega) (by omega))
        clear H6
        go_wp2_with fail
        refine C7.mono ?_
        rintro e w7 ⟨⟨g, cp7, rfl, gl, gc⟩, h7⟩
        have HG : Hid (g < w7.heap.size ∧ w7.cell? ⟨g, 0, none⟩ = some (.int .i64 4)) := ⟨gl, gc⟩
        have H7 : Hid (_) := h7
        have C8 := now_one (V := C - n0 - M) h7.vx (by omega) (by omega) (by omega) (by omega)
        clear C7 h7 gl gc k0 l0
        go_wp2_with fail
        refine C8.mono ?_
        rintro e w8 ⟨rfl, hb8⟩
        have H8 : Hid (_) := H7.out.below hb8
        have gl : g < w8.heap.size := Nat.lt_of_lt_of_le HG.out.1 hb8.size
        have gc : w8.cell? ⟨g, 0, none⟩ = some (.int .i64 4) := ((bcell hb8).1 _ _ HG.out.1).trans HG.out.2
        have C9 := H8.out.nextN
        clear C8 hb8 H7 HG HB
        go_wp2_with fail
        refine C9.mono ?_
        rintro e w9 ⟨rfl, h9⟩
        have C10 := h9.dueN (c := 4611686018427387904) (by omega) isd_o
        clear C9 h9 H8 gl gc
        go_wp2_with fail
        refine C10.mono ?_
        rintro e w10 ⟨⟨ad10, cp10, rfl⟩, h10⟩
        have HB : Hid (Below w.heap.size w w10) := h10.bel
        clear C10 h10
        go_wp2_with fail
        go_ret
        exact ⟨rfl, HB.out⟩
      · have C7 := H6.out.dueN (c := C) (by omega) (isd_n (by omega) (by omega) (by omega))
        clear H6
        go_wp2_with fail
        refine C7.mono ?_
        rintro e w7 ⟨⟨ad7, cp7, rfl⟩, h7⟩
        have H7 : Hid (_) := h7
        have C8 := now_one (V := C - n0 - M) h7.vx (by omega) (by omega) (by omega) (by omega)
        clear C7 h7 k0 l0
        go_wp2_with fail
        refine C8.mono ?_
        rintro e w8 ⟨rfl, hb8⟩
        have H8 : Hid (_) := H7.out.below hb8
        clear C8 hb8 H7
        have hdu2 : decide (d ≤ C - n0 - M) = false := decide_eq_false (by omega)
        go_wp2_with fail
        go_roundw
        case rel => exact ⟨j + 1, C, M, S, by omega, by omega, rfl, rfl, by go_num, by omega, by omega, by omega, by omega, H8⟩
        case measure => simp [intOf]; omega
    · by_cases hlen : (j : Int) < len
      · have h200 : ¬ (j : Int) < 200 := by omega
        have q3 : decide ((j : Int) < len) = true := decide_eq_true hlen
        have q4 : decide ((j : Int) < 200) = false := decide_eq_false h200
        have C9 := HJ.out.nextY (by omega)
        clear HJ HK
        have HC : Hid (∀ y, OX w y t ms mt (one (n0 + lost) false s true d) → Calls Try.prog 19 #[.pointer (some ⟨t, 0, none⟩), .int .u64 (n0 + lost + d)] y fun e w' => (∃ g cp, e = .returned (.slice (some ⟨g, 0, none⟩) 1 cp)) ∧ OX w w' t ms mt (one (n0 + lost) false s false d)) := fun y h =>
          (h.dueY (c := (n0 + lost + d)) (by omega) (isd_y (by omega) (by omega) (by omega))).mono fun e w' ⟨⟨g, cp, e1, _⟩, h2⟩ => ⟨⟨g, cp, e1⟩, h2⟩
        have HCN : Hid (∀ y, OX w y t ms mt (one (n0 + lost) false s true d) → c < (n0 + lost + d) → Calls Try.prog 19 #[.pointer (some ⟨t, 0, none⟩), .int .u64 ((n0 + lost + d) - 1)] y fun e w' => (∃ ad cp, e = .returned (.slice ad 0 cp)) ∧ OX w w' t ms mt (one (n0 + lost) false s true d)) := fun y h hcN =>
          h.dueN (c := (n0 + lost + d) - 1) (by omega) (isd_n (by omega) (by omega) (by omega))
        have HF : Hid (∀ y, OX w y t ms mt (one (n0 + lost) false s false d) → Calls Try.prog 19 #[.pointer (some ⟨t, 0, none⟩), .int .u64 (n0 + lost + d)] y fun e w' => (∃ ad cp, e = .returned (.slice ad 0 cp)) ∧ OX w w' t ms mt (one (n0 + lost) false s false d)) := fun y h => h.dueN (c := (n0 + lost + d)) (by omega) isd_o
        go_wp2_with fail
        refine C9.mono ?_
        rintro e w9 ⟨rfl, h9⟩
        by_cases hcN : c < (n0 + lost + d)
        · have q1 : decide (0 < (n0 + lost + d)) = true := decide_eq_true (by omega)
          have q2 : decide (c < (n0 + lost + d)) = true := decide_eq_true hcN
          have C10 := HCN.out _ h9 hcN
          clear C9 h9
          go_wp2_with fail
          refine C10.mono ?_
          rintro e w10 ⟨⟨ad10, cp10, rfl⟩, h10⟩
          have C11 := HC.out _ h10
          clear C10 h10
          go_wp2_with fail
          refine C11.mono ?_
          rintro e w11 ⟨⟨g, cp11, rfl⟩, h11⟩
          have C12 := HF.out _ h11
          clear C11 h11
          go_wp2_with fail
          refine C12.mono ?_
          rintro e w12 ⟨⟨ad12, cp12, rfl⟩, h12⟩
          have HB : Hid (Below w.heap.size w w12) := h12.bel
          clear C12 h12
          go_wp2_with fail
          go_ret
          exact ⟨rfl, HB.out⟩
        · have q2 : decide (c < (n0 + lost + d)) = false := decide_eq_false (by omega)
          by_cases hz0 : 0 < (n0 + lost + d)
          · have q1 : decide (0 < (n0 + lost + d)) = true := decide_eq_true (by omega)
            have C11 := HC.out _ h9
            clear C9 h9
            go_wp2_with fail
            refine C11.mono ?_
            rintro e w11 ⟨⟨g, cp11, rfl⟩, h11⟩
            have C12 := HF.out _ h11
            clear C11 h11
            go_wp2_with fail
            refine C12.mono ?_
            rintro e w12 ⟨⟨ad12, cp12, rfl⟩, h12⟩
            have HB : Hid (Below w.heap.size w w12) := h12.bel
            clear C12 h12
            go_wp2_with fail
            go_ret
            exact ⟨rfl, HB.out⟩
          · have q1 : decide (0 < (n0 + lost + d)) = false := decide_eq_false (by omega)
            have C11 := HC.out _ h9
            clear C9 h9
            go_wp2_with fail
            refine C11.mono ?_
            rintro e w11 ⟨⟨g, cp11, rfl⟩, h11⟩
            have C12 := HF.out _ h11
            clear C11 h11
            go_wp2_with fail
            refine C12.mono ?_
            rintro e w12 ⟨⟨ad12, cp12, rfl⟩, h12⟩
            have HB : Hid (Below w.heap.size w w12) := h12.bel
            clear C12 h12
            go_wp2_with fail
            go_ret
            exact ⟨rfl, HB.out⟩
      · have q3 : decide ((j : Int) < len) = false := decide_eq_false hlen
        have C9 := HJ.out.nextY (by omega)
        clear HJ HK
        have HC : Hid (∀ y, OX w y t ms mt (one (n0 + lost) false s true d) → Calls Try.prog 19 #[.pointer (some ⟨t, 0, none⟩), .int .u64 (n0 + lost + d)] y fun e w' => (∃ g cp, e = .returned (.slice (some ⟨g, 0, none⟩) 1 cp)) ∧ OX w w' t ms mt (one (n0 + lost) false s false d)) := fun y h =>
          (h.dueY (c := (n0 + lost + d)) (by omega) (isd_y (by omega) (by omega) (by omega))).mono fun e w' ⟨⟨g, cp, e1, _⟩, h2⟩ => ⟨⟨g, cp, e1⟩, h2⟩
        have HCN : Hid (∀ y, OX w y t ms mt (one (n0 + lost) false s true d) → c < (n0 + lost + d) → Calls Try.prog 19 #[.pointer (some ⟨t, 0, none⟩), .int .u64 ((n0 + lost + d) - 1)] y fun e w' => (∃ ad cp, e = .returned (.slice ad 0 cp)) ∧ OX w w' t ms mt (one (n0 + lost) false s true d)) := fun y h hcN =>
          h.dueN (c := (n0 + lost + d) - 1) (by omega) (isd_n (by omega) (by omega) (by omega))
        have HF : Hid (∀ y, OX w y t ms mt (one (n0 + lost) false s false d) → Calls Try.prog 19 #[.pointer (some ⟨t, 0, none⟩), .int .u64 (n0 + lost + d)] y fun e w' => (∃ ad cp, e = .returned (.slice ad 0 cp)) ∧ OX w w' t ms mt (one (n0 + lost) false s false d)) := fun y h => h.dueN (c := (n0 + lost + d)) (by omega) isd_o
        go_wp2_with fail
        refine C9.mono ?_
        rintro e w9 ⟨rfl, h9⟩
        by_cases hcN : c < (n0 + lost + d)
        · have q1 : decide (0 < (n0 + lost + d)) = true := decide_eq_true (by omega)
          have q2 : decide (c < (n0 + lost + d)) = true := decide_eq_true hcN
          have C10 := HCN.out _ h9 hcN
          clear C9 h9
          go_wp2_with fail
          refine C10.mono ?_
          rintro e w10 ⟨⟨ad10, cp10, rfl⟩, h10⟩
          have C11 := HC.out _ h10
          clear C10 h10
          go_wp2_with fail
          refine C11.mono ?_
          rintro e w11 ⟨⟨g, cp11, rfl⟩, h11⟩
          have C12 := HF.out _ h11
          clear C11 h11
          go_wp2_with fail
          refine C12.mono ?_
          rintro e w12 ⟨⟨ad12, cp12, rfl⟩, h12⟩
          have HB : Hid (Below w.heap.size w w12) := h12.bel
          clear C12 h12
          go_wp2_with fail
          go_ret
          exact ⟨rfl, HB.out⟩
        · have q2 : decide (c < (n0 + lost + d)) = false := decide_eq_false (by omega)
          by_cases hz0 : 0 < (n0 + lost + d)
          · have q1 : decide (0 < (n0 + lost + d)) = true := decide_eq_true (by omega)
            have C11 := HC.out _ h9
            clear C9 h9
            go_wp2_with fail
            refine C11.mono ?_
            rintro e w11 ⟨⟨g, cp11, rfl⟩, h11⟩
            have C12 := HF.out _ h11
            clear C11 h11
            go_wp2_with fail
            refine C12.mono ?_
            rintro e w12 ⟨⟨ad12, cp12, rfl⟩, h12⟩
            have HB : Hid (Below w.heap.size w w12) := h12.bel
            clear C12 h12
            go_wp2_with fail
            go_ret
            exact ⟨rfl, HB.out⟩
          · have q1 : decide (0 < (n0 + lost + d)) = false := decide_eq_false (by omega)
            have C11 := HC.out _ h9
            clear C9 h9
            go_wp2_with fail
            refine C11.mono ?_
            rintro e w11 ⟨⟨g, cp11, rfl⟩, h11⟩
            have C12 := HF.out _ h11
            clear C11 h11
            go_wp2_with fail
            refine C12.mono ?_
            rintro e w12 ⟨⟨ad12, cp12, rfl⟩, h12⟩
            have HB : Hid (Below w.heap.size w w12) := h12.bel
            clear C12 h12
            go_wp2_with fail
            go_ret
            exact ⟨rfl, HB.out⟩
end Go.Proofs.Ytgiafngiledmbaa
