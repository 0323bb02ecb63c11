/-
  The walk of ConsoleBack.
-/
import Derived.Test.YtbncgmjjkoedhaaBk
namespace Go.Proofs.Ytbncgmjjkoedhaa.consoleBack
open Go.RowKit
set_option linter.unusedVariables false
set_option maxRecDepth 20000
/-- a string with these numbers -/
structure St (S : ByteArray) (xs : List Int) (n : Nat) : Prop where
  eq : S = strOfNums xs
  len : xs.length = n
theorem St.size {S : ByteArray} {xs : List Int} {n : Nat} (h : St S xs n) : S.size = n := by rw [h.eq, strOfNums_size, h.len]
set_option maxHeartbeats 3200000 in
theorem walk (pa : Option Addr) (pn pc : Nat) (ta : Option Addr) (tn tc : Nat) (zs : List Int) (w : World) (hP : PcsIn w pa pn) (hpn : pn * 24 ≤ 140737488355328) (hT : NumsIn .i64 w ta tn zs) (htn : tn ≤ 9223372036854775807) :
    Calls Try.prog 5 #[.slice pa pn pc, .slice ta tn tc] w fun r w' => r = .returned (.bool true) ∧ Below w.heap.size w w' := by
  have HN : Hid (_) := new_cx w
  have HP : Hid (PcsIn w pa pn) := hP
  have HT : Hid (NumsIn .i64 w ta tn zs) := hT
  have hpn' : pn < 1125899906842624 := by omega
  clear hP hT
  go_enter Try.func5, Try.ntmps5
  go_wp2_with fail
  refine Calls.mono HN.out ?_
  rintro e x0 ⟨rfl, hC, hb, _⟩
  rename_i hsz
  clear hsz HN
  have E0 : Hid (BS w x0 w.heap.size [] [] [] 0) := ⟨⟨0, hC⟩, hb, rfl, ⟨by intro i; simp, by intro i; simp⟩, by simp, by simp⟩
  clear hC hb
  go_wp2_with fail
  go_loopw [6, 7, 8] (fun s o i wr => ∃ (SI SO : ByteArray) (IN OUT W : List Int) (LI LO j : Nat), j ≤ pn ∧ s = .string SI ∧ o = .string SO ∧ i = .int .i64 j ∧ Hid (BS w wr w.heap.size IN OUT W j ∧ St SI IN LI ∧ St SO OUT LO)) (fun _ _ i _ => pn - (intOf i).toNat)
  case atStart => exact ⟨_, _, [], [], [], 0, 0, 0, by omega, rfl, rfl, rfl, E0.out, ⟨rfl, rfl⟩, ⟨rfl, rfl⟩⟩
  case round =>
    obtain ⟨SI, SO, IN, OUT, W, LI, LO, j, hj, rfl, rfl, rfl, HE⟩ := hrel
    clear E0
    by_cases hjn : j < pn
    · have hjn' : (j : Int) < (pn : Int) := by omega
      obtain ⟨B, off, rfl, hB, ad, len, cap, ys, hc, hs, hnil, hlc, hlen⟩ := HP.out.at hjn
      have hsI := HE.out.2.1.size
      have hsO := HE.out.2.2.size
      have hLI : LI ≤ 4096 * j := by have := HE.out.1.len; rw [HE.out.2.1.len] at this; exact this
      have c1 : wr.cell? ⟨B, off + j, none⟩ = some (.slice ad len cap) := ((bcell HE.out.1.bel).1 B _ hB).trans hc
      have hBw : B < wr.heap.size := Nat.lt_of_lt_of_le hB HE.out.1.bel.size
      have HI : Hid (_) := HE.out.1.input hs hnil hlc hlen
      have HS : Hid (SL w ad len ys) := hs
      have HC : Hid (w.cell? ⟨B, off + j, none⟩ = some (.slice ad len cap)) := hc
      clear hc hs hnil
      go_wp2_with fail
      refine Calls.mono HI.out ?_
      rintro e x ⟨T, hTl, rfl, hX⟩
      clear HI c1
      have c1 : x.cell? ⟨B, off + j, none⟩ = some (.slice ad len cap) := ((bcell hX.bel).1 B _ hB).trans HC.out
      have hBx : B < x.heap.size := Nat.lt_of_lt_of_le hB hX.bel.size
      have sl1 : SL x ad T (ys.take T) := (SL.first (h := HS.out) hTl).below hX.bel
      have hl1 : (ys.take T).length = T := by have := HS.out.1; simp; omega
      have cv1 := conv_sl cap sl1
      have hX1 : St (strOfNums (ys.take T)) (ys.take T) T := ⟨rfl, hl1⟩
      have h1 : St (strOfNums (IN ++ ys.take T)) (IN ++ ys.take T) (LI + T) := ⟨rfl, by rw [List.length_append, HE.out.2.1.len, hl1]⟩
      have cat1 : SI ++ strOfNums (ys.take T) = strOfNums (IN ++ ys.take T) := by rw [HE.out.2.1.eq, str_append]
      have hTc : T ≤ cap := by omega
      obtain ⟨IN1, hIN1⟩ : ∃ l, IN ++ ys.take T = l := ⟨_, rfl⟩
      obtain ⟨W1, hW1⟩ : ∃ l, W ++ ys.take T = l := ⟨_, rfl⟩
      rw [hIN1] at hX h1 cat1
      rw [hW1] at hX
      generalize strOfNums (ys.take T) = SX at *
      generalize strOfNums IN1 = S1 at *
      have hsX := hX1.size
      have hs1 := h1.size
      have HX : Hid (BS w x w.heap.size IN1 OUT W1 (j + 1) ∧ St S1 IN1 (LI + T) ∧ St SO OUT LO) := ⟨hX, h1, HE.out.2.2⟩
      clear hX h1 hX1 HE hIN1 hW1 sl1 hl1
      have hT4 : T ≤ 140737488351232 := by omega
      generalize hL1 : LI + T = L1 at *
      by_cases hjt : j < tn
      case' pos =>
        have hjt' : (j : Int) < (tn : Int) := by omega
        obtain ⟨tb, toff, rfl, htb, ht⟩ := HT.out.at hjt
        have t1 : x.cell? ⟨tb, toff + j, none⟩ = some (.int .i64 (zs.getD j 0)) := ((bcell HX.out.1.bel).1 tb _ htb).trans ht
        have htx : tb < x.heap.size := Nat.lt_of_lt_of_le htb HX.out.1.bel.size
        clear ht
        have hz : zs.getD j 0 < 9223372036854775808 := by
          have hjl : j < zs.length := by have := HT.out.1; omega
          have := bounds_i64 (HT.out.2.1 (zs.getD j 0) (by simp [List.getD, List.getElem?_eq_getElem hjl]))
          omega
        generalize zs.getD j 0 = z at *
        have HR : Hid (_) := HX.out.1.read z hz (by omega)
        go_wp2_with fail
        refine Calls.mono HR.out ?_
        rintro e y ⟨ra, rc, k, rfl, hk, hsl, hY⟩
        have hkl : k ≤ W1.length := by rw [hk]; exact Nat.min_le_right _ _
        have cv2 := conv_sl rc hsl
        have hl2 : (W1.take k).length = k := by simp; omega
        have h2 : St (strOfNums (OUT ++ W1.take k)) (OUT ++ W1.take k) (LO + k) := ⟨rfl, by rw [List.length_append, HX.out.2.2.len, hl2]⟩
        have cat2 : SO ++ strOfNums (W1.take k) = strOfNums (OUT ++ W1.take k) := by rw [HX.out.2.2.eq, str_append]
        have hsR : (strOfNums (W1.take k)).size = k := by rw [strOfNums_size, hl2]
        have hk4 : k ≤ 4096 := Nat.le_trans hkl HX.out.1.lw
        obtain ⟨OUT1, hO1⟩ : ∃ l, OUT ++ W1.take k = l := ⟨_, rfl⟩
        obtain ⟨W2, hW2⟩ : ∃ l, W1.drop k = l := ⟨_, rfl⟩
        rw [hO1] at hY h2 cat2
        rw [hW2] at hY
        have HY : Hid (BS w y w.heap.size IN1 OUT1 W2 (j + 1) ∧ St S1 IN1 L1 ∧ St (strOfNums OUT1) OUT1 (LO + k)) := ⟨hY, HX.out.2.1, h2⟩
        have hs2 := h2.size
        clear hY h2 hO1 hW2 hsl hl2 HR hk hkl
        generalize strOfNums (W1.take k) = SR at *
        generalize strOfNums OUT1 = S2 at *
        have hLk : LO + k ≤ 4611686018427387904 := by
          have h3 := HY.out.1.len
          rw [HY.out.1.eq, List.length_append, HY.out.2.2.len] at h3
          omega
        have hLO : LO ≤ 4611686018427387904 := by omega
        generalize LO + k = L2 at *
        clear HX c1 t1
        go_wp2_with fail
        clear cat2 cv2 hsR hsO hz hjt'
      case' neg =>
        have hjt' : (tn : Int) ≤ (j : Int) := by omega
        have hLk : LO ≤ 4611686018427387904 := by
          have h3 := HX.out.1.len
          rw [HX.out.1.eq, List.length_append, HX.out.2.2.len] at h3
          omega
        have HY : Hid (BS w x w.heap.size IN1 OUT W1 (j + 1) ∧ St S1 IN1 L1 ∧ St SO OUT LO) := HX.out
        clear HX
        generalize LO = L2 at *
        generalize OUT = OUT1 at *
        generalize W1 = W2 at *
        generalize SO = S2 at *
        have hs2 := hsO
        clear hsO
        go_wp2_with fail
        clear hjt' c1
      all_goals
        clear cat1 cv1 hsI hsX
        have HD := HY.out.1.counts (by omega)
        rw [HY.out.2.1.len, HY.out.2.2.len] at HD
        have HD' : Hid (_) := HD
        have hle : L2 ≤ L1 ∧ L1 - L2 ≤ 4096 := by
          have h3 := HY.out.2.1.len
          rw [HY.out.1.eq, List.length_append, HY.out.2.2.len] at h3
          have := HY.out.1.lw
          omega
        obtain ⟨hle1, hle2⟩ := hle
        have hle3 : (L1 : Int) - (L2 : Int) ≤ 4096 := by omega
        have hle4 : (L2 : Int) ≤ (L1 : Int) := by omega
        have hex : S1.extract 0 L2 = S2 := by
          rw [HY.out.2.1.eq, str_take, HY.out.1.eq, HY.out.2.2.eq]
          congr 1
          exact List.take_left' HY.out.2.2.len
        have hL14 : L1 ≤ 4611686018427387904 := by omega
        clear HD
        refine Calls.mono HD'.out ?_
        rintro e v ⟨d, rfl, hV⟩
        have HV : Hid (∀ o, BS w (v.alloc o) w.heap.size IN1 OUT1 W2 (j + 1) ∧ St S1 IN1 L1 ∧ St S2 OUT1 L2) := fun o => ⟨hV.below ((Below.refl _ _).alloc (Nat.le_refl _) _), HY.out.2⟩
        clear hV HY HD'
        go_wp2_with fail
        go_roundw
        case rel => exact ⟨S1, S2, IN1, OUT1, W2, L1, L2, j + 1, by omega, rfl, rfl, by go_num, HV.out _⟩
        case measure => simp [intOf]; omega
    · obtain rfl : pn = j := by omega
      have hsI := HE.out.2.1.size
      have hsO := HE.out.2.2.size
      have hLI : LI ≤ 4096 * pn := by have := HE.out.1.len; rw [HE.out.2.1.len] at this; exact this
      have HR : Hid (_) := HE.out.1.read 4096 (by omega) (by omega)
      go_wp2_with fail
      refine Calls.mono HR.out ?_
      rintro e y ⟨ra, rc, k, rfl, hk, hsl, hY⟩
      have hkW : k = W.length := by have := HE.out.1.lw; rw [hk]; simp only [rk]; omega
      subst hkW
      rw [List.take_of_length_le (Nat.le_refl _)] at hsl
      have cv := conv_sl rc hsl
      have cat : SO ++ strOfNums W = SI := by rw [HE.out.2.2.eq, str_append, HE.out.2.1.eq, HE.out.1.eq]
      have hsW : (strOfNums W).size = W.length := strOfNums_size W
      have hW4 := HE.out.1.lw
      have hLO : LO ≤ 4611686018427387904 := by
        have h3 := HE.out.1.len
        rw [HE.out.1.eq, List.length_append, HE.out.2.2.len] at h3
        omega
      have HB : Hid (Below w.heap.size w y) := hY.bel
      clear hY hsl hk HR HE
      generalize strOfNums W = SW at *
      generalize W.length = K at *
      go_wp2_with fail
      go_ret
      exact ⟨rfl, HB.out⟩
end Go.Proofs.Ytbncgmjjkoedhaa.consoleBack
