/-
  What is written is read, whatever the order in which requests are done: the walk of DiskBack.
-/
import Derived.Test.YtkadpmmielegfaaBm
namespace Go.Proofs.Ytkadpmmielegfaa
open Go.RowKit Go.Maps
set_option linter.unusedVariables false
set_option maxRecDepth 20000

namespace diskBack
set_option maxHeartbeats 3200000 in
theorem walk (a : Option Addr) (len cap : Nat) (zs : List Int) (blk kk : Int) (w : World) (hs : SL w a len zs) (hnil : a = none → len = 0 ∧ cap = 0) (hlc : len ≤ cap) (hl : len ≤ 9223372036854775807) (hcap : cap ≤ 9223372036854775807) :
    Calls Try.prog 5 #[.slice a len cap, .int .i64 blk, .int .i64 kk] w fun e w' => e = .returned (.bool true) ∧ Below w.heap.size w w' := by
  obtain ⟨n, hn, en⟩ := and_low blk 7 7 rfl (by decide)
  obtain ⟨K, hK, eK⟩ := and_low kk 1 1 rfl (by decide)
  have DN := dnew_yes 8 w (by omega) (by omega)
  rw [show ((8 : Nat) : Int) = 8 from rfl] at DN
  go_enter Try.func5, Try.ntmps5
  go_wp2_with fail
  refine DN.mono ?_
  rintro e x1 ⟨D, m, rfl, h1, lD, lm, b1⟩
  clear DN
  have MN := new_yes 3 x1 (by omega) (by omega)
  rw [show ((3 : Nat) : Int) = 3 from rfl] at MN
  go_wp2_with fail
  refine MN.mono ?_
  rintro e x2 ⟨b, g, rfl, m2, lb, lg, b2⟩
  clear MN
  have hs1 := b1.size
  have hs2 := b2.size
  have ST : St x2.heap.size w D m b g := ⟨by omega, by omega, by omega, by omega, m2.glt, by omega⟩
  have E0 : BS x2.heap.size w x2 D m b g 8 [] (List.replicate (8 * 256) 0) (List.replicate (3 * 256) 0) := ⟨⟨_, (h1 _).below b2⟩, m2, b1.trans (b2.mono b1.size), Nat.le_refl _⟩
  generalize hN0 : x2.heap.size = N0 at ST E0
  clear h1 b1 m2 b2 hN0 hs1 hs2
  have HE : Hid (_) := E0
  clear E0
  by_cases h256 : 256 < len
  case' pos =>
    have h256' : (256 : Int) < (len : Int) := by omega
    obtain ⟨l, ys, hl2, hsl, hl3⟩ : ∃ (l : Nat) (ys : List Int), l = 256 ∧ SL w a l ys ∧ l ≤ 256 := by
      obtain ⟨c1, c2, c3⟩ := hs
      refine ⟨256, zs.take 256, rfl, ⟨by simp; omega, ?_, ?_⟩, Nat.le_refl _⟩
      · have := bytes_mid c2 0 256
        simpa using this
      · rcases c3 with c3 | ⟨bb, off, rfl, hb, hc⟩
        · omega
        · refine .inr ⟨bb, off, rfl, hb, fun i hi => ?_⟩
          rw [hc i (by omega)]
          simp [List.getD, hi]
    go_wp2_with fail
    rw [show (256 : Nat) = l from hl2.symm]
  case' neg =>
    have h256' : (len : Int) ≤ 256 := by omega
    obtain ⟨l, ys, hl2, hsl, hl3⟩ : ∃ (l : Nat) (ys : List Int), l = len ∧ SL w a l ys ∧ l ≤ 256 := ⟨len, zs, rfl, hs, by omega⟩
    go_wp2_with fail
    rw [show len = l from hl2.symm]
  all_goals
    have hyl := hsl.1
    have hy3 : ys.length ≤ 256 := by omega
    have hlc' : l ≤ cap := by omega
    have PU := HE.out.mput ST 0 a l cap (SL.below hsl (HE.out.bel.mono (Nat.le_refl _))) (by omega) (by omega) (by omega)
    rw [(put1 ys hy3).1, (put1 ys hy3).2] at PU
    clear hl2 h256 h256' hs
    refine PU.mono ?_
    rintro e y1 ⟨rfl, B1⟩
    clear PU HE
    have S1 := B1.submit ST (r1 n)
    rw [(sub1 n (by omega)).1, (sub1 n (by omega)).2] at S1
    simp only [rv] at S1
    rw [show (r1 n).i = 1 from rfl, show (r1 n).w = true from rfl, show (r1 n).b = (n : Int) from rfl, show (r1 n).f = 0 from rfl] at S1
    clear B1
    go_wp2_with fail
    refine S1.mono ?_
    rintro e y2 ⟨rfl, B2⟩
    clear S1
    have S2 := B2.submit ST (r2 n)
    rw [(sub2 n (by omega)).1, (sub2 n (by omega)).2] at S2
    simp only [rv] at S2
    rw [show (r2 n).i = 2 from rfl, show (r2 n).w = false from rfl, show (r2 n).b = 7 - (n : Int) from rfl, show (r2 n).f = 2 from rfl] at S2
    clear B2
    go_wp2_with fail
    refine S2.mono ?_
    rintro e y3 ⟨rfl, B3⟩
    clear S2
    obtain ⟨p, q, zsK, hp, hq, C1, C2⟩ := first_two ST B3 (by omega) hy3 K hK
    simp only [rv] at C1 C2
    rw [hp] at C1
    rw [hq] at C2
    clear B3
    go_wp2_with fail
    refine C1.mono ?_
    rintro e y4 ⟨rfl, B4⟩
    clear C1
    have C3 := C2 y4 (.cells #[.int .i64 (1 + (K : Int)), .bool p.w, .int .i64 p.b, .int .i64 p.f] 38) B4
    clear C2 B4
    go_wp2_with fail
    refine C3.mono ?_
    rintro e y5 ⟨rfl, B5, hx5⟩
    clear C3
    have x0 : y5.cell? ⟨y4.heap.size, 0, none⟩ = some (.int .i64 (1 + (K : Int))) := cell_of hx5 rfl
    have xl := lt_of_heap hx5
    have bb : Below y5.heap.size y5 (y5.alloc (.cells #[.int .i64 (2 - (K : Int)), .bool q.w, .int .i64 q.b, .int .i64 q.f] 38)) := (Below.refl _ _).alloc (Nat.le_refl _) _
    obtain ⟨v6, hv6⟩ := (B5.below bb).dk
    have PE := pending_dk N0 D m 8 v6 _ _ _ hv6
    rw [show ([] : List Rq).length = 0 from rfl] at PE
    have H6 : Hid (_) := B5.below bb
    clear hx5 hv6 bb B5
    go_wp2_with fail
    refine PE.mono ?_
    rintro e y6 ⟨g6, rfl, _, _, b6⟩
    clear PE
    have B6 := H6.out.below b6
    have S3 := B6.submit ST (r3 n)
    rw [(sub3 n (by omega)).1, (sub3 n (by omega)).2] at S3
    simp only [rv] at S3
    rw [show (r3 n).i = 1 from rfl, show (r3 n).w = false from rfl, show (r3 n).b = (n : Int) from rfl, show (r3 n).f = 1 from rfl] at S3
    clear H6 B6 b6 x0 xl
    go_wp2_with fail
    refine S3.mono ?_
    rintro e y7 ⟨rfl, B7⟩
    clear S3
    have C4 := third ST B7 (by omega) hy3
    simp only [rv] at C4
    rw [show (r3 n).i = 1 from rfl, show (r3 n).w = false from rfl, show (r3 n).b = (n : Int) from rfl, show (r3 n).f = 1 from rfl] at C4
    clear B7
    go_wp2_with fail
    refine C4.mono ?_
    rintro e y8 ⟨rfl, B8⟩
    clear C4
    have b9 : Below y8.heap.size y8 (y8.alloc (.cells #[.int .i64 1, .bool false, .int .i64 n, .int .i64 1] 38)) := (Below.refl _ _).alloc (Nat.le_refl _) _
    have B9 := B8.below b9
    have hm3 : (ms3 ys).length = 768 := by rw [ms3_eq ys hy3]; simp [pad_len ys hy3, z256]
    have BY := mbytes_yes b g (ms3 ys) 0 768 _ B9.mm (by omega)
    rw [show ((0 : Nat) : Int) = 0 from rfl, show ((768 : Nat) : Int) = 768 from rfl, List.drop_zero, List.take_of_length_le (by omega)] at BY
    have H9 : Hid (_) := B9
    clear B9 b9 B8
    go_wp2_with fail
    refine BY.mono ?_
    rintro e y10 ⟨ga, rfl, own, b10⟩
    clear BY
    have B10 := H9.out.below b10
    have ga1 := SL.own own (by have := B10.mm.bytes; exact this)
    have bA : Below y10.heap.size y10 (y10.alloc (.cells #[] 5)) := (Below.refl _ _).alloc (Nat.le_refl _) _
    have hownA : (y10.alloc (.cells #[] 5)).ownsRow y10.heap.size 5 1 (.slice (some ⟨y10.heap.size, 0, none⟩) 0 0) 0 (([] : List Int).map (Value.int .u8)) := World.ownsRow_lit y10 #[] 0 (Nat.le_refl _) (by decide) rfl
    have hsA : SL (y10.alloc (.cells #[] 5)) a l ys := SL.below (SL.below hsl B10.bel) bA
    have HN : Hid (a = none → l = 0 ∧ cap = 0) := fun h => by have := hnil h; omega
    have H10 : Hid (BS N0 w y10 D m b g 8 [] (zs1 n ys) (ms3 ys) ∧ SL y10 (some ⟨ga, 0, none⟩) 768 (ms3 ys) ∧ Below y10.heap.size y10 (y10.alloc (.cells #[] 5)) ∧ SL w a l ys) := ⟨B10, ga1, bA, hsl⟩
    clear H9 b10 B10 own ga1 bA hsl
    go_wp2_with (first
      | (at_builtin; refine wpList_append_sl rfl (.tmp 125) (.tmp 126) rfl y10.heap.size (.slice (some ⟨y10.heap.size, 0, none⟩) 0 0) 0 [] rfl hownA _ l cap ys rfl HN.out hsA (by omega) (by simp) ?_; intro v1 w1 hown1 hgrow1; (have hz1 : y10.heap.size ≤ w1.heap.size := by have := hgrow1.size; simp at this; omega); obtain ⟨a2, c2, w2, hrz, hs2, hg2⟩ := zeros_pad hown1 hl3 hyl H10.out.2.2.2.2.1 hz1; have cv2 := conv_sl c2 hs2)
      | (at_builtin; refine Lib.wpList_append_run _ rfl (.tmp 127) (.tmp 130) 39 3 rfl _ _ rfl rfl _ w2 hrz ?_))
    have bw : Below y10.heap.size y10 w2 := by
      obtain ⟨_, _, bA, _⟩ := H10.out
      refine (bA.grown hgrow1 (by simp) (by intro q h; cases h; exact Nat.le_refl _)).grown hg2 hz1 (fun q h => (hown1.lt q h).1)
    have E0 : Hid (BS N0 w w2 D m b g 8 [] (zs1 n ys) (ms3 ys) ∧ SL w2 (some ⟨ga, 0, none⟩) 768 (ms3 ys)) := ⟨H10.out.1.below bw, SL.below H10.out.2.1 bw⟩
    have HY : Hid (Bytes ys) := H10.out.2.2.2.2.1
    clear bw H10 hown1 hgrow1 hg2 hrz hs2 cv2 hownA hsA HN hz1
    have hpl := pad_len ys hy3
    have HPB : Hid (Bytes (pad ys) ∧ (pad ys).length = 256) := ⟨pad_bytes HY.out, hpl⟩
    have HMS : Hid (ms3 ys = pad ys ++ pad ys ++ z256) := ms3_eq ys hy3
    have HZP : Hid (∀ k, k < 8 → piece (zs1 n ys) k = if k = n then pad ys else z256) := zs1_piece n ys hy3 (by omega)
    clear hpl hm3 hyl
    generalize pad ys = P at *
    generalize zs1 n ys = Z at *
    generalize ms3 ys = M3 at *
    generalize hSP : strOfNums P = SP at *
    have HSP : Hid (strOfNums P = SP) := hSP
    clear hSP
    go_loopw [18] (fun i wr => ∃ j : Nat, j ≤ 8 ∧ i = .int .i64 j ∧ Hid (BS N0 w wr D m b g 8 [] Z M3 ∧ SL wr (some ⟨ga, 0, none⟩) 768 M3)) (fun i _ => 8 - (intOf i).toNat)
    case atStart => exact ⟨0, by omega, rfl, E0⟩
    case round =>
      obtain ⟨j, hj, rfl, E⟩ := hrel
      clear E0
      by_cases hj8 : j < 8
      · have hj' : (j : Int) < 8 := by omega
        obtain ⟨v, hv⟩ := E.out.1.dk
        have BL := block_yes N0 D m 8 v [] Z j _ hv hj8
        have pz := HZP.out j hj8
        rw [pz] at BL
        have HP : Hid (piece Z j = if j = n then P else z256) := pz
        clear hv pz
        go_wp2_with fail
        refine BL.mono ?_
        rintro e y1 ⟨g', rfl, hg', _, b1⟩
        clear BL
        have EN : Hid (BS N0 w y1 D m b g 8 [] Z M3 ∧ SL y1 (some ⟨ga, 0, none⟩) 768 M3) := ⟨E.out.1.below b1, SL.below E.out.2 b1⟩
        by_cases hjn : j = n
        · rw [if_pos hjn] at hg'
          have sc := sl_row hg' HPB.out.1
          rw [HPB.out.2] at sc
          have cv := conv_sl 256 sc
          rw [HSP.out] at cv
          have he : ((j : Int) == (n : Int)) = true := by rw [hjn]; simp
          clear hg' b1 sc
          go_wp2_with fail
          go_roundw
          case rel => exact ⟨j + 1, by omega, by go_num, EN⟩
          case measure => simp [intOf]; omega
        · rw [if_neg hjn] at hg'
          have sc := sl_row hg' bytes_z256
          rw [len_z256] at sc
          have cv := conv_sl 256 sc
          have he : ((j : Int) == (n : Int)) = false := beq_false_of_ne (by omega)
          have hse := str_eq z256 P bytes_z256 HPB.out.1
          rw [HSP.out] at hse
          by_cases hzp : z256 = P
          · rw [decide_eq_true hzp] at hse
            have hmk := run_make_bytes 256 (by omega) y1
            rw [show (List.replicate 256 (0 : Int)) = z256 from rfl, show ((256 : Nat) : Int) = 256 from rfl] at hmk
            have bM : Below y1.heap.size y1 (y1.alloc (.cells (z256.map (Value.int .u8)).toArray 5)) := (Below.refl _ _).alloc (Nat.le_refl _) _
            have sM := sl_row (heap_alloc_at y1 (.cells (z256.map (Value.int .u8)).toArray 5)) bytes_z256
            rw [len_z256] at sM
            have cM := conv_sl 256 sM
            have EM : Hid (BS N0 w (y1.alloc (.cells (z256.map (Value.int .u8)).toArray 5)) D m b g 8 [] Z M3 ∧ SL (y1.alloc (.cells (z256.map (Value.int .u8)).toArray 5)) (some ⟨ga, 0, none⟩) 768 M3) := ⟨EN.out.1.below bM, SL.below EN.out.2 bM⟩
            obtain ⟨wM, hwM⟩ : ∃ wM, wM = y1.alloc (.cells (z256.map (Value.int .u8)).toArray 5) := ⟨_, rfl⟩
            rw [← hwM] at hmk cM EM
            have hse2 : (SP.toList == (strOfNums z256).toList) = true := by rw [← HSP.out, hzp]; simp
            clear hg' b1 sc bM sM hwM
            generalize strOfNums z256 = SZ at *
            go_wp2_with fail
            go_roundw
            case rel => exact ⟨j + 1, by omega, by go_num, EM⟩
            case measure => simp [intOf]; omega
          · rw [decide_eq_false hzp] at hse
            clear hg' b1 sc
            generalize strOfNums z256 = SZ at *
            go_wp2_with fail
            go_roundw
            case rel => exact ⟨j + 1, by omega, by go_num, EN⟩
            case measure => simp [intOf]; omega
      · have hj9 : (8 : Int) ≤ (j : Int) := by omega
        have bD : Below wr.heap.size wr wr.drew := (Below.refl _ _).drew
        have bA : Below wr.heap.size wr (wr.drew.alloc (.cells (z256.map (Value.int .u8)).toArray 5)) := bD.alloc (Nat.le_refl _) _
        have hmk := run_make_bytes 256 (by omega) wr.drew
        rw [show (List.replicate 256 (0 : Int)) = z256 from rfl, show ((256 : Nat) : Int) = 256 from rfl] at hmk
        have k0 := conv_sl 768 (SL.below E.out.2 bD)
        have k1 := conv_sl 768 (SL.below E.out.2 bA)
        have sM := sl_row (heap_alloc_at wr.drew (.cells (z256.map (Value.int .u8)).toArray 5)) bytes_z256
        rw [len_z256] at sM
        have cM := conv_sl 256 sM
        have HB : Hid (Below w.heap.size w (wr.drew.alloc (.cells (z256.map (Value.int .u8)).toArray 5))) := E.out.1.bel.trans (bA.mono E.out.1.bel.size)
        have hfin : strOfNums M3 = SP ++ SP ++ strOfNums z256 := by rw [HMS.out, ← str_append, ← str_append, HSP.out]
        obtain ⟨W1, hW1⟩ : ∃ W1, W1 = wr.drew.alloc (.cells (z256.map (Value.int .u8)).toArray 5) := ⟨_, rfl⟩
        rw [← hW1] at hmk k1 cM HB
        rw [hfin] at k0 k1
        have cM' : (convert 39 9 (.slice (some ⟨wr.heap.size, 0, none⟩) 256 256)).run Try.prog W1 = .ok (.string (strOfNums z256)) W1 := cM
        have hs1 : SP.size = 256 := by rw [← HSP.out, strOfNums_size, HPB.out.2]
        have hs2 : (strOfNums z256).size = 256 := by rw [strOfNums_size, len_z256]
        have hs3 : (SP ++ SP).size = 512 := by rw [ByteArray.size_append, hs1]
        clear hfin bD bA sM hW1 cM
        generalize strOfNums z256 = SZ at *
        go_wp2_with fail
        go_region
        all_goals
          go_wp2_with fail
          go_ret
          exact ⟨rfl, HB.out⟩
end diskBack
end Go.Proofs.Ytkadpmmielegfaa
