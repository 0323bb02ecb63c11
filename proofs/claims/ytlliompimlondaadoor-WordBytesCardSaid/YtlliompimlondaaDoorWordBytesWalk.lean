/-
  At any place of any bytes any number is loaded, and any number stored, as the document says: the walk of WordBytes, over the table of sizes as it is laid.
-/
import Derived.Test.YtlliompimlondaaDoorBytes
namespace Go.Proofs.YtlliompimlondaaDoor.wordBytes
open Go.RowKit
set_option linter.unusedVariables false

theorem SZ.below {w w' : World} (h : SZ w) (hb : Below w.heap.size w w') : SZ w' := by
  have hs := hb.size
  obtain ⟨hc, _⟩ := bcell hb
  obtain ⟨c0, c1, c2, c3, c4, c5, hp⟩ := h
  exact ⟨(hc _ _ hp).trans c0, (hc _ _ hp).trans c1, (hc _ _ hp).trans c2, (hc _ _ hp).trans c3, (hc _ _ hp).trans c4, (hc _ _ hp).trans c5, by omega⟩
theorem own_cap {w : World} {base g cap n size : Nat} {e : TypeId} {xs : List Value} (h : w.ownsRow base e size (.slice (some ⟨g, 0, none⟩) n cap) n xs) : n ≤ cap := by
  rcases h.2 with ⟨h', _⟩ | ⟨g', cap', cur, h', _, _, hn, _⟩
  · cases h'
  · cases h'; exact hn
theorem bytes_set {ys : List Int} (h : Bytes ys) (j : Nat) (z : Int) (h0 : 0 ≤ z) (h1 : z ≤ 255) : Bytes (ys.set j z) := by
  intro i
  have := h i
  simp only [List.getD, List.getElem?_set] at this ⊢
  split
  · split
    · simp; omega
    · simp
  · exact this
theorem bytes_snoc {ys : List Int} (h : Bytes ys) : Bytes (ys ++ [90]) := by
  intro i
  have := h i
  simp only [List.getD, List.getElem?_append] at this ⊢
  split
  · exact this
  · rcases (i - ys.length) with _ | m <;> simp
theorem str_snoc (zs : List Int) : strOfNums zs ++ ⟨#[90]⟩ = strOfNums (zs ++ [90]) := by
  apply ByteArray.ext
  simp [strOfNums]
theorem SL.one (w : World) : SL (w.alloc (.cells #[.int .u8 90] 5)) (some ⟨w.heap.size, 0, none⟩) 1 [90] := by
  refine ⟨rfl, ?_, .inr ⟨w.heap.size, 0, rfl, by simp, ?_⟩⟩
  · intro i
    rcases i with _ | i <;> simp
  · intro i hi
    obtain rfl : i = 0 := by omega
    simp

set_option maxRecDepth 100000 in
theorem walk (a0 : Option Addr) (len0 cap0 : Nat) (zs : List Int) (a1 a2 : Int) (w : World) (hz : SZ w) (hs : SL w a0 len0 zs) (hnil : a0 = none → len0 = 0 ∧ cap0 = 0) (hl : len0 ≤ 140737488351232) (w2 : (Lit.int .u64 a2).wf = true) :
    Calls Tryd.prog 3 #[.slice a0 len0 cap0, .int .i64 a1, .int .u64 a2] w fun e w' => e = .returned (.bool true) ∧ Below w.heap.size w w' := by
  have b2 := bounds_u64 w2
  have hbw : Below w.heap.size w (w.alloc (.cells #[] 5)) := (Below.refl _ _).alloc (Nat.le_refl _) _
  have hsA := SL.below hs hbw
  have hownA : (w.alloc (.cells #[] 5)).ownsRow w.heap.size 5 1 (.slice (some ⟨w.heap.size, 0, none⟩) 0 0) 0 (([] : List Int).map (Value.int .u8)) := World.ownsRow_lit w #[] 0 (Nat.le_refl _) (by decide) rfl
  have HN : Hid (a0 = none → len0 = 0 ∧ cap0 = 0) := hnil
  have HZ : Hid (SZ w) := hz
  clear hnil hz
  go_enter Tryd.func3, Tryd.ntmps3
  go_wp2_with (first
    | (at_builtin; refine wpList_append_sl rfl (.tmp 17) (.tmp 18) rfl w.heap.size (.slice (some ⟨w.heap.size, 0, none⟩) 0 0) 0 [] rfl hownA _ len0 cap0 zs rfl HN.out hsA (by omega) (by simp) ?_; intro v1 w1 hown1 hgrow1)
    | (at_builtin; refine wpList_append_sl rfl (.tmp 19) (.tmp 20) rfl w.heap.size v1 _ _ rfl (hown1.alloc _) _ 1 1 [90] rfl (fun h => by cases h) (SL.one _) (by omega) (by have := hgrow1.size; simp at this ⊢; omega) ?_; intro v2 w3 hown2 hgrow2))
  have bel1 : Below w.heap.size w w1 := hbw.grown hgrow1 (by simp) (fun k h => (hownA.lt k h).1)
  have bel3 : Below w.heap.size w w3 := (bel1.alloc bel1.size _).grown hgrow2 (by have := bel1.size; simp; omega) (fun k h => (hown1.lt k h).1)
  rw [Nat.zero_add, List.nil_append] at hown2
  obtain ⟨g, cap, rfl⟩ := row_form hown2 (by omega)
  clear hown1 hgrow1 hgrow2 bel1 hownA hsA hbw
  go_loopw [8] (fun t wr => ∃ k : Int, -1 ≤ k ∧ k ≤ 10 ∧ t = .int .i64 k ∧ wr.ownsRow w.heap.size 5 1 (.slice (some ⟨g, 0, none⟩) (len0 + 1) cap) (len0 + 1) ((zs ++ [90]).map (Value.int .u8)) ∧ Below w.heap.size w wr) (fun t _ => (10 - intOf t).toNat)
  case atStart => exact ⟨-1, by omega, by omega, rfl, hown2, bel3⟩
  case round =>
    obtain ⟨k, hk1, hk2, rfl, hown, hb⟩ := hrel
    clear hown2 bel3
    have hzr := SZ.below HZ.out hb
    have hsr := SL.below hs hb
    have hsh : SL wr (some ⟨g, 0, none⟩) len0 zs := by have := SL.head cap hown hs.2.1; rw [hs.1] at this; exact this
    have hcap : len0 + 1 ≤ cap := own_cap hown
    have HO : Hid (wr.ownsRow w.heap.size 5 1 (.slice (some ⟨g, 0, none⟩) (len0 + 1) cap) (len0 + 1) ((zs ++ [90]).map (Value.int .u8))) := hown
    have HB : Hid (Below w.heap.size w wr) := hb
    clear hown hb
    by_cases hlt : k ≤ 9
    · go_wp2_with fail
      refine (load_any _ _ _ zs _ _ _ hzr hsh (by unfold maxLen; omega)).mono ?_
      rintro e x1 ⟨rfl, c1⟩
      have s1 := SL.below hsr c1
      have z1 := SZ.below hzr c1
      clear hsr hzr hsh
      go_wp2_with fail
      refine (rload_any _ _ _ zs _ _ _ s1 (by unfold maxLen; omega)).mono ?_
      rintro e x1' ⟨rfl, rfl⟩
      have HS1 : Hid (SL x1' a0 len0 zs) := s1
      clear s1
      have hx1 := HB.out.trans (c1.mono HB.out.size)
      have HX : Hid (Below w.heap.size w x1') := hx1
      have HO1 : Hid (x1'.ownsRow w.heap.size 5 1 (.slice (some ⟨g, 0, none⟩) (len0 + 1) cap) (len0 + 1) ((zs ++ [90]).map (Value.int .u8))) := own_below HO.out c1
      have hxs := hx1.size
      clear hx1 HO HB c1
      by_cases hkn : k = 1 ∨ k = 4 ∨ k = 8
      · obtain ⟨M, rfl⟩ := Int.eq_ofNat_of_zero_le (show 0 ≤ k by omega)
        go_wp2_with fail
        refine (store_yes a2 M _ z1 hkn (by omega) (by omega)).mono ?_
        rintro e y1 ⟨g1, rfl, o1, c1⟩
        have z2 := SZ.below z1 c1
        go_wp2_with fail
        refine (store_yes a2 M _ z2 hkn (by omega) (by omega)).mono ?_
        rintro e y2 ⟨g2, rfl, o2, c2⟩
        go_wp2_with fail
        refine (rstore_yes a2 M _ hkn (by omega) (by omega)).mono ?_
        rintro e y3 ⟨g3, cap3, rfl, o3, c3⟩
        have o1' := own_below (own_below o1 c2) c3
        have o2' := own_below o2 c3
        have hB := bytesOf_bytes a2 M
        have hg1 := o1.lt g1 rfl
        have hg2 := o2.lt g2 rfl
        have hg3 := o3.lt g3 rfl
        have hgi := HO1.out.lt g rfl
        have hd1 := c1.size
        have hd2 := c2.size
        have hd3 := c3.size
        have HY : Hid (Below w.heap.size w y3) := ((HX.out.trans (c1.mono HX.out.size)).trans (c2.mono (by omega))).trans (c3.mono (by omega))
        have HO2 : Hid (y3.ownsRow w.heap.size 5 1 (.slice (some ⟨g, 0, none⟩) (len0 + 1) cap) (len0 + 1) ((zs ++ [90]).map (Value.int .u8))) := own_below (own_below (own_below HO1.out c1) c2) c3
        have v1 := conv_sl M (SL.own o1' hB)
        have v3 := conv_sl cap3 (SL.own o3 hB)
        have O1 : Hid (_) := o1'
        have O2 : Hid (_) := o2'
        have O3 : Hid (_) := o3
        clear o1 o2 o3 o1' o2' c1 c2 c3 z1 z2 HX HO1
        go_wp2_with fail
        clear v1 v3
        go_loopw [16] (fun t wq => ∃ j : Nat, j ≤ M ∧ t = .int .i64 j ∧ y3.grownBy wq (some g1) ∧ ∃ ys : List Int, ys.length = M ∧ Bytes ys ∧ wq.ownsRow x1'.heap.size 5 1 (.slice (some ⟨g1, 0, none⟩) M M) M (ys.map (Value.int .u8))) (fun t _ => M - (intOf t).toNat)
        case atStart => exact ⟨0, by omega, rfl, grown_refl _ _, bytesOf a2 M, bytesOf_len _ _, hB, O1.out⟩
        case round =>
          obtain ⟨j, hj, rfl, hgr, ys, hyl, hyB, hyo⟩ := hrel
          by_cases hjl : j < M
          · have hM8 : M ≤ 8 := by omega
            have hce : wr.cell? ⟨g1, j, none⟩ = some (.int .u8 (ys.getD j 0)) := by
              rw [hyo.cellAt j (by omega)]
              simp [List.getElem?_eq_getElem (show j < ys.length by omega)]
            have hfr := hyo.frozenAt j
            have hbj := hyB j
            generalize ys.getD j 0 = z at *
            have ST := hyo.stored j (.int .u8 ((z + 1) % 256))
            rw [← List.map_set] at ST
            have HST : Hid (_) := ST
            have HGR : Hid (_) := hgr
            have HYB : Hid (Bytes (ys.set j ((z + 1) % 256))) := bytes_set hyB j _ (by omega) (by omega)
            clear ST hgr hyo hyB
            go_wp2
            go_roundw
            case rel => exact ⟨j + 1, by omega, by go_num, grown_trans HGR.out HST.out.2, _, by simpa using hyl, HYB.out, HST.out.1⟩
            case measure => simp [intOf]; omega
          · obtain rfl : j = M := by omega
            have q2 := World.ownsRow.kept O2.out hgr (.inr (by simp [Value.ownBlock]; omega))
            have q3 := World.ownsRow.kept O3.out hgr (.inr (by simp [Value.ownBlock]; omega))
            have v2 := conv_sl j (SL.own q2 hB)
            have v3 := conv_sl cap3 (SL.own q3 hB)
            have HE : Hid (Below w.heap.size w wr) := HY.out.grown hgr HY.out.size (fun i hi => by have := Option.some.inj hi; omega)
            have HI : Hid (wr.ownsRow w.heap.size 5 1 (.slice (some ⟨g, 0, none⟩) (len0 + 1) cap) (len0 + 1) ((zs ++ [90]).map (Value.int .u8))) := HO2.out.kept hgr (.inr (by simp [Value.ownBlock]; omega))
            clear q2 q3 hgr hyo hyB
            go_wp2_with fail
            go_roundw
            case rel => exact ⟨(j : Int) + 1, by omega, by omega, by go_num, HI.out, HE.out⟩
            case measure => simp [intOf]; omega
      · go_wp2_with fail
        refine (store_no a2 k _ z1 hkn).mono ?_
        rintro e y1 ⟨rfl, c1⟩
        have z2 := SZ.below z1 c1
        go_wp2_with fail
        refine (store_no a2 k _ z2 hkn).mono ?_
        rintro e y2 ⟨rfl, c2⟩
        go_wp2_with fail
        refine (rstore_no a2 k _ hkn).mono ?_
        rintro e y3 ⟨rfl, rfl⟩
        have hd1 := c1.size
        have HY : Hid (Below w.heap.size w y3) := (HX.out.trans (c1.mono HX.out.size)).trans (c2.mono (by omega))
        have HO2 : Hid (y3.ownsRow w.heap.size 5 1 (.slice (some ⟨g, 0, none⟩) (len0 + 1) cap) (len0 + 1) ((zs ++ [90]).map (Value.int .u8))) := own_below (own_below HO1.out c1) c2
        have vz := conv_zero y3 none 0
        clear c1 c2 z1 z2 HX HO1
        go_wp2_with fail
        go_loop [16] (fun t => t = .int .i64 0) (fun _ => 0)
        case atStart => rfl
        case round =>
          subst hrel
          go_wp2_with fail
          go_roundw
          case rel => exact ⟨k + 1, by omega, by omega, by go_num, HO2.out, HY.out⟩
          case measure => simp [intOf]; omega
    · obtain rfl : k = 10 := by omega
      have hB9 : Bytes (zs ++ [90]) := bytes_snoc hs.2.1
      have vi := conv_sl cap (SL.own HO.out hB9)
      have vb := conv_sl cap0 hsr
      have HR : Hid (strOfNums zs ++ ⟨#[90]⟩ = strOfNums (zs ++ [90])) := str_snoc zs
      have hsz : (strOfNums zs).size ≤ 140737488351232 := by rw [strOfNums_size, hs.1]; exact hl
      clear hsr hsh hzr
      go_wp2_with fail
      go_ret
      exact ⟨ret_bool (by rw [HR.out]; simp), HB.out⟩
end Go.Proofs.YtlliompimlondaaDoor.wordBytes
