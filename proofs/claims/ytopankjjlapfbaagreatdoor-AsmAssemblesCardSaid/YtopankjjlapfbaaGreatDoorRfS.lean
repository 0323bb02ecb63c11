/-
  The document's read: a line's words, its mark, what it asks for.
-/
import Derived.Test.YtopankjjlapfbaaGreatDoorRfQ
import Derived.BigQuiet
import Derived.Deep.DeepCutAuto
import Derived.Test.YtopankjjlapfbaaGreatDoorBldB
namespace Go.Proofs.YtopankjjlapfbaaGreatDoor
open Go.RowKit
set_option linter.unusedVariables false
set_option maxRecDepth 100000

set_option maxHeartbeats 3200000 in
theorem dread_any (s : ByteArray) (hs : s.size ≤ 65536) (w : World) :
    Calls Tryz.prog 27 #[.string s] w fun e w' => (∃ l, e = .returned (.tuple #[lnV l, .bool (lnO (wordsL s)).isSome]) ∧ ∀ x, lnO (wordsL s) = some x → l = x) ∧ Below w.heap.size w w' := by
  have CC := fun W => dcut_any s hs W
  have HWS : Hid (∀ o ∈ wordsL s, 1 ≤ o.size ∧ o.size ≤ 65536) := fun o ho => by
    have := words_mem s o ho
    omega
  generalize wordsL s = ws at *
  generalize hOO : lnO ws = O
  have HOO0 : Hid (lnO ws = O) := hOO
  clear hOO
  go_enter Tryz.func27, Tryz.ntmps27
  go_wp2_with fail
  refine (CC _).mono ?_
  rintro e w1 ⟨v, rfl, hsl, hb1⟩
  have hba : Below w.heap.size w (w.alloc (Obj.cells (lnC ln0).toArray 51)) := (Below.refl _ _).alloc (Nat.le_refl _) _
  have HB1 : Hid (Below w.heap.size w w1) := hba.trans (hb1.mono (by simp))
  have HN : Hid (LnAt w1 w.heap.size ln0) := (LnAt.new w ln0).below hb1
  clear hb1 hba CC
  obtain ⟨a, cap, rfl, hcap, hc⟩ := hsl
  cases ws with
  | nil =>
    clear hc
    have HO0 : Hid (O = some ln0) := HOO0.out.symm
    clear HOO0
    simp only [List.length_nil]
    go_wp2_with fail
    go_cut [27] (fun c wx => c = .bool false ∧ Below w1.heap.size w1 wx)
    case first =>
      go_quiet (fail)
      go_wp2_with fail
      go_meet
      exact ⟨rfl, below_drewN (Below.refl _ _) _⟩
    case rest =>
      obtain ⟨rfl, hbc⟩ := hcut
      have hN := HN.out.below hbc
      have HBW : Hid (Below w.heap.size w wc) := HB1.out.trans (hbc.mono HB1.out.size)
      clear hbc
      have hr0 := hN.c0
      have hr1 := hN.c1
      have hr2 := hN.c2
      have hr3 := hN.c3
      have hr4 := hN.c4
      have hr5 := hN.c5
      have hr6 := hN.c6
      have hr7 := hN.c7
      have hr8 := hN.c8
      have hr9 := hN.c9
      have hr10 := hN.c10
      have hrf := hN.fz
      clear hN
      go_wp2_with fail
      exact bodyPost_ret (v := .tuple #[lnV ln0, .bool true]) (by simp [results, Tryz.results27, go_sem, hr0, hr1, hr2, hr3, hr4, hr5, hr6, hr7, hr8, hr9, hr10, lnV, lnC, ln0]) rfl
        ⟨⟨ln0, by rw [HO0.out]; rfl, fun x hx => by rw [HO0.out] at hx; cases hx; rfl⟩, below_set11 HBW.out (Nat.le_refl _) _ _ _ _ _ _ _ _ _ _ _⟩
  | cons h r =>
    obtain ⟨blk, off, rfl, hlt, hc⟩ := hc (by simp)
    have hc0 : w1.cell? ⟨blk, off, none⟩ = some (.string h) := hc 0 (by simp)
    obtain ⟨h1, h2⟩ := HWS.out h (by simp)
    have HC : Hid (_) := hc
    clear hc
    simp only [List.length_cons] at *
    generalize hL : r.length = L at *
    have hcol := colon_has h h1
    have HCUT : Hid (Lib.hasSuffix h.data.toList [58] = true → h.extract 0 (h.size - 1) = markN h) := colon_cut h h1
    have hzz := byte_at h (h.size - 1) (by omega)
    have HO : Hid (O = if Lib.hasSuffix h.data.toList [58] = true then (if nameB (markN h) = true then stL (markN h) r else none) else stL ⟨#[]⟩ (h :: r)) := by
      show O = _
      rw [← HOO0.out]
      rfl
    clear HOO0
    have hms : (markN h).size ≤ 65536 := by
      show (Lib.trimSuffix h.data.toList [58]).toArray.size ≤ _
      have h2' : h.data.toList.length = h.size := by rw [Array.length_toList]; rfl
      unfold Lib.trimSuffix
      split <;> simp <;> omega
    have CM := fun W => dname_any (markN h) hms W
    generalize Lib.hasSuffix h.data.toList [58] = B at *
    generalize markN h = m at *
    have HCOL : Hid (B = (bsA h (h.size - 1) == 58)) := hcol
    clear hcol
    go_wp2_with fail
    go_cut [27] (fun c wx => c = .bool B ∧ Below w1.heap.size w1 wx)
    case first =>
      cases B
      all_goals
        have hcol2 := HCOL.out.symm
        go_quiet (fail)
        go_wp2_with fail
        go_meet
        exact ⟨rfl, below_drewN (Below.refl _ _) _⟩
    case rest =>
      obtain ⟨rfl, hbc⟩ := hcut
      go_upto_if 27 with fail
      go_cut [4, 5] (fun v q wx => ∃ M ws', q = .string M ∧ SlC wx v ws' ∧ O = stL M ws' ∧ (∀ o ∈ ws', 1 ≤ o.size ∧ o.size ≤ 65536) ∧ Below w1.heap.size w1 wx)
      case first =>
        have hcc := hbc.cell (p := ⟨blk, off, none⟩) hlt
        rw [hc0] at hcc
        cases B with
        | false =>
          have HO2 : Hid (O = stL ⟨#[]⟩ (h :: r)) := by
            show O = _
            simpa using HO.out
          have HSC : Hid (SlC w1 (.slice (some ⟨blk, off, none⟩) (L + 1) cap) (h :: r)) := ⟨_, cap, by rw [List.length_cons, hL], by rw [List.length_cons]; omega, fun _ => ⟨blk, off, rfl, hlt, fun i hi => HC.out i (by rw [List.length_cons, hL] at hi; exact hi)⟩⟩
          go_wp2_with fail
          go_meet
          exact ⟨_, _, rfl, HSC.out.below hbc, HO2.out, HWS.out, hbc⟩
        | true =>
          have hex := HCUT.out rfl
          go_wp2_with fail
          go_cut [5] (fun q wx => q = .string m ∧ Below w1.heap.size w1 wx)
          case first =>
            go_quiet (fail)
            go_wp2_with fail
            go_meet
            exact ⟨rfl, below_drewN hbc _⟩
          case rest =>
            obtain ⟨rfl, hbd⟩ := hcut
            clear hbc hcc
            have hwl : w1.heap.size ≤ wc.heap.size := hbd.size
            go_wp2_with fail
            refine (CM _).mono ?_
            rintro e w5 ⟨rfl, hb5⟩
            have hb15 : Below w1.heap.size w1 w5 := hbd.trans (hb5.mono hwl)
            obtain ⟨sv, hsl, hsc⟩ := tail_c w1 blk off cap h r (by omega) hlt (fun i hi => HC.out i (by rw [List.length_cons, hL] at hi; exact hi))
            rw [hL] at hsl
            have HSC : Hid (SlC w1 sv r) := hsc
            cases hnb : nameB m with
            | true =>
              have HO2 : Hid (O = stL m r) := by
                show O = _
                simpa [hnb] using HO.out
              clear hsc hbd hb5
              go_wp2_with fail
              go_meet
              exact ⟨_, _, rfl, HSC.out.below hb15, HO2.out, fun o ho => HWS.out o (by simp [ho]), hb15⟩
            | false =>
              have HO2 : Hid (O = none) := by
                show O = _
                simpa [hnb] using HO.out
              have hN := HN.out.below hb15
              have HBW : Hid (Below w.heap.size w w5) := HB1.out.trans (hb15.mono HB1.out.size)
              clear hsc hbd hb5 hb15
              have hr0 := hN.c0
              have hr1 := hN.c1
              have hr2 := hN.c2
              have hr3 := hN.c3
              have hr4 := hN.c4
              have hr5 := hN.c5
              have hr6 := hN.c6
              have hr7 := hN.c7
              have hr8 := hN.c8
              have hr9 := hN.c9
              have hr10 := hN.c10
              have hrf := hN.fz
              clear hN
              go_wp2_with fail
              try rw [Exit.noGoto_ret]
              exact bodyPost_ret (v := .tuple #[lnV (ln0), .bool false]) (by simp [results, Tryz.results27, go_sem, hr0, hr1, hr2, hr3, hr4, hr5, hr6, hr7, hr8, hr9, hr10, lnV, lnC, ln0]) rfl
                ⟨⟨ln0, by rw [HO2.out]; rfl, fun x hx => by rw [HO2.out] at hx; cases hx⟩, below_set11 HBW.out (Nat.le_refl _) _ _ _ _ _ _ _ _ _ _ _⟩
      case rest =>
        obtain ⟨M, ws', rfl, hsc, hO, hwz, hbx⟩ := hcut
        have hN := HN.out.below hbx
        have HBW : Hid (Below w.heap.size w wc) := HB1.out.trans (hbx.mono HB1.out.size)
        have HWZ : Hid (∀ o ∈ ws', 1 ≤ o.size ∧ o.size ≤ 65536) := hwz
        have HOO : Hid (O = stL M ws') := hO
        clear hbx hbc hwz hO HWS HC HO CM HCOL HCUT hzz hc0
        obtain ⟨a', cap', rfl, hcap', hc'⟩ := hsc
        cases ws' with
        | nil =>
          clear hc'
          simp only [List.length_nil]
          have HO2 : Hid (O = some { ln0 with mark := M }) := HOO.out
          have hr0 := hN.c0
          have hr1 := hN.c1
          have hr2 := hN.c2
          have hr3 := hN.c3
          have hr4 := hN.c4
          have hr5 := hN.c5
          have hr6 := hN.c6
          have hr7 := hN.c7
          have hr8 := hN.c8
          have hr9 := hN.c9
          have hr10 := hN.c10
          have hrf := hN.fz
          clear hN
          go_wp2_with fail
          try rw [Exit.noGoto_ret]
          exact bodyPost_ret (v := .tuple #[lnV ({ ln0 with mark := M }), .bool true]) (by simp [results, Tryz.results27, go_sem, hr0, hr1, hr2, hr3, hr4, hr5, hr6, hr7, hr8, hr9, hr10, lnV, lnC, ln0]) rfl
            ⟨⟨{ ln0 with mark := M }, by rw [HO2.out]; rfl, fun x hx => by rw [HO2.out] at hx; cases hx; rfl⟩, below_set11 HBW.out (Nat.le_refl _) _ _ _ _ _ _ _ _ _ _ _⟩
        | cons g os =>
          obtain ⟨blk2, off2, rfl, hlt2, hc2⟩ := hc' (by simp)
          have hd0 : wc.cell? ⟨blk2, off2, none⟩ = some (.string g) := hc2 0 (by simp)
          obtain ⟨g1, g2⟩ := HWZ.out g (by simp)
          have hcap2 : os.length + 1 ≤ cap' := by simpa using hcap'
          obtain ⟨sv2, hsl2, hsc2⟩ := tail_c wc blk2 off2 cap' g os hcap2 hlt2 hc2
          have HSC2 : Hid (SlC wc sv2 os) := hsc2
          have HC2 : Hid (∀ i, i < (g :: os).length → wc.cell? ⟨blk2, off2 + i, none⟩ = some (.string ((g :: os).getD i ⟨#[]⟩))) := hc2
          have HN2 : Hid (LnAt wc w.heap.size ln0) := hN
          have HST : Hid (O = (stmtO (opM 48) g os).map (lnOf M)) := HOO.out
          clear hc2 hc' hsc2 HOO hcap'
          rw [List.length_cons]
          by_cases hw : g = ⟨#[46, 119, 111, 114, 100]⟩
          · subst hw
            have HS3 : Hid (O = ((withinO os (-2147483648) 4294967295).map wordSt).map (lnOf M)) := by
              show O = _
              rw [HST.out]
              unfold stmtO
              rw [if_pos rfl]
            clear HST
            by_cases ho1 : os.length = 1
            · obtain ⟨o, rfl⟩ := List.length_eq_one_iff.1 ho1
              have hd1 : wc.cell? ⟨blk2, off2 + 1, none⟩ = some (.string o) := HC2.out 1 (by simp)
              have hoz := (HWZ.out o (by simp)).2
              have CN := fun W => rnumber_any o hoz W
              have HW1 : Hid (withinO [o] (-2147483648) 4294967295 = match numO o with
                | some v => if -2147483648 ≤ v ∧ v ≤ 4294967295 then some v else none
                | none => none) := rfl
              clear ho1 hcap2
              simp only [List.length_cons, List.length_nil] at *
              cases hx : numO o with
              | none =>
                rw [hx] at CN
                have HO2 : Hid (O = none) := by
                  show O = _
                  rw [HS3.out, HW1.out, hx]
                  rfl
                have hr0 := hN.c0
                have hr1 := hN.c1
                have hr2 := hN.c2
                have hr3 := hN.c3
                have hr4 := hN.c4
                have hr5 := hN.c5
                have hr6 := hN.c6
                have hr7 := hN.c7
                have hr8 := hN.c8
                have hr9 := hN.c9
                have hr10 := hN.c10
                have hrf := hN.fz
                clear hN
                go_wp2_with fail
                refine (CN _).mono ?_
                rintro e w9 ⟨rfl, rfl⟩
                simp only [Option.getD_none, Option.isSome_none]
                go_wp2_with fail
                try rw [Exit.noGoto_ret]
                exact bodyPost_ret (v := .tuple #[lnV (⟨0, M, 1, false, 0, 0, 0, 0, 0, ⟨#[]⟩, 0 % 4294967296⟩), .bool false]) (by simp [results, Tryz.results27, go_sem, hr0, hr1, hr2, hr3, hr4, hr5, hr6, hr7, hr8, hr9, hr10, lnV, lnC, ln0]) rfl
                  ⟨⟨⟨0, M, 1, false, 0, 0, 0, 0, 0, ⟨#[]⟩, 0 % 4294967296⟩, by rw [HO2.out]; rfl, fun x hx => by rw [HO2.out] at hx; cases hx⟩, below_set11 HBW.out (Nat.le_refl _) _ _ _ _ _ _ _ _ _ _ _⟩
              | some v =>
                rw [hx] at CN
                have hr0 := hN.c0
                have hr1 := hN.c1
                have hr2 := hN.c2
                have hr3 := hN.c3
                have hr4 := hN.c4
                have hr5 := hN.c5
                have hr6 := hN.c6
                have hr7 := hN.c7
                have hr8 := hN.c8
                have hr9 := hN.c9
                have hr10 := hN.c10
                have hrf := hN.fz
                clear hN
                by_cases q0 : -2147483648 ≤ v
                · by_cases q1 : v < 4294967296
                  · have HO2 : Hid (O = some (⟨0, M, 1, false, 0, 0, 0, 0, 0, ⟨#[]⟩, v % 4294967296⟩)) := by
                      show O = _
                      rw [HS3.out, HW1.out, hx]
                      show ((if _ then _ else _ : Option Int).map wordSt).map (lnOf M) = _
                      rw [if_pos (by omega)]
                      rfl
                    go_wp2_with fail
                    refine (CN _).mono ?_
                    rintro e w9 ⟨rfl, rfl⟩
                    simp only [Option.getD_some, Option.isSome_some]
                    go_wp2_with fail
                    try rw [Exit.noGoto_ret]
                    exact bodyPost_ret (v := .tuple #[lnV (⟨0, M, 1, false, 0, 0, 0, 0, 0, ⟨#[]⟩, v % 4294967296⟩), .bool true]) (by simp [results, Tryz.results27, go_sem, hr0, hr1, hr2, hr3, hr4, hr5, hr6, hr7, hr8, hr9, hr10, lnV, lnC, ln0]) rfl
                      ⟨⟨⟨0, M, 1, false, 0, 0, 0, 0, 0, ⟨#[]⟩, v % 4294967296⟩, by rw [HO2.out]; rfl, fun x hx => by rw [HO2.out] at hx; cases hx; rfl⟩, below_set11 HBW.out (Nat.le_refl _) _ _ _ _ _ _ _ _ _ _ _⟩
                  · have HO2 : Hid (O = none) := by
                      show O = _
                      rw [HS3.out, HW1.out, hx]
                      show ((if _ then _ else _ : Option Int).map wordSt).map (lnOf M) = _
                      rw [if_neg (by omega)]
                      rfl
                    go_wp2_with fail
                    refine (CN _).mono ?_
                    rintro e w9 ⟨rfl, rfl⟩
                    simp only [Option.getD_some, Option.isSome_some]
                    go_wp2_with fail
                    try rw [Exit.noGoto_ret]
                    exact bodyPost_ret (v := .tuple #[lnV (⟨0, M, 1, false, 0, 0, 0, 0, 0, ⟨#[]⟩, v % 4294967296⟩), .bool false]) (by simp [results, Tryz.results27, go_sem, hr0, hr1, hr2, hr3, hr4, hr5, hr6, hr7, hr8, hr9, hr10, lnV, lnC, ln0, q1]) rfl
                      ⟨⟨⟨0, M, 1, false, 0, 0, 0, 0, 0, ⟨#[]⟩, v % 4294967296⟩, by rw [HO2.out]; rfl, fun x hx => by rw [HO2.out] at hx; cases hx⟩, below_set11 HBW.out (Nat.le_refl _) _ _ _ _ _ _ _ _ _ _ _⟩
                · have HO2 : Hid (O = none) := by
                    show O = _
                    rw [HS3.out, HW1.out, hx]
                    show ((if _ then _ else _ : Option Int).map wordSt).map (lnOf M) = _
                    rw [if_neg (by omega)]
                    rfl
                  go_wp2_with fail
                  refine (CN _).mono ?_
                  rintro e w9 ⟨rfl, rfl⟩
                  simp only [Option.getD_some, Option.isSome_some]
                  go_wp2_with fail
                  try rw [Exit.noGoto_ret]
                  exact bodyPost_ret (v := .tuple #[lnV (⟨0, M, 1, false, 0, 0, 0, 0, 0, ⟨#[]⟩, v % 4294967296⟩), .bool false]) (by simp [results, Tryz.results27, go_sem, hr0, hr1, hr2, hr3, hr4, hr5, hr6, hr7, hr8, hr9, hr10, lnV, lnC, ln0]) rfl
                    ⟨⟨⟨0, M, 1, false, 0, 0, 0, 0, 0, ⟨#[]⟩, v % 4294967296⟩, by rw [HO2.out]; rfl, fun x hx => by rw [HO2.out] at hx; cases hx⟩, below_set11 HBW.out (Nat.le_refl _) _ _ _ _ _ _ _ _ _ _ _⟩
            · have hW0 : withinO os (-2147483648) 4294967295 = none := by
                unfold withinO
                split
                · rename_i o; simp at ho1
                · rfl
              have HO2 : Hid (O = none) := by
                show O = _
                rw [HS3.out, hW0]
                rfl
              have hn2 : ((os.length : Int) + 1 == 2) = false := by rw [beq_eq_false_iff_ne]; omega
              have hr0 := hN.c0
              have hr1 := hN.c1
              have hr2 := hN.c2
              have hr3 := hN.c3
              have hr4 := hN.c4
              have hr5 := hN.c5
              have hr6 := hN.c6
              have hr7 := hN.c7
              have hr8 := hN.c8
              have hr9 := hN.c9
              have hr10 := hN.c10
              have hrf := hN.fz
              clear hN hW0
              go_wp2_with fail
              try rw [Exit.noGoto_ret]
              exact bodyPost_ret (v := .tuple #[lnV (ln0), .bool false]) (by simp [results, Tryz.results27, go_sem, hr0, hr1, hr2, hr3, hr4, hr5, hr6, hr7, hr8, hr9, hr10, lnV, lnC, ln0]) rfl
                ⟨⟨ln0, by rw [HO2.out]; rfl, fun x hx => by rw [HO2.out] at hx; cases hx⟩, below_set11 HBW.out (Nat.le_refl _) _ _ _ _ _ _ _ _ _ _ _⟩
          by_cases hf : g = ⟨#[46, 102, 105, 108, 108]⟩
          · subst hf
            have HS3 : Hid (O = ((withinO os 0 4096).map fillSt).map (lnOf M)) := by
              show O = _
              rw [HST.out]
              unfold stmtO
              rw [if_neg (by decide), if_pos rfl]
            clear HST
            by_cases ho1 : os.length = 1
            · obtain ⟨o, rfl⟩ := List.length_eq_one_iff.1 ho1
              have hd1 : wc.cell? ⟨blk2, off2 + 1, none⟩ = some (.string o) := HC2.out 1 (by simp)
              have hoz := (HWZ.out o (by simp)).2
              have CN := fun W => rnumber_any o hoz W
              have HW1 : Hid (withinO [o] 0 4096 = match numO o with
                | some v => if 0 ≤ v ∧ v ≤ 4096 then some v else none
                | none => none) := rfl
              clear ho1 hcap2
              simp only [List.length_cons, List.length_nil] at *
              cases hx : numO o with
              | none =>
                rw [hx] at CN
                have HO2 : Hid (O = none) := by
                  show O = _
                  rw [HS3.out, HW1.out, hx]
                  rfl
                have hr0 := hN.c0
                have hr1 := hN.c1
                have hr2 := hN.c2
                have hr3 := hN.c3
                have hr4 := hN.c4
                have hr5 := hN.c5
                have hr6 := hN.c6
                have hr7 := hN.c7
                have hr8 := hN.c8
                have hr9 := hN.c9
                have hr10 := hN.c10
                have hrf := hN.fz
                clear hN
                go_wp2_with fail
                refine (CN _).mono ?_
                rintro e w9 ⟨rfl, rfl⟩
                simp only [Option.getD_none, Option.isSome_none]
                go_wp2_with fail
                try rw [Exit.noGoto_ret]
                exact bodyPost_ret (v := .tuple #[lnV (⟨0, M, 0, false, 0, 0, 0, 0, 0, ⟨#[]⟩, 0⟩), .bool false]) (by simp [results, Tryz.results27, go_sem, hr0, hr1, hr2, hr3, hr4, hr5, hr6, hr7, hr8, hr9, hr10, lnV, lnC, ln0]) rfl
                  ⟨⟨⟨0, M, 0, false, 0, 0, 0, 0, 0, ⟨#[]⟩, 0⟩, by rw [HO2.out]; rfl, fun x hx => by rw [HO2.out] at hx; cases hx⟩, below_set11 HBW.out (Nat.le_refl _) _ _ _ _ _ _ _ _ _ _ _⟩
              | some v =>
                rw [hx] at CN
                have hr0 := hN.c0
                have hr1 := hN.c1
                have hr2 := hN.c2
                have hr3 := hN.c3
                have hr4 := hN.c4
                have hr5 := hN.c5
                have hr6 := hN.c6
                have hr7 := hN.c7
                have hr8 := hN.c8
                have hr9 := hN.c9
                have hr10 := hN.c10
                have hrf := hN.fz
                clear hN
                by_cases q0 : 0 ≤ v
                · by_cases q1 : v ≤ 4096
                  · have HO2 : Hid (O = some (⟨0, M, v, false, 0, 0, 0, 0, 0, ⟨#[]⟩, 0⟩)) := by
                      show O = _
                      rw [HS3.out, HW1.out, hx]
                      show ((if _ then _ else _ : Option Int).map fillSt).map (lnOf M) = _
                      rw [if_pos (by omega)]
                      rfl
                    go_wp2_with fail
                    refine (CN _).mono ?_
                    rintro e w9 ⟨rfl, rfl⟩
                    simp only [Option.getD_some, Option.isSome_some]
                    go_wp2_with fail
                    try rw [Exit.noGoto_ret]
                    exact bodyPost_ret (v := .tuple #[lnV (⟨0, M, v, false, 0, 0, 0, 0, 0, ⟨#[]⟩, 0⟩), .bool true]) (by simp [results, Tryz.results27, go_sem, hr0, hr1, hr2, hr3, hr4, hr5, hr6, hr7, hr8, hr9, hr10, lnV, lnC, ln0]) rfl
                      ⟨⟨⟨0, M, v, false, 0, 0, 0, 0, 0, ⟨#[]⟩, 0⟩, by rw [HO2.out]; rfl, fun x hx => by rw [HO2.out] at hx; cases hx; rfl⟩, below_set11 HBW.out (Nat.le_refl _) _ _ _ _ _ _ _ _ _ _ _⟩
                  · have HO2 : Hid (O = none) := by
                      show O = _
                      rw [HS3.out, HW1.out, hx]
                      show ((if _ then _ else _ : Option Int).map fillSt).map (lnOf M) = _
                      rw [if_neg (by omega)]
                      rfl
                    go_wp2_with fail
                    refine (CN _).mono ?_
                    rintro e w9 ⟨rfl, rfl⟩
                    simp only [Option.getD_some, Option.isSome_some]
                    go_wp2_with fail
                    try rw [Exit.noGoto_ret]
                    exact bodyPost_ret (v := .tuple #[lnV (⟨0, M, v, false, 0, 0, 0, 0, 0, ⟨#[]⟩, 0⟩), .bool false]) (by simp [results, Tryz.results27, go_sem, hr0, hr1, hr2, hr3, hr4, hr5, hr6, hr7, hr8, hr9, hr10, lnV, lnC, ln0, q1]) rfl
                      ⟨⟨⟨0, M, v, false, 0, 0, 0, 0, 0, ⟨#[]⟩, 0⟩, by rw [HO2.out]; rfl, fun x hx => by rw [HO2.out] at hx; cases hx⟩, below_set11 HBW.out (Nat.le_refl _) _ _ _ _ _ _ _ _ _ _ _⟩
                · have HO2 : Hid (O = none) := by
                    show O = _
                    rw [HS3.out, HW1.out, hx]
                    show ((if _ then _ else _ : Option Int).map fillSt).map (lnOf M) = _
                    rw [if_neg (by omega)]
                    rfl
                  go_wp2_with fail
                  refine (CN _).mono ?_
                  rintro e w9 ⟨rfl, rfl⟩
                  simp only [Option.getD_some, Option.isSome_some]
                  go_wp2_with fail
                  try rw [Exit.noGoto_ret]
                  exact bodyPost_ret (v := .tuple #[lnV (⟨0, M, v, false, 0, 0, 0, 0, 0, ⟨#[]⟩, 0⟩), .bool false]) (by simp [results, Tryz.results27, go_sem, hr0, hr1, hr2, hr3, hr4, hr5, hr6, hr7, hr8, hr9, hr10, lnV, lnC, ln0]) rfl
                    ⟨⟨⟨0, M, v, false, 0, 0, 0, 0, 0, ⟨#[]⟩, 0⟩, by rw [HO2.out]; rfl, fun x hx => by rw [HO2.out] at hx; cases hx⟩, below_set11 HBW.out (Nat.le_refl _) _ _ _ _ _ _ _ _ _ _ _⟩
            · have hW0 : withinO os 0 4096 = none := by
                unfold withinO
                split
                · rename_i o; simp at ho1
                · rfl
              have HO2 : Hid (O = none) := by
                show O = _
                rw [HS3.out, hW0]
                rfl
              have hn2 : ((os.length : Int) + 1 == 2) = false := by rw [beq_eq_false_iff_ne]; omega
              have hr0 := hN.c0
              have hr1 := hN.c1
              have hr2 := hN.c2
              have hr3 := hN.c3
              have hr4 := hN.c4
              have hr5 := hN.c5
              have hr6 := hN.c6
              have hr7 := hN.c7
              have hr8 := hN.c8
              have hr9 := hN.c9
              have hr10 := hN.c10
              have hrf := hN.fz
              clear hN hW0
              go_wp2_with fail
              try rw [Exit.noGoto_ret]
              exact bodyPost_ret (v := .tuple #[lnV (ln0), .bool false]) (by simp [results, Tryz.results27, go_sem, hr0, hr1, hr2, hr3, hr4, hr5, hr6, hr7, hr8, hr9, hr10, lnV, lnC, ln0]) rfl
                ⟨⟨ln0, by rw [HO2.out]; rfl, fun x hx => by rw [HO2.out] at hx; cases hx⟩, below_set11 HBW.out (Nat.le_refl _) _ _ _ _ _ _ _ _ _ _ _⟩
          have hnw := str_ne (l := [46, 119, 111, 114, 100]) hw
          have hnf := str_ne (l := [46, 102, 105, 108, 108]) hf
          have HS2 : Hid (stmtO (opM 48) g os = match opM 48 g with | some op => instrO op os | none => none) := by
            show _ = _
            unfold stmtO
            rw [if_neg hw, if_neg hf]
            cases opM 48 g <;> rfl
          clear hw hf
          cases hop : opM 48 g with
          | none =>
            have HO2 : Hid (O = none) := by
              show O = _
              rw [HST.out, HS2.out, hop]
              rfl
            have CP := fun W => dop_any g W
            rw [hop] at CP
            go_wp2_with fail
            refine (CP _).mono ?_
            rintro e w5 ⟨rfl, hb5⟩
            have hN5 := HN2.out.below hb5
            have HB5 : Hid (Below w.heap.size w w5) := HBW.out.trans (hb5.mono HBW.out.size)
            clear hb5 hN
            have hr0 := hN5.c0
            have hr1 := hN5.c1
            have hr2 := hN5.c2
            have hr3 := hN5.c3
            have hr4 := hN5.c4
            have hr5 := hN5.c5
            have hr6 := hN5.c6
            have hr7 := hN5.c7
            have hr8 := hN5.c8
            have hr9 := hN5.c9
            have hr10 := hN5.c10
            have hrf := hN5.fz
            clear hN5
            go_wp2_with fail
            try rw [Exit.noGoto_ret]
            exact bodyPost_ret (v := .tuple #[lnV (ln0), .bool false]) (by simp [results, Tryz.results27, go_sem, hr0, hr1, hr2, hr3, hr4, hr5, hr6, hr7, hr8, hr9, hr10, lnV, lnC, ln0]) rfl
              ⟨⟨ln0, by rw [HO2.out]; rfl, fun x hx => by rw [HO2.out] at hx; cases hx⟩, below_set11 HB5.out (Nat.le_refl _) _ _ _ _ _ _ _ _ _ _ _⟩
          | some op =>
            obtain ⟨ho1, ho2⟩ := opM_range 48 g op hop
            have ho0 : (op == 0) = false := by rw [beq_eq_false_iff_ne]; omega
            have HO2 : Hid (O = (instrO op os).map (lnOf M)) := by
              show O = _
              rw [HST.out, HS2.out, hop]
            have HOP : Hid (∀ s, instrO op os = some s → lnOf M s = { lnS s with mark := M }) := fun s hs' => by
              unfold instrO at hs'
              split at hs'
              · have hq := (opdsO_keeps _ _ _ _ hs').1
                unfold lnOf
                rw [if_neg (by rw [hq]; show op ≠ 0; omega)]
              · cases hs'
            have CP := fun W => dop_any g W
            rw [hop] at CP
            have CD : ∀ W, Below wc.heap.size wc W → Calls Tryz.prog 51 #[.int .i64 op, sv2] W fun e w' => (∃ l : Ln, e = .returned (.tuple #[.agg #[.int .i64 l.at_, .string l.mark, .int .i64 l.words, .bool l.is_, .int .i64 l.op, .int .i64 l.rd, .int .i64 l.rs1, .int .i64 l.rs2, .int .i64 l.imm, .string l.want, .int .u32 l.value], .bool (instrO op os).isSome]) ∧ ∀ s, instrO op os = some s → l = lnS s) ∧ Below W.heap.size W w' :=
              fun W hW => dops_any op sv2 os W (HSC2.out.below hW) (fun o ho => (HWZ.out o (by simp [ho])).2)
            generalize instrO op os = R at *
            go_wp2_with fail
            refine (CP _).mono ?_
            rintro e w5 ⟨rfl, hb5⟩
            simp only [Option.getD_some]
            have hd5 := hb5.cell (p := ⟨blk2, off2, none⟩) hlt2
            rw [hd0] at hd5
            go_wp2_with fail
            refine (CD _ hb5).mono ?_
            rintro e w6 ⟨⟨l, rfl, hl⟩, hb6⟩
            have hb56 : Below wc.heap.size wc w6 := hb5.trans (hb6.mono hb5.size)
            have hN6 := HN2.out.below hb56
            have HB6 : Hid (Below w.heap.size w w6) := HBW.out.trans (hb56.mono HBW.out.size)
            clear hb5 hb6 hb56 hN
            have hr0 := hN6.c0
            have hr1 := hN6.c1
            have hr2 := hN6.c2
            have hr3 := hN6.c3
            have hr4 := hN6.c4
            have hr5 := hN6.c5
            have hr6 := hN6.c6
            have hr7 := hN6.c7
            have hr8 := hN6.c8
            have hr9 := hN6.c9
            have hr10 := hN6.c10
            have hrf := hN6.fz
            have hNl := hN6.lt
            clear hN6
            go_wp2_with fail
            have hbX := below_set11 HB6.out (Nat.le_refl w.heap.size) (.int .i64 l.at_) (.string M) (.int .i64 l.words) (.bool l.is_) (.int .i64 l.op) (.int .i64 l.rd) (.int .i64 l.rs1) (.int .i64 l.rs2) (.int .i64 l.imm) (.string l.want) (.int .u32 l.value)
            have hA : ∀ (X : World) (ob : Obj) (j : Nat), w.heap.size < X.heap.size → (X.alloc ob).cell? ⟨w.heap.size, j, none⟩ = X.cell? ⟨w.heap.size, j, none⟩ := fun X ob j hX => World.cell?_alloc_lt _ _ ⟨w.heap.size, j, none⟩ hX
            have hZ : ∀ (X : World) (p : Addr) (v : Value), w.heap.size < X.heap.size → w.heap.size < (X.setCell p v).heap.size := fun X p v hX => Nat.lt_of_lt_of_le hX ((Below.refl _ X).setCell (p := p) (Nat.zero_le _) v : Below 0 X _).size
            exact bodyPost_ret (v := .tuple #[lnV { l with mark := M }, .bool R.isSome]) (by simp [results, Tryz.results27, go_sem, hA, hNl, hr0, hr1, hr2, hr3, hr4, hr5, hr6, hr7, hr8, hr9, hr10, lnV, lnC]) rfl
              ⟨⟨{ l with mark := M }, by rw [HO2.out]; cases R <;> rfl, fun x hx => by
                rw [HO2.out] at hx
                cases R with
                | none => cases hx
                | some s1 =>
                  simp only [Option.map_some, Option.some.injEq] at hx
                  rw [← hx, HOP.out s1 rfl, hl s1 rfl]⟩, hbX.alloc hbX.size _⟩
end Go.Proofs.YtopankjjlapfbaaGreatDoor
