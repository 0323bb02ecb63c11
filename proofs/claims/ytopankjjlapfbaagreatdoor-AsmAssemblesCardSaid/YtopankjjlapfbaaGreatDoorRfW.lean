/-
  The document's lines: their walk.
-/
import Derived.Test.YtopankjjlapfbaaGreatDoorRfV
namespace Go.Proofs.YtopankjjlapfbaaGreatDoor
open Go.RowKit
set_option linter.unusedVariables false
set_option maxRecDepth 100000

/-- what lines tells -/
def LinesTold (wS : World) (R : List Ln ⊕ Nat) (e : Ending) (w' : World) : Prop :=
  (∀ ls, R = .inl ls → ∃ v, e = .returned (.tuple #[v, .int .i64 0, .int .i64 0]) ∧ LR wS w' v ls) ∧
  (∀ n, R = .inr n → e = .returned (.tuple #[.slice none 0 0, .int .i64 (n : Int), .int .i64 10]) ∧ Below wS.heap.size wS w')

theorem told_bad {wS w' : World} {R : List Ln ⊕ Nat} {n : Nat} (h : R = .inr n) (hb : Below wS.heap.size wS w') :
    LinesTold wS R (.returned (.tuple #[.slice none 0 0, .int .i64 (n : Int), .int .i64 10])) w' := by
  subst h
  refine ⟨fun ls hls => ?_, fun m hm => ?_⟩
  · cases hls
  · cases hm
    exact ⟨rfl, hb⟩

/-- one line more, at its end -/
theorem lines_step (B : List UInt8) (k f : Nat) (acc : List Ln) (R : List Ln ⊕ Nat) (hf : f ≤ k) (hk : k ≤ B.length) (hend : k = B.length ∨ B[k]? = some 10)
    (hD : dlinesP ((linesB (B.drop k) ((B.take k).drop f)).map fun w => (⟨w.toArray⟩ : ByteArray)) acc = R) :
    (lnO (wordsL ⟨((B.take k).drop f).toArray⟩) = none → R = .inr acc.length) ∧
    (∀ l, lnO (wordsL ⟨((B.take k).drop f).toArray⟩) = some l → okL acc l.mark = false → R = .inr acc.length) ∧
    (∀ l, lnO (wordsL ⟨((B.take k).drop f).toArray⟩) = some l → okL acc l.mark = true →
      (k + 1 ≤ B.length ∧ dlinesP ((linesB (B.drop (k + 1)) ((B.take (k + 1)).drop (k + 1))).map fun w => (⟨w.toArray⟩ : ByteArray)) (acc ++ [{ l with at_ := acc.length }]) = R) ∨ (k + 1 = B.length + 1 ∧ R = .inl (acc ++ [{ l with at_ := acc.length }]))) := by
  generalize hc : (B.take k).drop f = cur at *
  have hl : ∃ rest, linesB (B.drop k) cur = cur :: rest ∧ ((k + 1 ≤ B.length ∧ rest = linesB (B.drop (k + 1)) ((B.take (k + 1)).drop (k + 1))) ∨ (k + 1 = B.length + 1 ∧ rest = [])) := by
    by_cases hkl : k = B.length
    · refine ⟨[], ?_, Or.inr ⟨by omega, rfl⟩⟩
      rw [List.drop_eq_nil_of_le (by omega)]
      rfl
    · have h10 : B[k]? = some 10 := by
        rcases hend with h | h
        · exact absurd h hkl
        · exact h
      have hlt : k < B.length := by omega
      refine ⟨_, ?_, Or.inl ⟨by omega, rfl⟩⟩
      rw [List.drop_eq_getElem_cons hlt]
      have e10 : B[k] = 10 := by
        rw [List.getElem?_eq_getElem hlt] at h10
        exact Option.some.inj h10
      rw [e10, linesB_end]
      have e0 : (B.take (k + 1)).drop (k + 1) = [] := List.drop_eq_nil_of_le (by rw [List.length_take]; omega)
      rw [e0]
  obtain ⟨rest, hl1, hl2⟩ := hl
  rw [hl1, List.map_cons] at hD
  unfold dlinesP at hD
  refine ⟨fun h0 => ?_, fun l h0 h1 => ?_, fun l h0 h1 => ?_⟩
  · rw [h0] at hD
    exact hD.symm
  · rw [h0] at hD
    simp only [h1, Bool.false_eq_true, if_false] at hD
    exact hD.symm
  · rw [h0] at hD
    simp only [h1, if_true] at hD
    rcases hl2 with ⟨h2, rfl⟩ | ⟨h2, rfl⟩
    · exact Or.inl ⟨h2, hD⟩
    · exact Or.inr ⟨h2, hD.symm⟩

set_option maxHeartbeats 6400000 in
theorem dlines_any (s : ByteArray) (hs : s.size ≤ 65536) (w : World) :
    Calls Tryz.prog 14 #[.string s] w fun e w' => LinesTold w (dlinesP (linesL s) []) e w' := by
  have hlen : s.data.toList.length = s.size := by rw [Array.length_toList]; rfl
  have HZ : Hid (∀ k (h : k < s.size), ((s[k].toNat : Nat) : Int) = bsA s k) := byte_at s
  rw [lines_bytes]
  generalize hR : dlinesP ((linesB s.data.toList []).map fun w => (⟨w.toArray⟩ : ByteArray)) [] = R
  have HR : Hid (dlinesP ((linesB s.data.toList []).map fun w => (⟨w.toArray⟩ : ByteArray)) [] = R) := hR
  clear hR
  go_enter Tryz.func14, Tryz.ntmps14
  go_wp2_with fail
  go_loopw [5, 6, 7, 8] (fun ov fv nv iv wr => ∃ (k f : Nat) (acc : List Ln), fv = .int .i64 f ∧ nv = .int .i64 acc.length ∧ iv = .int .i64 k ∧ LR w wr ov acc ∧ acc.length ≤ f ∧ f ≤ k ∧
      ((k ≤ s.size ∧ dlinesP ((linesB (s.data.toList.drop k) ((s.data.toList.take k).drop f)).map fun w => (⟨w.toArray⟩ : ByteArray)) acc = R) ∨ (k = s.size + 1 ∧ R = .inl acc))) (fun _ _ _ iv _ => s.size + 1 - (intOf iv).toNat)
  case atStart => exact ⟨0, 0, [], rfl, rfl, rfl, LR.nil w, by simp, by omega, Or.inl ⟨by omega, by simpa using HR.out⟩⟩
  case round =>
    obtain ⟨k, f, acc, rfl, rfl, rfl, hLR, hacc, hfk, hwhat⟩ := hrel
    have HL : Hid (LR w wr u5 acc) := hLR
    obtain ⟨oa, ocap, rfl⟩ := hLR.form
    clear hLR
    rcases hwhat with ⟨hk, hD⟩ | ⟨rfl, hD⟩
    · by_cases hgo : k < s.size ∧ s.data.toList[k]? ≠ some 10
      · obtain ⟨hlt, hne⟩ := hgo
        have hlt' : k < s.data.toList.length := by omega
        have hcs : s.data.toList[k]? = some s.data.toList[k] := List.getElem?_eq_getElem hlt'
        have hzv := byte_of s k _ hcs
        have hzk := HZ.out k hlt
        have hc10 : s.data.toList[k] ≠ 10 := fun e => hne (by rw [hcs, e])
        have hz : (bsA s k == 10) = false := by
          rw [beq_eq_false_iff_ne, hzv]
          intro e
          exact hc10 (UInt8.toNat_inj.1 (by rw [show s.data.toList[k].toNat = 10 by omega]; rfl))
        have HD : Hid (dlinesP ((linesB (s.data.toList.drop (k + 1)) ((s.data.toList.take (k + 1)).drop f)).map fun w => (⟨w.toArray⟩ : ByteArray)) acc = R) := by
          show _ = _
          rw [← hD, List.drop_eq_getElem_cons hlt', linesB_more _ _ _ hc10, take_drop_push _ _ _ hfk hlt']
        clear hD hcs hzv hc10 hne
        generalize bsA s k = z at *
        go_wp2_with fail
        go_roundw
        case rel => exact ⟨k + 1, f, acc, rfl, rfl, by go_num, HL.out, hacc, by omega, Or.inl ⟨by omega, HD.out⟩⟩
        case measure => simp [intOf]; omega
      · have hend : k = s.data.toList.length ∨ s.data.toList[k]? = some 10 := by
          by_cases h1 : k < s.size
          · exact Or.inr (Classical.byContradiction fun h2 => hgo ⟨h1, h2⟩)
          · exact Or.inl (by omega)
        obtain ⟨hx, hy, hn⟩ := lines_step s.data.toList k f acc R hfk (by omega) hend hD
        have hext : s.extract f k = ⟨((s.data.toList.take k).drop f).toArray⟩ := by
          rw [extract_eq s f k (by omega), List.drop_take]
        have hsz : (⟨((s.data.toList.take k).drop f).toArray⟩ : ByteArray).size ≤ 65536 := by
          show (((s.data.toList.take k).drop f).toArray).size ≤ _
          simp
          omega
        rw [hlen] at hn
        generalize (⟨((s.data.toList.take k).drop f).toArray⟩ : ByteArray) = sl at *
        have CR := fun W => dread_any sl hsz W
        generalize lnO (wordsL sl) = O at *
        have HX : Hid (_) := hx
        have HY : Hid (_) := hy
        have HN : Hid (_) := hn
        clear hx hy hn hD hgo
        have hguard : (k < s.size ∧ ((bsA s k == 10) = true)) ∨ k = s.size := by
          rcases hend with h1 | h1
          · exact Or.inr (by omega)
          · have hlt : k < s.size := by
              have := (List.getElem?_eq_some_iff.1 h1).1
              omega
            refine Or.inl ⟨hlt, ?_⟩
            rw [byte_of s k _ h1]
            rfl
        clear hend
        rcases hguard with ⟨hlt, hz⟩ | hkl
        case' inl => have hzk := HZ.out k hlt
        case' inl => generalize bsA s k = z at *
        case' inr => subst hkl
        all_goals
          go_wp2_with fail
          refine (CR _).mono ?_
          rintro e w1 ⟨⟨l, rfl, hl⟩, hb1⟩
          have HLL : Hid (∀ x, O = some x → l = x) := hl
          have HL1 : Hid (LR w w1 (.slice oa acc.length ocap) acc) := HL.out.below hb1
          clear hb1 hl CR HL hext hsz
          obtain ⟨b0, HB0⟩ : ∃ b0, Hid (O.isSome = b0) := ⟨_, rfl⟩
          rw [show O.isSome = b0 from HB0.out]
          unfold lnV lnC
          cases b0
          · have HR0 : Hid (R = .inr acc.length) := HX.out (by have := HB0.out; cases O with | none => rfl | some x => cases this)
            go_wp2_with fail
            generalize hWX : w1.alloc (Obj.cells #[.int .i64 (acc.length : Int), .string l.mark, .int .i64 l.words, .bool l.is_, .int .i64 l.op, .int .i64 l.rd, .int .i64 l.rs1, .int .i64 l.rs2, .int .i64 l.imm, .string l.want, .int .u32 l.value] 51) = wX
            have HBX : Hid (Below w.heap.size w wX) := by rw [← hWX]; exact HL1.out.bel.alloc HL1.out.bel.size _
            clear hWX
            go_loopw [10, 11] (fun bv kv wq => bv = .bool false ∧ kv = .int .i64 0 ∧ wq = wX) (fun _ _ _ => 0)
            case atStart => exact ⟨rfl, rfl, rfl⟩
            case round =>
              obtain ⟨rfl, rfl, rfl⟩ := hrel
              go_wp2_with fail
              refine bodyPost_ret (v := .tuple #[.slice none 0 0, .int .i64 (acc.length : Int), .int .i64 10]) (by simp [results, Tryz.results14, go_sem]) rfl ?_
              exact told_bad HR0.out HBX.out
          · obtain ⟨x, HO⟩ : ∃ x, Hid (O = some x) := by
              have := HB0.out
              cases O with
              | none => cases this
              | some x => exact ⟨x, rfl⟩
            obtain rfl := HLL.out x HO.out
            go_wp2_with fail
            generalize hWX : w1.alloc (Obj.cells #[.int .i64 (acc.length : Int), .string l.mark, .int .i64 l.words, .bool l.is_, .int .i64 l.op, .int .i64 l.rd, .int .i64 l.rs1, .int .i64 l.rs2, .int .i64 l.imm, .string l.want, .int .u32 l.value] 51) = wX
            have hsx : wX.heap.size = w1.heap.size + 1 := by rw [← hWX]; simp
            have HAT : Hid (LnAt wX w1.heap.size { l with at_ := (acc.length : Int) }) := by rw [← hWX]; exact LnAt.new w1 { l with at_ := (acc.length : Int) }
            have HLX : Hid (LR w wX (.slice oa acc.length ocap) acc) := by rw [← hWX]; exact HL1.out.below ((Below.refl _ _).alloc (Nat.le_refl _) _)
            clear hWX HL1 HLL HB0 HX
            generalize hbx : w1.heap.size = bX at *
            clear hbx
            obtain ⟨oa', ocap', hoe, hocap, hcc⟩ := HLX.out.sl
            obtain ⟨rfl, rfl⟩ : oa = oa' ∧ ocap = ocap' := by
              simp at hoe
              exact hoe
            have HCC : Hid (_) := hcc
            clear hcc hoe
            go_loopw [10, 11] (fun bv kv wq => ∃ j : Nat, j ≤ acc.length ∧ kv = .int .i64 j ∧ bv = .bool (okL (acc.take j) l.mark) ∧ Below wX.heap.size wX wq) (fun _ kv _ => acc.length - (intOf kv).toNat)
            case atStart => exact ⟨0, by omega, rfl, by simp [okL], Below.refl _ _⟩
            case round =>
              obtain ⟨j, hj, rfl, rfl, hbq⟩ := hrel
              have HBQ : Hid (Below wX.heap.size wX _) := hbq
              clear hbq
              cases hok : okL (acc.take j) l.mark
              · have HR0 : Hid (R = .inr acc.length) := HY.out l HO.out (okL_mono acc l.mark j hok)
                clear hok
                go_wp2_with fail
                refine bodyPost_ret (v := .tuple #[.slice none 0 0, .int .i64 (acc.length : Int), .int .i64 10]) (by simp [results, Tryz.results14, go_sem]) rfl ?_
                exact told_bad HR0.out (HLX.out.bel.trans (HBQ.out.mono HLX.out.bel.size))
              · have HOK : Hid (okL (acc.take j) l.mark = true) := hok
                clear hok
                by_cases hj2 : j < acc.length
                · obtain ⟨blk, rfl, hltb, hcells⟩ := HCC.out (fun e => by rw [e] at hj2; simp at hj2)
                  have c1 := (HBQ.out.cell (p := ⟨blk, j * 11 + 1, none⟩) hltb).trans (hcells j hj2 1 (by omega))
                  have m1 := (HBQ.out.cell (p := ⟨bX, 1, none⟩) HAT.out.lt).trans HAT.out.c1
                  have c1' : wr.cell? ⟨blk, j * 11 + 1, none⟩ = some (.string acc[j].mark) := c1
                  have m1' : wr.cell? ⟨bX, 1, none⟩ = some (.string l.mark) := m1
                  clear c1 m1 hcells
                  by_cases hm : l.mark = ⟨#[]⟩
                  · have HJ : Hid (okL (acc.take (j + 1)) l.mark = true) := by show _ = _; rw [hm]; exact okL_empty _
                    have e1 : (l.mark.toList == []) = true := by rw [hm, Go.ByteArray.toList_eq]; rfl
                    clear hm
                    generalize acc[j].mark = am at *
                    go_wp2_with fail
                    go_quiet (fail)
                    go_wp2_with fail
                    go_roundw
                    case rel => exact ⟨j + 1, by omega, by go_num, by rw [HJ.out], below_drewN HBQ.out _⟩
                    case measure => simp [intOf]; omega
                  · have hst := okL_take acc l.mark j hj2 hm
                    rw [HOK.out, Bool.true_and] at hst
                    have HJ : Hid (okL (acc.take (j + 1)) l.mark = decide (acc[j].mark ≠ l.mark)) := hst
                    have e1 : (l.mark.toList == []) = false := str_ne (l := []) hm
                    clear hm hst
                    by_cases heq : acc[j].mark = l.mark
                    · have e2 := sl_eq heq
                      have HJ2 : Hid (okL (acc.take (j + 1)) l.mark = false) := by show _ = _; rw [HJ.out]; simp [heq]
                      clear heq HJ
                      generalize acc[j].mark = am at *
                      go_wp2_with fail
                      go_quiet (fail)
                      go_wp2_with fail
                      go_roundw
                      case rel => exact ⟨j + 1, by omega, by go_num, by rw [HJ2.out], below_drewN HBQ.out _⟩
                      case measure => simp [intOf]; omega
                    · have e2 := str_diff heq
                      have HJ2 : Hid (okL (acc.take (j + 1)) l.mark = true) := by show _ = _; rw [HJ.out]; simp [heq]
                      clear heq HJ
                      generalize acc[j].mark = am at *
                      go_wp2_with fail
                      go_quiet (fail)
                      go_wp2_with fail
                      go_roundw
                      case rel => exact ⟨j + 1, by omega, by go_num, by rw [HJ2.out], below_drewN HBQ.out _⟩
                      case measure => simp [intOf]; omega
                · obtain rfl : j = acc.length := by omega
                  have hok2 := HOK.out
                  rw [List.take_length] at hok2
                  have HNX : Hid (_) := HN.out l HO.out hok2
                  have hat := HAT.out.below HBQ.out
                  have hlr := HLX.out.below HBQ.out
                  obtain ⟨v2, w2, hrun, hlr2⟩ := hlr.push { l with at_ := (acc.length : Int) } (by omega)
                  have HL2 : Hid (_) := hlr2
                  have hr0 := hat.c0
                  have hr1 := hat.c1
                  have hr2 := hat.c2
                  have hr3 := hat.c3
                  have hr4 := hat.c4
                  have hr5 := hat.c5
                  have hr6 := hat.c6
                  have hr7 := hat.c7
                  have hr8 := hat.c8
                  have hr9 := hat.c9
                  have hr10 := hat.c10
                  simp only [lnC] at hrun
                  clear hok2 hat hlr hlr2 HOK HCC HAT HLX HO HN HY
                  go_wp2_with (at_builtin; refine wpList_append_run rfl _ _ 45 rfl _ _ v2 w2 rfl rfl hrun ?_)
                  go_roundw
                  case rel => exact ⟨_, _, acc ++ [{ l with at_ := (acc.length : Int) }], by go_num, by rw [List.length_append]; go_num, by go_num, HL2.out, by simp; omega, by omega, (by first | exact HNX.out | exact HNX.out.imp id (fun h => ⟨rfl, h.2⟩))⟩
                  case measure => first | (simp [intOf]; done) | (simp [intOf]; omega)
    · have HD : Hid (R = .inl acc) := hD
      clear hD
      go_wp2_with fail
      refine bodyPost_ret (v := .tuple #[.slice oa acc.length ocap, .int .i64 0, .int .i64 0]) (by simp [results, Tryz.results14, go_sem]) rfl ?_
      exact ⟨fun ls hls => ⟨_, rfl, by have h9 := HD.out; rw [h9] at hls; cases hls; exact HL.out⟩, fun n hn => by have h9 := HD.out; rw [h9] at hn; cases hn⟩
end Go.Proofs.YtopankjjlapfbaaGreatDoor
