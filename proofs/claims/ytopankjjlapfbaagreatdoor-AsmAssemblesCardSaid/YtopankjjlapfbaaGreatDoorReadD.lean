/-
  A line of a program, read, whatever it says.
-/
import Derived.Test.YtopankjjlapfbaaGreatDoorReadC
namespace Go.Proofs.YtopankjjlapfbaaGreatDoor
open Go.RowKit
set_option linter.unusedVariables false
set_option maxRecDepth 100000

theorem read_bad (w0 w : World) (PB mo mk nm : Nat) (OM M : ByteArray → Option Int) (sv : Value) (sts : List St) (len n : Int) (line hm : ByteArray) (os : List ByteArray) (hs : line.size ≤ 65536) (he : Errs w0) (hnm : nm < 1000000)
    (hws : wordsL line = hm :: os) (hsf : Lib.hasSuffix hm.data.toList [58] = true) (hok : ((M (markN hm)).isNone && nameB (markN hm)) = false) (hmz : hm.size ≤ 65536)
    (hp : PW w0 w PB mo mk nm OM M sv sts len) :
    Calls Tryz.prog 24 #[.pointer (some ⟨PB, 0, none⟩), .int .i64 n, .string line] w fun e w' => e = .returned (.iface 77 (.agg #[.int .i64 n])) ∧ Below w0.heap.size w0 w' := by
  have C1 := split_any line hs w (he.below hp.bel)
  rw [hws] at C1
  have hL0 : (hm :: os).length = os.length + 1 := rfl
  generalize hLL : (hm :: os).length = L9 at *
  have hKi : (0 : Int) < (L9 : Int) := by omega
  have hKi3 : decide ((0 : Int) < (L9 : Int)) = true := by simp; omega
  have CS := Tryz.strings_HasSuffix hm ⟨#[58]⟩
  rw [show (⟨#[58]⟩ : ByteArray).data.toList = [58] from rfl, hsf] at CS
  have CT := Tryz.strings_TrimSuffix hm ⟨#[58]⟩
  rw [show (⟨#[58]⟩ : ByteArray).data.toList = [58] from rfl, show (⟨(Lib.trimSuffix hm.data.toList [58]).toArray⟩ : ByteArray) = markN hm from rfl] at CT
  have hnz : (markN hm).size ≤ 65536 := by
    show (Lib.trimSuffix hm.data.toList [58]).toArray.size ≤ _
    have h2 : hm.data.toList.length = hm.size := by rw [Array.length_toList]; rfl
    unfold Lib.trimSuffix
    split <;> simp <;> omega
  have CM := fun W (hW : PW w0 W PB mo mk nm OM M sv sts len) => mark_any w0 W PB mo mk nm OM M sv sts len (markN hm) hnz he hnm hW
  rw [hok] at CM
  generalize markN hm = nmk at *
  clear hws hsf hL0 hLL hok
  go_enter Tryz.func24, Tryz.ntmps24
  go_wp2_with fail
  refine C1.mono ?_
  rintro e w1 ⟨⟨A, rfl, hA, hAw, hc⟩, hb1⟩
  have hp1 := hp.below hb1
  have hc0 : w1.cell? ⟨A, 0, none⟩ = some (.string hm) := hc 0 (by omega)
  have HP0 : Hid (PW w0 w1 PB mo mk nm OM M sv sts len) := hp1
  have HB1 : Hid (Below w.heap.size w w1) := hb1
  clear hp hp1 hc hb1 C1
  go_wp2_with fail
  refine (CS _ (by omega)).mono ?_
  rintro e w2 ⟨rfl, rfl⟩
  go_wp2_with fail
  refine (CT _ (by omega)).mono ?_
  rintro e w3 ⟨rfl, rfl⟩
  go_wp2_with fail
  refine (CM _ HP0.out).mono ?_
  rintro e w2 ⟨rfl, hp2, hg2⟩
  have HB : Hid (Below w0.heap.size w0 w2) := hp2.bel
  clear hp2 hg2
  go_wp2_with fail
  go_ret
  exact ⟨rfl, HB.out⟩

theorem read_only (w0 w : World) (PB mo mk nm : Nat) (OM M : ByteArray → Option Int) (sv : Value) (sts : List St) (len n : Int) (line hm : ByteArray) (hs : line.size ≤ 65536) (he : Errs w0) (hnm : nm < 1000000)
    (hws : wordsL line = [hm]) (hsf : Lib.hasSuffix hm.data.toList [58] = true) (hok : ((M (markN hm)).isNone && nameB (markN hm)) = true) (hmz : hm.size ≤ 65536)
    (hp : PW w0 w PB mo mk nm OM M sv sts len) :
    Calls Tryz.prog 24 #[.pointer (some ⟨PB, 0, none⟩), .int .i64 n, .string line] w fun e w' => e = .returned .nilIface ∧ PW w0 w' PB mo mk (nm + 1) OM (putM M (markN hm) len) sv sts len ∧ Fr w w' PB mk sv sv := by
  have C1 := split_any line hs w (he.below hp.bel)
  rw [hws] at C1
  have CS := Tryz.strings_HasSuffix hm ⟨#[58]⟩
  rw [show (⟨#[58]⟩ : ByteArray).data.toList = [58] from rfl, hsf] at CS
  have CT := Tryz.strings_TrimSuffix hm ⟨#[58]⟩
  rw [show (⟨#[58]⟩ : ByteArray).data.toList = [58] from rfl, show (⟨(Lib.trimSuffix hm.data.toList [58]).toArray⟩ : ByteArray) = markN hm from rfl] at CT
  have hnz : (markN hm).size ≤ 65536 := by
    show (Lib.trimSuffix hm.data.toList [58]).toArray.size ≤ _
    have h2 : hm.data.toList.length = hm.size := by rw [Array.length_toList]; rfl
    unfold Lib.trimSuffix
    split <;> simp <;> omega
  have CM := fun W (hW : PW w0 W PB mo mk nm OM M sv sts len) => mark_any w0 W PB mo mk nm OM M sv sts len (markN hm) hnz he hnm hW
  rw [hok, if_pos rfl] at CM
  generalize putM M (markN hm) len = M' at *
  generalize markN hm = nmk at *
  simp only [List.length_cons, List.length_nil, Nat.zero_add] at C1
  clear hws hsf hok
  go_enter Tryz.func24, Tryz.ntmps24
  go_wp2_with fail
  refine C1.mono ?_
  rintro e w1 ⟨⟨A, rfl, hA, hAw, hc⟩, hb1⟩
  have hp1 := hp.below hb1
  have hc0 : w1.cell? ⟨A, 0, none⟩ = some (.string hm) := hc 0 (by omega)
  have hsl9 : ∀ W, (Instr.sliceAt 71 (.slice (some ⟨A, 0, none⟩) 1 1) (some (.int .i64 1)) none none).run Tryz.prog W = .ok (.slice (some ⟨A, 0, none⟩) 0 0) W := fun W => tail_run A 0 1 (by omega) W
  have HP0 : Hid (PW w0 w1 PB mo mk nm OM M sv sts len) := hp1
  have HB1 : Hid (Below w.heap.size w w1) := hb1
  clear hp hp1 hc hb1 C1
  go_wp2_with fail
  refine (CS _ (by omega)).mono ?_
  rintro e w2 ⟨rfl, rfl⟩
  go_wp2_with fail
  refine (CT _ (by omega)).mono ?_
  rintro e w3 ⟨rfl, rfl⟩
  go_wp2_with fail
  refine (CM _ HP0.out).mono ?_
  rintro e w2 ⟨rfl, hp2, hg2⟩
  have HB : Hid (PW w0 w2 PB mo mk (nm + 1) OM M' sv sts len) := hp2
  have HFr : Hid (Fr w w2 PB mk sv sv) := ⟨fun b q1 _ q3 _ => (hg2.block b (Nat.lt_of_lt_of_le q1 HB1.out.size) (by simpa using q3)).trans (HB1.out.block b q1), Nat.le_trans HB1.out.size hg2.size, fun b q => Or.inl q⟩
  clear hp2 hg2
  go_wp2_with fail
  go_ret
  exact ⟨rfl, HB.out, HFr.out⟩

theorem words_size (line : ByteArray) (hs : line.size ≤ 65536) : ∀ o ∈ wordsL line, o.size ≤ 65536 := by
  intro o ho
  unfold wordsL Lib.goFieldsP at ho
  obtain ⟨x, _, rfl⟩ := List.mem_map.1 ho
  have h1 : (saidS line).size ≤ 65536 := by
    show (Lib.cut line.data.toList [35]).1.toArray.size ≤ _
    have h2 : line.data.toList.length = line.size := by rw [Array.length_toList]; rfl
    unfold Lib.cut
    split <;> simp <;> omega
  rw [ByteArray.size_extract]
  omega

theorem opdsO_count : ∀ (s : St) (ps : List Int) (os : List ByteArray) (t : St), opdsO s ps os = some t → t.count = s.count
  | s, [], os, t, h => by cases os <;> (simp [opdsO] at h; rw [← h])
  | s, p :: ps, [], t, h => by simp [opdsO] at h; rw [← h]
  | s, p :: ps, o :: os, t, h => by
    simp only [opdsO] at h
    cases hs : opdO s p o with
    | none => rw [hs] at h; cases h
    | some s' =>
      rw [hs] at h
      have h1 := opdsO_count s' ps os t h
      rw [h1]
      have hp : ∀ q v, (putF s q v).count = s.count := fun q v => by
        unfold putF
        repeat' split
        all_goals rfl
      unfold opdO at hs
      split at hs
      · split at hs
        · cases hs; rfl
        · obtain ⟨v, _, rfl⟩ := Option.map_eq_some_iff.1 hs; exact hp _ _
      · split at hs
        · obtain ⟨v, _, rfl⟩ := Option.map_eq_some_iff.1 hs; exact hp _ _
        · obtain ⟨v, _, rfl⟩ := Option.map_eq_some_iff.1 hs; exact hp _ _
theorem stmtO_count (OM : ByteArray → Option Int) (h : ByteArray) (os : List ByteArray) (s : St) (hs : stmtO OM h os = some s) : 0 ≤ s.count ∧ s.count ≤ 4096 := by
  unfold stmtO at hs
  split at hs
  · obtain ⟨v, _, rfl⟩ := Option.map_eq_some_iff.1 hs
    exact ⟨(by show (0 : Int) ≤ 1; decide), (by show (1 : Int) ≤ 4096; decide)⟩
  · split at hs
    · obtain ⟨v, hv, rfl⟩ := Option.map_eq_some_iff.1 hs
      unfold withinO at hv
      split at hv
      · split at hv
        · split at hv
          · rename_i hq
            cases hv
            exact hq
          · cases hv
        · cases hv
      · cases hv
    · split at hs
      · unfold instrO at hs
        split at hs
        · rw [opdsO_count _ _ _ _ hs]
          exact ⟨(by show (0 : Int) ≤ 1; decide), (by show (1 : Int) ≤ 4096; decide)⟩
        · cases hs
      · cases hs

theorem read_any (w0 w : World) (PB mo mk nm : Nat) (OM : ByteArray → Option Int) (S : PSt) (sv : Value) (n : Int) (line : ByteArray) (hs : line.size ≤ 65536) (he : Errs w0) (hnm : nm < 1000000)
    (hst : S.sts.length < 100000) (hlen : 0 ≤ S.len ∧ S.len ≤ 1000000000) (hp : PW w0 w PB mo mk nm OM S.M sv S.sts S.len) :
    Calls Tryz.prog 24 #[.pointer (some ⟨PB, 0, none⟩), .int .i64 n, .string line] w fun e w' =>
      match readP OM n S (wordsL line) with
      | some S' => e = .returned .nilIface ∧ ∃ sv' nm', nm' ≤ nm + 1 ∧ PW w0 w' PB mo mk nm' OM S'.M sv' S'.sts S'.len ∧ Fr w w' PB mk sv sv'
      | none => e = .returned (.iface 77 (.agg #[.int .i64 n])) ∧ Below w0.heap.size w0 w' := by
  have hsz := words_size line hs
  obtain ⟨M, sts, len⟩ := S
  cases hws : wordsL line with
  | nil =>
    refine (read_none w0 w PB mo mk nm OM M sv sts len n line hs he hws hp).mono ?_
    rintro e w' ⟨rfl, h, hf⟩
    exact ⟨rfl, sv, nm, by omega, h, hf⟩
  | cons h os =>
    rw [hws] at hsz
    cases hsf : Lib.hasSuffix h.data.toList [58] with
    | false =>
      have hR : readP OM n ⟨M, sts, len⟩ (h :: os) = match stmtO OM h os with
          | some s => some ⟨M, sts ++ [{ s with line := n }], len + s.count⟩
          | none => none := by
        unfold readP markP
        simp only [hsf, Bool.false_eq_true, if_false]
        rfl
      rw [hR]
      refine (read_plain w0 w PB mo mk nm OM M sv sts len n line h os hs he hst hws hsf hsz hlen (fun s hs => stmtO_count OM h os s hs) hp).mono ?_
      intro e w' hq
      cases hO : stmtO OM h os with
      | none => rw [hO] at hq; exact hq
      | some s =>
        rw [hO] at hq
        obtain ⟨rfl, sv', hq⟩ := hq
        exact ⟨rfl, sv', nm, by omega, hq⟩
    | true =>
      cases hok : ((M (markN h)).isNone && nameB (markN h)) with
      | false =>
        have hR : readP OM n ⟨M, sts, len⟩ (h :: os) = none := by
          unfold readP markP
          simp only [hsf, hok, if_true, Bool.false_eq_true, if_false]
        rw [hR]
        exact read_bad w0 w PB mo mk nm OM M sv sts len n line h os hs he hnm hws hsf hok (hsz h (by simp)) hp
      | true =>
        cases os with
        | nil =>
          have hR : readP OM n ⟨M, sts, len⟩ [h] = some ⟨putM M (markN h) len, sts, len⟩ := by
            unfold readP markP
            simp only [hsf, hok, if_true]
            rfl
          rw [hR]
          refine (read_only w0 w PB mo mk nm OM M sv sts len n line h hs he hnm hws hsf hok (hsz h (by simp)) hp).mono ?_
          rintro e w' ⟨rfl, hq, hf⟩
          exact ⟨rfl, sv, nm + 1, by omega, hq, hf⟩
        | cons g os =>
          have hR : readP OM n ⟨M, sts, len⟩ (h :: g :: os) = match stmtO OM g os with
              | some s => some ⟨putM M (markN h) len, sts ++ [{ s with line := n }], len + s.count⟩
              | none => none := by
            unfold readP markP
            simp only [hsf, hok, if_true]
            rfl
          rw [hR]
          refine (read_marked w0 w PB mo mk nm OM M sv sts len n line h g os hs he hnm hst hws hsf hok hsz hlen (fun s hs => stmtO_count OM g os s hs) hp).mono ?_
          intro e w' hq
          cases hO : stmtO OM g os with
          | none => rw [hO] at hq; exact hq
          | some s =>
            rw [hO] at hq
            obtain ⟨rfl, sv', hq⟩ := hq
            exact ⟨rfl, sv', nm + 1, by omega, hq⟩
end Go.Proofs.YtopankjjlapfbaaGreatDoor
