/-
  The document's Assemble and Mark, and the program's Mark, whatever the text, the base and the name.
  The law AsmAssembles: its walk.
-/
import Derived.Test.YtopankjjlapfbaaGreatDoorRfZ
namespace Go.Proofs.YtopankjjlapfbaaGreatDoor
open Go.RowKit
set_option linter.unusedVariables false
set_option maxRecDepth 100000

theorem MapIs.lookw {w : World} {b n : Nat} {M : ByteArray → Option Int} (h : MapIs w b n M) (s : ByteArray) (hs : s.size ≤ 9223372036854775807) :
    (Instr.lookup 38 (.map (some b)) (.string s) true).run Tryz.prog w = .ok (.tuple #[.int .i64 ((M s).getD 0), .bool (M s).isSome]) w := by
  obtain ⟨D, hown, _, hh, hs1, hs2⟩ := h
  obtain ⟨v, ps, hrun, hv⟩ := hown.look_ok law9 u38 (z := .int .i64 0) (by kernel_rfl) (show RV (.int .i64 0) = some (.held (.int .i64 0), []) from rfl) (Go.WideMaps.keyOf_string_mk Tryz.underlying9 (s := s) (by unfold maxLen; omega))
  rw [hrun, hh s]
  have hvv : v = .int .i64 ((M s).getD 0) := by
    cases hM : M s with
    | none =>
      rw [hs2 s _ hM] at hv
      simpa [RV] using (congrArg (Option.map Prod.fst) hv)
    | some x =>
      rw [hs1 s x _ hM] at hv
      simpa [RV] using (congrArg (Option.map Prod.fst) hv)
  rw [hvv]

theorem mark_w (text : ByteArray) (base : Int) (h0 : 0 ≤ base) (name : ByteArray) (hn : name.size ≤ 9223372036854775807) (w : World) (he : Errs w) (hl : Lies w) :
    Calls Tryz.prog 8 #[.string text, .int .u64 base, .string name] w fun e w' => e = .returned (.tuple #[.int .u64 (markA (buildO text base) base name).1, .bool (markA (buildO text base) base name).2]) ∧ Below w.heap.size w w' := by
  have CB := build_any text base h0 w he hl
  have hm := build_marks text base
  cases hB : buildO text base with
  | errno k =>
    rw [hB] at CB
    unfold markA
    clear hm
    go_enter Tryz.func8, Tryz.ntmps8
    go_wp2_with fail
    refine CB.mono ?_
    rintro e w1 ⟨hb1, hx⟩
    replace hx : e = .returned (.tuple #[.slice none 0 0, .map none, .iface 24 (.int .i64 k)]) := hx
    subst hx
    have HB := hid_mk hb1
    have hlk := look_nil name
    clear hb1
    go_wp2_with fail
    go_ret2
    exact ⟨rfl, HB.out⟩
  | fault n =>
    rw [hB] at CB
    unfold markA
    clear hm
    go_enter Tryz.func8, Tryz.ntmps8
    go_wp2_with fail
    refine CB.mono ?_
    rintro e w1 ⟨hb1, hx⟩
    replace hx : e = .returned (.tuple #[.slice none 0 0, .map none, .iface 77 (.agg #[.int .i64 n])]) := hx
    subst hx
    have HB := hid_mk hb1
    have hlk := look_nil name
    clear hb1
    go_wp2_with fail
    go_ret2
    exact ⟨rfl, HB.out⟩
  | ok out M =>
    rw [hB] at CB
    obtain ⟨hb4, hmr⟩ := hm out M hB
    cases hMn : M name with
    | none =>
      unfold markA
      simp only [hMn]
      go_enter Tryz.func8, Tryz.ntmps8
      go_wp2_with fail
      refine CB.mono ?_
      rintro e w1 ⟨hb1, hx⟩
      obtain ⟨v, mk, nm, rfl, hW, hMI⟩ := hx
      have hlk := hMI.lookw name hn
      rw [hMn] at hlk
      simp only [Option.isSome_none, Option.getD_none] at hlk
      have HB := hid_mk hb1
      clear hb1 hW hMI
      go_wp2_with fail
      go_ret2
      exact ⟨rfl, HB.out⟩
    | some a =>
      have har := hmr name a hMn
      unfold markA
      simp only [hMn]
      clear hmr
      go_enter Tryz.func8, Tryz.ntmps8
      go_wp2_with fail
      refine CB.mono ?_
      rintro e w1 ⟨hb1, hx⟩
      obtain ⟨v, mk, nm, rfl, hW, hMI⟩ := hx
      have hlk := hMI.lookw name hn
      rw [hMn] at hlk
      simp only [Option.isSome_some, Option.getD_some] at hlk
      have HB := hid_mk hb1
      clear hb1 hW hMI
      go_wp2_with fail
      go_ret2
      exact ⟨by rfl, HB.out⟩

theorem dasm_any (text : ByteArray) (base : Int) (h0 : 0 ≤ base) (w : World) :
    Calls Tryz.prog 7 #[.string text, .int .u64 base] w fun e w' => APost w (dbuildO text base) e w' := by
  by_cases hb : ¬ base % 4 = 0 ∨ 1099511627776 < base
  · have HB : Hid (dbuildO text base = .errno 2) := by show _ = _; unfold dbuildO; rw [if_pos hb]
    generalize dbuildO text base = B at *
    by_cases h4 : base % 4 = 0
    · have hb2 : 1099511627776 < base := by omega
      have e1 : (base % 4 == 0) = true := by simp [h4]
      go_enter Tryz.func7, Tryz.ntmps7
      go_wp2_with fail
      refine bodyPost_ret (v := .tuple #[.slice none 0 0, .int .i64 0, .int .i64 2]) (by simp [results, Tryz.results7, go_sem]) rfl ?_
      exact ap_errno HB.out (Below.refl _ _)
    · have e1 : (base % 4 == 0) = false := by rw [beq_eq_false_iff_ne]; exact h4
      go_enter Tryz.func7, Tryz.ntmps7
      go_wp2_with fail
      refine bodyPost_ret (v := .tuple #[.slice none 0 0, .int .i64 0, .int .i64 2]) (by simp [results, Tryz.results7, go_sem]) rfl ?_
      exact ap_errno HB.out (Below.refl _ _)
  · by_cases hs : 65536 < text.size
    · have HB : Hid (dbuildO text base = .errno 3) := by show _ = _; unfold dbuildO; rw [if_neg hb, if_pos hs]
      generalize dbuildO text base = B at *
      have h4 : base % 4 = 0 := by omega
      have h1 : base ≤ 1099511627776 := by omega
      have e1 : (base % 4 == 0) = true := by simp [h4]
      clear hb
      go_enter Tryz.func7, Tryz.ntmps7
      go_wp2_with fail
      refine bodyPost_ret (v := .tuple #[.slice none 0 0, .int .i64 0, .int .i64 3]) (by simp [results, Tryz.results7, go_sem]) rfl ?_
      exact ap_errno HB.out (Below.refl _ _)
    · exact dasm_main text base h0 (by omega) (by omega) (by omega) w

theorem dbuild_errno (text : ByteArray) (base k : Int) (h : dbuildO text base = .errno k) : k = 2 ∨ k = 3 := by
  unfold dbuildO at h
  split at h
  · cases h; exact Or.inl rfl
  · split at h
    · cases h; exact Or.inr rfl
    · split at h
      · cases h
      · split at h
        · cases h; exact Or.inr rfl
        · split at h <;> cases h
theorem dbuild_ok (text : ByteArray) (base : Int) (out : List Int) (M : ByteArray → Option Int) (h : dbuildO text base = .ok out M) :
    base ≤ 1099511627776 ∧ text.size ≤ 65536 ∧ ∃ ls, dlinesP (linesL text) [] = .inl ls ∧ M = findM ls := by
  unfold dbuildO at h
  split at h
  · cases h
  · rename_i hb
    split at h
    · cases h
    · rename_i hs
      refine ⟨by omega, by omega, ?_⟩
      split at h
      · cases h
      · rename_i ls hls
        split at h
        · cases h
        · split at h
          · cases h
          · cases h
            exact ⟨ls, hls, rfl⟩

set_option maxHeartbeats 1600000 in
theorem dmark_any (text : ByteArray) (base : Int) (h0 : 0 ≤ base) (name : ByteArray) (w : World) :
    Calls Tryz.prog 9 #[.string text, .int .u64 base, .string name] w fun e w' => e = .returned (.tuple #[.int .u64 (markA (dbuildO text base) base name).1, .bool (markA (dbuildO text base) base name).2]) ∧ Below w.heap.size w w' := by
  have CB := dasm_any text base h0 w
  have he := dbuild_errno text base
  have hok := dbuild_ok text base
  cases hB : dbuildO text base with
  | errno k =>
    rw [hB] at CB
    unfold markA
    have hk : (k == 0) = false := by rw [beq_eq_false_iff_ne]; have := he k hB; omega
    clear he hok hB
    go_enter Tryz.func9, Tryz.ntmps9
    go_wp2_with fail
    refine CB.mono ?_
    rintro e w1 ⟨hb1, hx⟩
    replace hx : e = .returned (.tuple #[.slice none 0 0, .int .i64 0, .int .i64 k]) := hx
    subst hx
    have HB := hid_mk hb1
    clear hb1 CB
    go_wp2_with fail
    go_ret2
    exact ⟨rfl, HB.out⟩
  | fault n =>
    rw [hB] at CB
    unfold markA
    clear he hok hB
    go_enter Tryz.func9, Tryz.ntmps9
    go_wp2_with fail
    refine CB.mono ?_
    rintro e w1 ⟨hb1, hx⟩
    replace hx : e = .returned (.tuple #[.slice none 0 0, .int .i64 n, .int .i64 10]) := hx
    subst hx
    have HB := hid_mk hb1
    clear hb1 CB
    go_wp2_with fail
    go_ret2
    exact ⟨rfl, HB.out⟩
  | ok out M =>
    rw [hB] at CB
    obtain ⟨hb4, hts, ls, hls, rfl⟩ := hok out M hB
    obtain ⟨hws, hll⟩ := lines_facts text hts ls hls
    have CL := fun W => dlines_any text hts W
    rw [hls] at CL
    have hle := findP_le ls name 0 hws (by omega)
    have CF := fun v W hW => dfind_any v ls name W hW (by omega) hws
    unfold markA
    simp only [findM]
    generalize findP ls name 0 = F at *
    clear he hok hB hls hws
    by_cases hF : F < 0
    · simp only [hF, if_true]
      go_enter Tryz.func9, Tryz.ntmps9
      go_wp2_with fail
      refine CB.mono ?_
      rintro e w1 ⟨hb1, hx⟩
      obtain ⟨v, rfl, hW⟩ := hx
      have HB := hid_mk hb1
      clear hb1 CB hW
      go_wp2_with fail
      refine (CL _).mono ?_
      rintro e w2 ⟨hx, _⟩
      obtain ⟨v2, rfl, hLR⟩ := hx ls rfl
      have HL := hid_mk hLR
      clear hx hLR CL
      go_wp2_with fail
      refine (CF _ _ HL.out.sl).mono ?_
      rintro e w3 ⟨rfl, rfl⟩
      clear CF
      go_wp2_with fail
      go_ret2
      exact ⟨rfl, HB.out.trans (HL.out.bel.mono HB.out.size)⟩
    · simp only [hF, if_false]
      have w1' : IntKind.u64.wrap F = F := by rw [IntKind.wrap_u64]; omega
      have w2' : IntKind.u64.wrap (4 * F) = 4 * F := by rw [IntKind.wrap_u64]; omega
      have w3' : IntKind.u64.wrap (base + 4 * F) = base + 4 * F := by rw [IntKind.wrap_u64]; omega
      go_enter Tryz.func9, Tryz.ntmps9
      go_wp2_with fail
      refine CB.mono ?_
      rintro e w1 ⟨hb1, hx⟩
      obtain ⟨v, rfl, hW⟩ := hx
      have HB := hid_mk hb1
      clear hb1 CB hW
      go_wp2_with fail
      refine (CL _).mono ?_
      rintro e w2 ⟨hx, _⟩
      obtain ⟨v2, rfl, hLR⟩ := hx ls rfl
      have HL := hid_mk hLR
      clear hx hLR CL
      go_wp2_with fail
      refine (CF _ _ HL.out.sl).mono ?_
      rintro e w3 ⟨rfl, rfl⟩
      clear CF
      go_wp2_with fail
      go_ret2
      exact ⟨rfl, HB.out.trans (HL.out.bel.mono HB.out.size)⟩
end Go.Proofs.YtopankjjlapfbaaGreatDoor
namespace Go.Proofs.YtopankjjlapfbaaGreatDoor
open Go.RowKit
set_option linter.unusedVariables false
set_option maxRecDepth 100000

theorem WR.cellsw {wS w : World} {v : Value} {out : List Int} (h : WR wS w v out) : ∃ a cap, v = .slice a out.length cap ∧ (out.length ≤ cap ∧ cap ≤ 9223372036854775807) ∧ (out.length = 0 ∨ ∃ g, a = some ⟨g, 0, none⟩ ∧ g < w.heap.size ∧ ∀ i, i < out.length → w.cell? ⟨g, i, none⟩ = some (.int .u32 (out.getD i 0))) := by
  have hr := h.row
  rcases hr.2 with ⟨rfl, hn⟩ | ⟨g, cap, cur, rfl, _, _, hn, hm, _⟩
  · exact ⟨none, 0, by rw [hn], by omega, .inl hn⟩
  · refine ⟨_, cap, rfl, ⟨hn, by unfold maxLen at hm; omega⟩, .inr ⟨g, rfl, (hr.lt g rfl).2, fun i hi => ?_⟩⟩
    rw [hr.cellAt i (by omega)]
    simp [List.getElem?_eq_getElem hi]

theorem law_names (w : World) : Calls Tryz.prog 10 #[] w fun e w' => e = .returned (.bool true) ∧ w' = w := by
  go_enter Tryz.func10, Tryz.ntmps10
  go_wp2
  go_ret
  exact ⟨rfl, rfl⟩

set_option maxHeartbeats 3200000 in
theorem assembles_walk (text : ByteArray) (base : Int) (name : ByteArray) (hb : (Lit.int .u64 base).wf = true) (hn : name.size ≤ 9223372036854775807) (w : World) (he : Errs w) (hl : Lies w) (hg : ErT w) :
    Calls Tryz.prog 3 #[.string text, .int .u64 base, .string name] w fun e w' => e = .returned (.bool true) ∧ Below w.heap.size w w' := by
  have hbr := bounds_u64 hb
  have hlt1 : 1 < w.heap.size := by have := he.big; omega
  have ET : ∀ {w' : World}, Below w.heap.size w w' → ErT w' := fun {w'} hb => by unfold ErT; rw [hb.cell (p := ⟨1, 0, none⟩) hlt1]; exact hg
  have C1 := assemble_any text base hbr.1 w he hl hg
  have C2 := fun y => dasm_any text base hbr.1 y
  have C3 := fun (y : World) (hy : Below w.heap.size w y) => mark_w text base hbr.1 name hn y (he.below hy) (hl.below hy)
  have C4 := fun y => dmark_any text base hbr.1 name y
  have C5 := law_names
  rw [build_tie] at C2 C4
  generalize buildO text base = B at *
  generalize (markA B base name).1 = m1 at *
  generalize (markA B base name).2 = m2 at *
  clear he hl hg ET hlt1
  cases B with
  | errno k =>
    go_enter Tryz.func3, Tryz.ntmps3
    go_wp2_with fail
    refine C1.mono ?_
    rintro e w1 ⟨hb1, hx⟩
    replace hx : e = .returned (.tuple #[.slice none 0 0, .int .i64 0, .int .i64 k]) := hx
    subst hx
    have HB1 := hid_mk hb1
    clear hb1 C1
    go_wp2_with fail
    refine (C2 _).mono ?_
    rintro e w2 ⟨hb2, hx⟩
    replace hx : e = .returned (.tuple #[.slice none 0 0, .int .i64 0, .int .i64 k]) := hx
    subst hx
    have HB2 := hid_mk (HB1.out.trans (hb2.mono HB1.out.size))
    clear hb2 C2 HB1
    go_wp2_with fail
    refine (C3 _ HB2.out).mono ?_
    rintro e w3 ⟨rfl, hb3⟩
    have HB3 := hid_mk (HB2.out.trans (hb3.mono HB2.out.size))
    clear hb3 C3 HB2
    go_wp2_with fail
    refine (C4 _).mono ?_
    rintro e w4 ⟨rfl, hb4⟩
    have HB4 := hid_mk (HB3.out.trans (hb4.mono HB3.out.size))
    clear hb4 C4 HB3
    go_wp2_with fail
    go_loop [17] (fun i => i = .int .i64 0) (fun _ => 0)
    case atStart => rfl
    case round =>
      obtain rfl := hrel
      go_wp2_with fail
      refine (C5 _).mono ?_
      rintro e w5 ⟨rfl, rfl⟩
      go_wp2_with fail
      go_ret
      exact ⟨rfl, HB4.out⟩
  | fault n =>
    go_enter Tryz.func3, Tryz.ntmps3
    go_wp2_with fail
    refine C1.mono ?_
    rintro e w1 ⟨hb1, hx⟩
    replace hx : e = .returned (.tuple #[.slice none 0 0, .int .i64 n, .int .i64 10]) := hx
    subst hx
    have HB1 := hid_mk hb1
    clear hb1 C1
    go_wp2_with fail
    refine (C2 _).mono ?_
    rintro e w2 ⟨hb2, hx⟩
    replace hx : e = .returned (.tuple #[.slice none 0 0, .int .i64 n, .int .i64 10]) := hx
    subst hx
    have HB2 := hid_mk (HB1.out.trans (hb2.mono HB1.out.size))
    clear hb2 C2 HB1
    go_wp2_with fail
    refine (C3 _ HB2.out).mono ?_
    rintro e w3 ⟨rfl, hb3⟩
    have HB3 := hid_mk (HB2.out.trans (hb3.mono HB2.out.size))
    clear hb3 C3 HB2
    go_wp2_with fail
    refine (C4 _).mono ?_
    rintro e w4 ⟨rfl, hb4⟩
    have HB4 := hid_mk (HB3.out.trans (hb4.mono HB3.out.size))
    clear hb4 C4 HB3
    go_wp2_with fail
    go_loop [17] (fun i => i = .int .i64 0) (fun _ => 0)
    case atStart => rfl
    case round =>
      obtain rfl := hrel
      go_wp2_with fail
      refine (C5 _).mono ?_
      rintro e w5 ⟨rfl, rfl⟩
      go_wp2_with fail
      go_ret
      exact ⟨rfl, HB4.out⟩
  | ok out M =>
    go_enter Tryz.func3, Tryz.ntmps3
    go_wp2_with fail
    refine C1.mono ?_
    rintro e w1 ⟨hb1, hx⟩
    obtain ⟨v1, rfl, hW1⟩ := hx
    have HB1 := hid_mk hb1
    have HW1 := hid_mk hW1
    obtain ⟨a1, q1, rfl⟩ := hW1.form
    clear hb1 C1 hW1
    go_wp2_with fail
    refine (C2 _).mono ?_
    rintro e w2 ⟨hb2, hx⟩
    obtain ⟨v2, rfl, hW2⟩ := hx
    have HB2 := hid_mk (HB1.out.trans (hb2.mono HB1.out.size))
    have HV1 := hid_mk (HW1.out.below hb2)
    have HV2 := hid_mk hW2
    obtain ⟨a2, q2, rfl⟩ := hW2.form
    clear hb2 C2 HB1 HW1 hW2
    go_wp2_with fail
    refine (C3 _ HB2.out).mono ?_
    rintro e w3 ⟨rfl, hb3⟩
    have HB3 := hid_mk (HB2.out.trans (hb3.mono HB2.out.size))
    have HU1 := hid_mk (HV1.out.below hb3)
    have HU2 := hid_mk (HV2.out.below hb3)
    clear hb3 C3 HB2 HV1 HV2
    go_wp2_with fail
    refine (C4 _).mono ?_
    rintro e w4 ⟨rfl, hb4⟩
    have HB4 := hid_mk (HB3.out.trans (hb4.mono HB3.out.size))
    have hX1 := (HU1.out.below hb4).cellsw
    have hX2 := (HU2.out.below hb4).cellsw
    obtain ⟨a1', q1', he1, ⟨hq1, hz1⟩, hc1⟩ := hX1
    obtain ⟨a2', q2', he2, ⟨hq2, hz2⟩, hc2⟩ := hX2
    obtain ⟨rfl, rfl⟩ : a1 = a1' ∧ q1 = q1' := by simpa using he1
    obtain ⟨rfl, rfl⟩ : a2 = a2' ∧ q2 = q2' := by simpa using he2
    have HC1 := hid_mk hc1
    have HC2 := hid_mk hc2
    clear hb4 C4 HB3 HU1 HU2 he1 he2 hc1 hc2
    go_wp2_with fail
    go_loopw [17] (fun i wq => ∃ k : Nat, k ≤ out.length ∧ i = .int .i64 k ∧ Below w4.heap.size w4 wq) (fun i _ => out.length - (intOf i).toNat)
    case atStart => exact ⟨0, by omega, rfl, Below.refl _ _⟩
    case round =>
      obtain ⟨k, hk, rfl, hbq⟩ := hrel
      have HBQ := hid_mk hbq
      by_cases hk2 : k < out.length
      · obtain ⟨g1, rfl, hg1, hd1⟩ := HC1.out.resolve_left (by omega)
        obtain ⟨g2, rfl, hg2, hd2⟩ := HC2.out.resolve_left (by omega)
        have c1 : wr.cell? ⟨g1, k, none⟩ = some (.int .u32 (out.getD k 0)) := (hbq.cell (p := ⟨g1, k, none⟩) hg1).trans (hd1 k hk2)
        have c2 : wr.cell? ⟨g2, k, none⟩ = some (.int .u32 (out.getD k 0)) := (hbq.cell (p := ⟨g2, k, none⟩) hg2).trans (hd2 k hk2)
        clear hbq hd1 hd2
        generalize out.getD k 0 = z at *
        go_wp2_with fail
        go_quiet (fail)
        go_wp2_with fail
        go_roundw
        case rel => exact ⟨k + 1, by omega, by go_num, below_drewN HBQ.out _⟩
        case measure => simp [intOf]; omega
      · obtain rfl : k = out.length := by omega
        clear hbq
        go_wp2_with fail
        refine (C5 _).mono ?_
        rintro e w5 ⟨rfl, rfl⟩
        go_wp2_with fail
        go_ret
        exact ⟨rfl, HB4.out.trans (HBQ.out.mono HB4.out.size)⟩
end Go.Proofs.YtopankjjlapfbaaGreatDoor
