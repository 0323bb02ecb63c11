/-
  An operation and its operands, read: the loop over the operands.
-/
import Derived.Test.YtopankjjlapfbaaGreatDoorInstrB
namespace Go.Proofs.YtopankjjlapfbaaGreatDoor
open Go.RowKit
set_option linter.unusedVariables false
set_option maxRecDepth 100000

theorem StAt.fld {w : World} {B : Nat} {s : St} (h : StAt w B s) (p : Int) : ∃ v, w.cell? ⟨B, 1 + fo p, none⟩ = some v := by
  unfold fo
  by_cases h0 : p = 0
  · rw [if_pos h0]; exact ⟨_, h.c2⟩
  · rw [if_neg h0]
    by_cases h1 : p = 1
    · rw [if_pos h1]; exact ⟨_, h.c3⟩
    · rw [if_neg h1]
      by_cases h2 : p = 2
      · rw [if_pos h2]; exact ⟨_, h.c4⟩
      · rw [if_neg h2]; exact ⟨_, h.c5⟩

set_option maxHeartbeats 6400000 in
theorem instr_some (op : Int) (ps : List Int) (os : List ByteArray) (blk off cap : Nat) (w : World) (hpn : ps ≠ []) (hl : os.length = ps.length) (hps : ps.length ≤ 3)
    (hlt : blk < w.heap.size) (hc : ∀ i, i < os.length → w.cell? ⟨blk, off + i, none⟩ = some (.string (os.getD i ⟨#[]⟩))) (hsz : ∀ o ∈ os, o.size ≤ 65536) (he : Errs w)
    (C1 : ∀ w, Calls Tryz.prog 19 #[.int .i64 op] w fun e w' => e = .returned (.slice (some ⟨w.heap.size, 0, none⟩) ps.length ps.length) ∧ w' = w.alloc (.cells (ps.map (Value.int .i64)).toArray 62)) :
    Calls Tryz.prog 75 #[.int .i64 op, .slice (some ⟨blk, off, none⟩) os.length cap] w fun e w' =>
      (∃ s', e = .returned (.tuple #[stV s', .bool (opdsO ⟨0, op, 0, 0, 0, 0, ⟨#[]⟩, 0, 1⟩ ps os).isSome]) ∧ ∀ s, opdsO ⟨0, op, 0, 0, 0, 0, ⟨#[]⟩, 0, 1⟩ ps os = some s → s' = s) ∧ Below w.heap.size w w' := by
  generalize hOO : opdsO ⟨0, op, 0, 0, 0, 0, ⟨#[]⟩, 0, 1⟩ ps os = O
  have HOO : Hid (opdsO ⟨0, op, 0, 0, 0, 0, ⟨#[]⟩, 0, 1⟩ ps os = O) := hOO
  clear hOO
  go_enter Tryz.func75, Tryz.ntmps75
  go_wp2_with fail
  go_step3
  go_wp2_with fail
  refine (C1 _).mono ?_
  rintro e w1 ⟨rfl, hw1⟩
  simp only [World.size_alloc] at *
  have hb1 : Below w.heap.size w w1 := by
    rw [hw1]
    exact ((Below.refl _ _).alloc (Nat.le_refl _) _).alloc (by simp) _
  have hz1 : w1.heap.size = w.heap.size + 2 := by rw [hw1]; simp
  have HP : Hid (∀ k, k < ps.length → w1.cell? ⟨w.heap.size + 1, k, none⟩ = some (.int .i64 (ps.getD k 0))) := fun k hk => by
    rw [hw1]
    have h := World.cell?_alloc_new (w.alloc (Obj.cells #[Value.int .i64 0, .int .i64 0, .int .i64 0, .int .i64 0, .int .i64 0, .int .i64 0, .string ⟨#[]⟩, .int .u32 0, .int .i64 0] 95)) ((ps.map (Value.int .i64)).toArray) 62 k
    simp only [World.size_alloc] at h
    rw [h]
    simp [hk, List.getD]
  have HN : Hid (Nine w1 w.heap.size) := by
    have hbl : w1.heap[w.heap.size]? = (w.alloc (Obj.cells #[Value.int .i64 0, .int .i64 0, .int .i64 0, .int .i64 0, .int .i64 0, .int .i64 0, .string ⟨#[]⟩, .int .u32 0, .int .i64 0] 95)).heap[w.heap.size]? := by
      rw [hw1]
      exact Below.heap_alloc _ _ _ (by simp)
    refine Nine.keep (w := w.alloc (Obj.cells #[Value.int .i64 0, .int .i64 0, .int .i64 0, .int .i64 0, .int .i64 0, .int .i64 0, .string ⟨#[]⟩, .int .u32 0, .int .i64 0] 95)) ?_ hbl (by omega)
    exact ⟨⟨_, by simp; rfl⟩, ⟨_, by simp; rfl⟩, ⟨_, by simp; rfl⟩, ⟨_, by simp; rfl⟩, ⟨_, by simp; rfl⟩, ⟨_, by simp; rfl⟩, ⟨_, by simp; rfl⟩, ⟨_, by simp; rfl⟩, ⟨_, by simp; rfl⟩, fun i => World.frozen?_alloc_new _ _ _ _, by simp⟩
  clear hw1 C1
  rw [hl]
  go_wp2_with fail
  go_step3
  go_wp2_with fail
  have HS0 : StAt (w1.alloc (Obj.cells #[Value.int .i64 0, .int .i64 op, .int .i64 0, .int .i64 0, .int .i64 0, .int .i64 0, .string ⟨#[]⟩, .int .u32 0, .int .i64 1] 95)) (w.heap.size + 2) ⟨0, op, 0, 0, 0, 0, ⟨#[]⟩, 0, 1⟩ := by
    rw [← hz1]
    exact ⟨by simp, by simp, by simp, by simp, by simp, by simp, by simp, by simp, by simp, fun i => World.frozen?_alloc_new _ _ _ _, by simp⟩
  have HB2 : Hid (Below w.heap.size w (w1.alloc (Obj.cells #[Value.int .i64 0, .int .i64 op, .int .i64 0, .int .i64 0, .int .i64 0, .int .i64 0, .string ⟨#[]⟩, .int .u32 0, .int .i64 1] 95))) := hb1.alloc hb1.size _
  have hba : Below w1.heap.size w1 (w1.alloc (Obj.cells #[Value.int .i64 0, .int .i64 op, .int .i64 0, .int .i64 0, .int .i64 0, .int .i64 0, .string ⟨#[]⟩, .int .u32 0, .int .i64 1] 95)) := (Below.refl _ _).alloc (Nat.le_refl _) _
  have HE2 : Hid (Errs (w1.alloc (Obj.cells #[Value.int .i64 0, .int .i64 op, .int .i64 0, .int .i64 0, .int .i64 0, .int .i64 0, .string ⟨#[]⟩, .int .u32 0, .int .i64 1] 95))) := he.below HB2.out
  have HP2 : Hid (∀ k, k < ps.length → (w1.alloc (Obj.cells #[Value.int .i64 0, .int .i64 op, .int .i64 0, .int .i64 0, .int .i64 0, .int .i64 0, .string ⟨#[]⟩, .int .u32 0, .int .i64 1] 95)).cell? ⟨w.heap.size + 1, k, none⟩ = some (.int .i64 (ps.getD k 0))) := fun k hk => by
    rw [hba.cell (p := ⟨w.heap.size + 1, k, none⟩) (by show w.heap.size + 1 < _; omega)]
    exact HP.out k hk
  have HN2 : Hid (Nine (w1.alloc (Obj.cells #[Value.int .i64 0, .int .i64 op, .int .i64 0, .int .i64 0, .int .i64 0, .int .i64 0, .string ⟨#[]⟩, .int .u32 0, .int .i64 1] 95)) w.heap.size) :=
    HN.out.keep (hba.block _ (by omega)) (by simp; omega)
  have HC2 : Hid (∀ i, i < ps.length → (w1.alloc (Obj.cells #[Value.int .i64 0, .int .i64 op, .int .i64 0, .int .i64 0, .int .i64 0, .int .i64 0, .string ⟨#[]⟩, .int .u32 0, .int .i64 1] 95)).cell? ⟨blk, off + i, none⟩ = some (.string (os.getD i ⟨#[]⟩))) := fun i hi => by
    rw [HB2.out.cell (p := ⟨blk, off + i, none⟩) hlt]
    exact hc i (by omega)
  have hz2 : (w1.alloc (Obj.cells #[Value.int .i64 0, .int .i64 op, .int .i64 0, .int .i64 0, .int .i64 0, .int .i64 0, .string ⟨#[]⟩, .int .u32 0, .int .i64 1] 95)).heap.size = w.heap.size + 3 := by simp; omega
  have HSZ : Hid (∀ i, i < ps.length → (os.getD i ⟨#[]⟩).size ≤ 65536) := fun i hi => by
    rw [List.getD_eq_getElem?_getD, List.getElem?_eq_getElem (by omega)]
    exact hsz _ (List.getElem_mem _)
  have HFULL : Hid (∀ s', opdsO ⟨0, op, 0, 0, 0, 0, ⟨#[]⟩, 0, 1⟩ (ps.take ps.length) (os.take ps.length) = some s' → O = some s') := fun s' h => by
    rw [List.take_length, ← hl, List.take_length] at h
    rw [← HOO.out]
    exact h
  have HST : Hid (∀ k, k < ps.length → opdsO ⟨0, op, 0, 0, 0, 0, ⟨#[]⟩, 0, 1⟩ (ps.take (k + 1)) (os.take (k + 1)) = match opdsO ⟨0, op, 0, 0, 0, 0, ⟨#[]⟩, 0, 1⟩ (ps.take k) (os.take k) with
      | some s' => opdO s' (ps.getD k 0) (os.getD k ⟨#[]⟩)
      | none => none) := fun k hk => by
    rw [List.take_succ_eq_append_getElem hk, List.take_succ_eq_append_getElem (show k < os.length by omega), opdsO_snoc _ _ _ _ _ (by simp; omega)]
    simp [List.getD, hk, show k < os.length by omega]
    cases opdsO ⟨0, op, 0, 0, 0, 0, ⟨#[]⟩, 0, 1⟩ (ps.take k) (os.take k) <;> rfl
  have HFAIL : Hid (∀ k, k < ps.length → ∀ s', opdsO ⟨0, op, 0, 0, 0, 0, ⟨#[]⟩, 0, 1⟩ (ps.take k) (os.take k) = some s' → opdO s' (ps.getD k 0) (os.getD k ⟨#[]⟩) = none → O = none) := fun k hk s' hs' h => by
    rw [← HOO.out]
    refine opdsO_none _ _ _ (k + 1) ?_
    rw [HST.out k hk, hs']
    exact h
  have HSTEP : Hid (∀ k, k < ps.length → ∀ s' s'', opdsO ⟨0, op, 0, 0, 0, 0, ⟨#[]⟩, 0, 1⟩ (ps.take k) (os.take k) = some s' → opdO s' (ps.getD k 0) (os.getD k ⟨#[]⟩) = some s'' → opdsO ⟨0, op, 0, 0, 0, 0, ⟨#[]⟩, 0, 1⟩ (ps.take (k + 1)) (os.take (k + 1)) = some s'') := fun k hk s' s'' hs' h => by
    rw [HST.out k hk, hs']
    exact h
  have HE : Hid (Errs w) := he
  clear HP HN hba hb1 hz1 hc hsz he HST HE2
  have HSA : Hid (StAt _ _ _) := HS0
  clear HS0
  generalize (w1.alloc (Obj.cells #[Value.int .i64 0, .int .i64 op, .int .i64 0, .int .i64 0, .int .i64 0, .int .i64 0, .string ⟨#[]⟩, .int .u32 0, .int .i64 1] 95)) = w2 at *
  have hnil : opdsO ⟨0, op, 0, 0, 0, 0, ⟨#[]⟩, 0, 1⟩ (ps.take 0) (os.take 0) = some ⟨0, op, 0, 0, 0, 0, ⟨#[]⟩, 0, 1⟩ := rfl
  generalize hs00 : (⟨0, op, 0, 0, 0, 0, ⟨#[]⟩, 0, 1⟩ : St) = s0 at *
  clear HOO
  generalize ps.length = L at *
  clear hs00
  go_loopw [8, 9, 25] (fun _ ok i wr => ∃ k s', k ≤ L ∧ i = .int .i64 (k : Nat) ∧ ok = .bool true ∧ opdsO s0 (ps.take k) (os.take k) = some s' ∧ StAt wr (w.heap.size + 2) s' ∧ w2.grownBy wr (some (w.heap.size + 2))) (fun _ _ i _ => L - (intOf i).toNat)
  case atStart => exact ⟨0, s0, by omega, rfl, rfl, hnil, HSA.out, ⟨rfl, rfl, rfl, Nat.le_refl _, fun _ _ _ => rfl⟩⟩
  case round =>
    obtain ⟨k, s', hk, rfl, rfl, hs', hS, hg⟩ := hrel
    by_cases hk2 : k < L
    · have hcp := HP2.out k hk2
      rw [← World.cell?_of_block (a := ⟨w.heap.size + 1, k, none⟩) (hg.block _ (by show w.heap.size + 1 < _; omega) (by simp))] at hcp
      have hco := HC2.out k hk2
      rw [← World.cell?_of_block (a := ⟨blk, off + k, none⟩) (hg.block _ (by show blk < _; omega) (by simp; omega))] at hco
      have hso := HSZ.out k hk2
      have HF : Hid (opdO s' (ps.getD k 0) (os.getD k ⟨#[]⟩) = none → O = none) := HFAIL.out k hk2 s' hs'
      have HG : Hid (∀ s'', opdO s' (ps.getD k 0) (os.getD k ⟨#[]⟩) = some s'' → opdsO s0 (ps.take (k + 1)) (os.take (k + 1)) = some s'') := fun s'' => HSTEP.out k hk2 s' s'' hs'
      have hBr : Below w.heap.size w wr := HB2.out.grown hg (by omega) (fun k hk => by cases hk; omega)
      have heR := HE.out.below hBr
      have hbl : blk < wr.heap.size := Nat.lt_of_lt_of_le hlt hBr.size
      clear hBr hs'
      generalize ps.getD k 0 = q at *
      generalize os.getD k ⟨#[]⟩ = o at *
      unfold opdO at HF HG
      by_cases q4 : q = 4
      · subst q4
        have CN := isName_any o hso wr heR
        cases hnb : nameB o with
        | true =>
          rw [hnb] at CN
          go_wp2_with fail
          refine CN.mono ?_
          rintro e w3 ⟨rfl, hb3⟩
          have hg3 : w2.grownBy w3 (some (w.heap.size + 2)) := grown_on hg hb3
          have hS3 : StAt w3 (w.heap.size + 2) s' := hS.below hb3
          have hco3 := hb3.cell (p := ⟨blk, off + k, none⟩) hbl
          rw [hco] at hco3
          have k6 := hS3.c6
          have hfz := hS3.fz
          have HNX : Hid (opdsO s0 (ps.take (k + 1)) (os.take (k + 1)) = some { s' with target := o }) := HG.out _ (by rw [hnb]; rfl)
          have HS4 : Hid (StAt (w3.setCell ⟨w.heap.size + 2, 6, none⟩ (.string o)) (w.heap.size + 2) { s' with target := o }) := hS3.aim o
          have HG4 : Hid (w2.grownBy (w3.setCell ⟨w.heap.size + 2, 6, none⟩ (.string o)) (some (w.heap.size + 2))) := grown_set hg3 _ _
          clear hS3 hg3 hb3 HF HG hS hg
          go_wp2_with fail
          go_roundw
          case rel => exact ⟨k + 1, _, by omega, by go_num, rfl, HNX.out, HS4.out, HG4.out⟩
          case measure => simp [intOf]; omega
        | false =>
          rw [hnb] at CN
          rw [if_pos rfl, if_neg (by rw [hnb]; decide)] at HF HG
          go_wp2_with fail
          refine CN.mono ?_
          rintro e w3 ⟨rfl, hb3⟩
          have hg3 : w2.grownBy w3 (some (w.heap.size + 2)) := grown_on hg hb3
          have hS3 : StAt w3 (w.heap.size + 2) s' := hS.below hb3
          have hco3 := hb3.cell (p := ⟨blk, off + k, none⟩) hbl
          rw [hco] at hco3
          have he3 := heR.below hb3
          clear hS hg hb3
          go_wp2_with fail
          refine (number_any o hso _ he3).mono ?_
          rintro e w4 ⟨⟨v, rfl, hv⟩, hb4⟩
          have hg4 : w2.grownBy w4 (some (w.heap.size + 2)) := grown_on hg3 hb4
          have hS4 : StAt w4 (w.heap.size + 2) s' := hS3.below hb4
          cases hx : numO o with
          | none =>
            rw [hx] at hv
            have hO : Hid (O = none) := HF.out (by rw [hx]; rfl)
            have hN := HN2.out.keep (w' := w4) (hg4.block _ (by omega) (by simp)) (by have := hg4.size; omega)
            have hBW : Hid (Below w.heap.size w w4) := HB2.out.grown hg4 (by omega) (fun k hk => by cases hk; omega)
            clear hg4 hv hb4 HF HG
            simp only [Option.isSome_none]
            obtain ⟨r0, hr0⟩ := hN.c0
            obtain ⟨r1, hr1⟩ := hN.c1
            obtain ⟨r2, hr2⟩ := hN.c2
            obtain ⟨r3, hr3⟩ := hN.c3
            obtain ⟨r4, hr4⟩ := hN.c4
            obtain ⟨r5, hr5⟩ := hN.c5
            obtain ⟨r6, hr6⟩ := hN.c6
            obtain ⟨r7, hr7⟩ := hN.c7
            obtain ⟨r8, hr8⟩ := hN.c8
            have hrf := hN.fz
            have k0 := hS4.c0
            have k1 := hS4.c1
            have k2 := hS4.c2
            have k3 := hS4.c3
            have k4 := hS4.c4
            have k5 := hS4.c5
            have k6 := hS4.c6
            have k7 := hS4.c7
            have k8 := hS4.c8
            clear hN hS4
            go_wp2_with fail
            rw [Exit.noGoto_ret]
            exact bodyPost_ret (v := .tuple #[stV s', .bool false]) (by simp [results, Tryz.results75, go_sem, hr0, hr1, hr2, hr3, hr4, hr5, hr6, hr7, hr8, stV, stC]) rfl
              ⟨⟨_, by rw [hO.out]; rfl, fun s hs => by rw [hO.out] at hs; cases hs⟩, below_set9 hBW.out (Nat.le_refl _) _ _ _ _ _ _ _ _ _⟩
          | some x =>
            rw [hx] at hv
            obtain rfl := hv x rfl
            have HNX : Hid (opdsO s0 (ps.take (k + 1)) (os.take (k + 1)) = some (putF s' 4 v)) := HG.out _ (by rw [hx]; rfl)
            obtain ⟨old, hold⟩ := hS4.fld 4
            have hfz := hS4.fz
            have HS4 : Hid (StAt (w4.setCell ⟨w.heap.size + 2, 1 + fo 4, none⟩ (.int .i64 v)) (w.heap.size + 2) (putF s' 4 v)) := hS4.put 4 v
            have HG4 : Hid (w2.grownBy (w4.setCell ⟨w.heap.size + 2, 1 + fo 4, none⟩ (.int .i64 v)) (some (w.heap.size + 2))) := grown_set hg4 _ _
            clear hS4 hg4 hb4 hv HF HG
            simp only [Option.isSome_some]
            go_wp2_with fail
            refine (of_at 4 (w.heap.size + 2) 1 _).mono ?_
            rintro e w5 ⟨rfl, rfl⟩
            go_wp2_with fail
            go_roundw
            case rel => exact ⟨k + 1, _, by omega, by go_num, rfl, HNX.out, HS4.out, HG4.out⟩
            case measure => simp [intOf]; omega
      · by_cases q3 : q = 3
        · subst q3
          rw [if_neg (by decide), if_pos rfl] at HF HG
          go_wp2_with fail
          refine (number_any o hso _ heR).mono ?_
          rintro e w4 ⟨⟨v, rfl, hv⟩, hb4⟩
          have hg4 : w2.grownBy w4 (some (w.heap.size + 2)) := grown_on hg hb4
          have hS4 : StAt w4 (w.heap.size + 2) s' := hS.below hb4
          cases hx : numO o with
          | none =>
            rw [hx] at hv
            have hO : Hid (O = none) := HF.out (by rw [hx]; rfl)
            have hN := HN2.out.keep (w' := w4) (hg4.block _ (by omega) (by simp)) (by have := hg4.size; omega)
            have hBW : Hid (Below w.heap.size w w4) := HB2.out.grown hg4 (by omega) (fun k hk => by cases hk; omega)
            clear hg4 hv hb4 HF HG
            simp only [Option.isSome_none]
            obtain ⟨r0, hr0⟩ := hN.c0
            obtain ⟨r1, hr1⟩ := hN.c1
            obtain ⟨r2, hr2⟩ := hN.c2
            obtain ⟨r3, hr3⟩ := hN.c3
            obtain ⟨r4, hr4⟩ := hN.c4
            obtain ⟨r5, hr5⟩ := hN.c5
            obtain ⟨r6, hr6⟩ := hN.c6
            obtain ⟨r7, hr7⟩ := hN.c7
            obtain ⟨r8, hr8⟩ := hN.c8
            have hrf := hN.fz
            have k0 := hS4.c0
            have k1 := hS4.c1
            have k2 := hS4.c2
            have k3 := hS4.c3
            have k4 := hS4.c4
            have k5 := hS4.c5
            have k6 := hS4.c6
            have k7 := hS4.c7
            have k8 := hS4.c8
            clear hN hS4
            go_wp2_with fail
            rw [Exit.noGoto_ret]
            exact bodyPost_ret (v := .tuple #[stV s', .bool false]) (by simp [results, Tryz.results75, go_sem, hr0, hr1, hr2, hr3, hr4, hr5, hr6, hr7, hr8, stV, stC]) rfl
              ⟨⟨_, by rw [hO.out]; rfl, fun s hs => by rw [hO.out] at hs; cases hs⟩, below_set9 hBW.out (Nat.le_refl _) _ _ _ _ _ _ _ _ _⟩
          | some x =>
            rw [hx] at hv
            obtain rfl := hv x rfl
            have HNX : Hid (opdsO s0 (ps.take (k + 1)) (os.take (k + 1)) = some (putF s' 3 v)) := HG.out _ (by rw [hx]; rfl)
            obtain ⟨old, hold⟩ := hS4.fld 3
            have hfz := hS4.fz
            have HS4 : Hid (StAt (w4.setCell ⟨w.heap.size + 2, 1 + fo 3, none⟩ (.int .i64 v)) (w.heap.size + 2) (putF s' 3 v)) := hS4.put 3 v
            have HG4 : Hid (w2.grownBy (w4.setCell ⟨w.heap.size + 2, 1 + fo 3, none⟩ (.int .i64 v)) (some (w.heap.size + 2))) := grown_set hg4 _ _
            clear hS4 hg4 hb4 hv HF HG
            simp only [Option.isSome_some]
            go_wp2_with fail
            refine (of_at 3 (w.heap.size + 2) 1 _).mono ?_
            rintro e w5 ⟨rfl, rfl⟩
            go_wp2_with fail
            go_roundw
            case rel => exact ⟨k + 1, _, by omega, by go_num, rfl, HNX.out, HS4.out, HG4.out⟩
            case measure => simp [intOf]; omega
        · rw [if_neg q4, if_neg q3] at HF HG
          go_wp2_with fail
          refine (register_any o hso _ heR).mono ?_
          rintro e w4 ⟨⟨v, rfl, hv⟩, hb4⟩
          have hg4 : w2.grownBy w4 (some (w.heap.size + 2)) := grown_on hg hb4
          have hS4 : StAt w4 (w.heap.size + 2) s' := hS.below hb4
          cases hx : regO o with
          | none =>
            rw [hx] at hv
            have hO : Hid (O = none) := HF.out (by rw [hx]; rfl)
            have hN := HN2.out.keep (w' := w4) (hg4.block _ (by omega) (by simp)) (by have := hg4.size; omega)
            have hBW : Hid (Below w.heap.size w w4) := HB2.out.grown hg4 (by omega) (fun k hk => by cases hk; omega)
            clear hg4 hv hb4 HF HG
            simp only [Option.isSome_none]
            obtain ⟨r0, hr0⟩ := hN.c0
            obtain ⟨r1, hr1⟩ := hN.c1
            obtain ⟨r2, hr2⟩ := hN.c2
            obtain ⟨r3, hr3⟩ := hN.c3
            obtain ⟨r4, hr4⟩ := hN.c4
            obtain ⟨r5, hr5⟩ := hN.c5
            obtain ⟨r6, hr6⟩ := hN.c6
            obtain ⟨r7, hr7⟩ := hN.c7
            obtain ⟨r8, hr8⟩ := hN.c8
            have hrf := hN.fz
            have k0 := hS4.c0
            have k1 := hS4.c1
            have k2 := hS4.c2
            have k3 := hS4.c3
            have k4 := hS4.c4
            have k5 := hS4.c5
            have k6 := hS4.c6
            have k7 := hS4.c7
            have k8 := hS4.c8
            clear hN hS4
            go_wp2_with fail
            rw [Exit.noGoto_ret]
            exact bodyPost_ret (v := .tuple #[stV s', .bool false]) (by simp [results, Tryz.results75, go_sem, hr0, hr1, hr2, hr3, hr4, hr5, hr6, hr7, hr8, stV, stC]) rfl
              ⟨⟨_, by rw [hO.out]; rfl, fun s hs => by rw [hO.out] at hs; cases hs⟩, below_set9 hBW.out (Nat.le_refl _) _ _ _ _ _ _ _ _ _⟩
          | some x =>
            rw [hx] at hv
            obtain rfl := hv x rfl
            have HNX : Hid (opdsO s0 (ps.take (k + 1)) (os.take (k + 1)) = some (putF s' q v)) := HG.out _ (by rw [hx]; rfl)
            obtain ⟨old, hold⟩ := hS4.fld q
            have hfz := hS4.fz
            have HS4 : Hid (StAt (w4.setCell ⟨w.heap.size + 2, 1 + fo q, none⟩ (.int .i64 v)) (w.heap.size + 2) (putF s' q v)) := hS4.put q v
            have HG4 : Hid (w2.grownBy (w4.setCell ⟨w.heap.size + 2, 1 + fo q, none⟩ (.int .i64 v)) (some (w.heap.size + 2))) := grown_set hg4 _ _
            clear hS4 hg4 hb4 hv HF HG
            simp only [Option.isSome_some]
            go_wp2_with fail
            refine (of_at q (w.heap.size + 2) 1 _).mono ?_
            rintro e w5 ⟨rfl, rfl⟩
            go_wp2_with fail
            go_roundw
            case rel => exact ⟨k + 1, _, by omega, by go_num, rfl, HNX.out, HS4.out, HG4.out⟩
            case measure => simp [intOf]; omega
    · obtain rfl : k = L := by omega
      have hO : Hid (O = some s') := HFULL.out s' hs'
      have hN := HN2.out.keep (w' := wr) (hg.block _ (by omega) (by simp)) (by have := hg.size; omega)
      have hBW : Hid (Below w.heap.size w wr) := HB2.out.grown hg (by omega) (fun k hk => by cases hk; omega)
      clear hg
      obtain ⟨r0, hr0⟩ := hN.c0
      obtain ⟨r1, hr1⟩ := hN.c1
      obtain ⟨r2, hr2⟩ := hN.c2
      obtain ⟨r3, hr3⟩ := hN.c3
      obtain ⟨r4, hr4⟩ := hN.c4
      obtain ⟨r5, hr5⟩ := hN.c5
      obtain ⟨r6, hr6⟩ := hN.c6
      obtain ⟨r7, hr7⟩ := hN.c7
      obtain ⟨r8, hr8⟩ := hN.c8
      have hrf := hN.fz
      have k0 := hS.c0
      have k1 := hS.c1
      have k2 := hS.c2
      have k3 := hS.c3
      have k4 := hS.c4
      have k5 := hS.c5
      have k6 := hS.c6
      have k7 := hS.c7
      have k8 := hS.c8
      clear hN hS
      go_wp2_with fail
      rw [Exit.noGoto_ret]
      exact bodyPost_ret (v := .tuple #[stV s', .bool true]) (by simp [results, Tryz.results75, go_sem, hr0, hr1, hr2, hr3, hr4, hr5, hr6, hr7, hr8, stV, stC]) rfl
        ⟨⟨_, by rw [hO.out]; rfl, fun s hs => by rw [hO.out] at hs; cases hs; rfl⟩, below_set9 hBW.out (Nat.le_refl _) _ _ _ _ _ _ _ _ _⟩
end Go.Proofs.YtopankjjlapfbaaGreatDoor
