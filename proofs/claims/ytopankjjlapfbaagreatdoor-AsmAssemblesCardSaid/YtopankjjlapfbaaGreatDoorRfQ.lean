/-
  The document's operands.
  What the document reads of a line, in plain terms; facts on a line's words.
-/
import Derived.Test.YtopankjjlapfbaaGreatDoorRfL
namespace Go.Proofs.YtopankjjlapfbaaGreatDoor
open Go.RowKit
set_option linter.unusedVariables false
set_option maxRecDepth 100000

theorem ordS_size (op : Int) : (ordS op).size = (plcL op).length := by
  show ((plcL op).map chr).toArray.size = _
  simp
theorem ordS_byte (op : Int) (k : Nat) (hk : k < (plcL op).length) : bsA (ordS op) k = (((chr ((plcL op).getD k 0)).toNat : Nat) : Int) := by
  refine byte_of _ k _ ?_
  unfold ordS
  simp [hk, List.getD]
theorem plc_in (op : Int) : plcL op = [0, 1] ∨ plcL op = [0, 3, 1] ∨ plcL op = [0, 3] ∨ plcL op = [0, 1, 2] ∨ plcL op = [0, 1, 3] ∨ plcL op = [2, 3, 1] ∨ plcL op = [1, 2, 4] ∨ plcL op = [0, 4] ∨ plcL op = [1] ∨ plcL op = [] := by
  unfold plcL
  repeat' split
  all_goals simp
theorem plc_at (op : Int) (k : Nat) (hk : k < (plcL op).length) : (plcL op).getD k 0 = 0 ∨ (plcL op).getD k 0 = 1 ∨ (plcL op).getD k 0 = 2 ∨ (plcL op).getD k 0 = 3 ∨ ((plcL op).getD k 0 = 4 ∧ ∀ p ∈ (plcL op).take k, p = 0 ∨ p = 1 ∨ p = 2) := by
  rcases plc_in op with h | h | h | h | h | h | h | h | h | h <;> rw [h] at hk ⊢
  all_goals
    match k, hk with
    | 0, _ => simp
    | 1, hk => first | (simp at hk; done) | simp
    | 2, hk => first | (simp at hk; done) | simp
    | n + 3, hk => (simp at hk) <;> omega

set_option maxHeartbeats 6400000 in
theorem dops_no (op : Int) (v : Value) (os : List ByteArray) (w : World) (hv : SlC w v os) (hl : os.length ≠ (plcL op).length) :
    Calls Tryz.prog 51 #[.int .i64 op, v] w fun e w' => (∃ l, e = .returned (.tuple #[lnV l, .bool false])) ∧ Below w.heap.size w w' := by
  obtain ⟨a, cap, rfl, hcap, _⟩ := hv
  have CO := order_any op
  have hne : ((os.length : Int) == ((ordS op).size : Int)) = false := by rw [beq_eq_false_iff_ne, ordS_size]; omega
  generalize ordS op = S at *
  generalize os.length = L at *
  clear hl
  go_enter Tryz.func51, Tryz.ntmps51
  go_wp2_with fail
  refine (CO _).mono ?_
  rintro e w1 ⟨rfl, rfl⟩
  go_wp2_with fail
  exact bodyPost_ret (v := .tuple #[lnV (lnS ⟨0, op, 0, 0, 0, 0, ⟨#[]⟩, 0, 1⟩), .bool false]) (by simp [results, Tryz.results51, go_sem, lnV, lnC, lnS]) rfl
    ⟨⟨_, rfl⟩, ((Below.refl _ _).alloc (Nat.le_refl _) _).alloc (by simp) _⟩

theorem reg_range (o : ByteArray) (v : Int) (h : regO o = some v) : 0 ≤ v ∧ v ≤ 15 := by
  unfold regO at h
  split at h
  · split at h
    · split at h
      · cases h; assumption
      · cases h
    · cases h
  · cases h

set_option maxHeartbeats 12800000 in
theorem dops_some (op : Int) (ps : List Int) (os : List ByteArray) (a : Option Addr) (cap : Nat) (w : World) (hl : os.length = ps.length) (hcap : os.length ≤ cap)
    (hv : os ≠ [] → ∃ blk off, a = some ⟨blk, off, none⟩ ∧ blk < w.heap.size ∧ ∀ i, i < os.length → w.cell? ⟨blk, off + i, none⟩ = some (.string (os.getD i ⟨#[]⟩))) (hsz : ∀ o ∈ os, o.size ≤ 65536)
    (S : ByteArray) (CO : ∀ w, Calls Tryz.prog 82 #[.int .i64 op] w fun e w' => e = .returned (.string S) ∧ w' = w) (hS0 : S.size = ps.length)
    (hSB : ∀ k, k < ps.length → bsA S k = (((chr (ps.getD k 0)).toNat : Nat) : Int))
    (hPA : ∀ k, k < ps.length → ps.getD k 0 = 0 ∨ ps.getD k 0 = 1 ∨ ps.getD k 0 = 2 ∨ ps.getD k 0 = 3 ∨ (ps.getD k 0 = 4 ∧ ∀ p ∈ ps.take k, p = 0 ∨ p = 1 ∨ p = 2)) (hp3 : ps.length ≤ 3) :
    Calls Tryz.prog 51 #[.int .i64 op, .slice a os.length cap] w fun e w' =>
      (∃ l, e = .returned (.tuple #[lnV l, .bool (opdsO ⟨0, op, 0, 0, 0, 0, ⟨#[]⟩, 0, 1⟩ ps os).isSome]) ∧ ∀ s, opdsO ⟨0, op, 0, 0, 0, 0, ⟨#[]⟩, 0, 1⟩ ps os = some s → l = lnS s) ∧ Below w.heap.size w w' := by
  generalize hOO : opdsO ⟨0, op, 0, 0, 0, 0, ⟨#[]⟩, 0, 1⟩ ps os = O
  have HOO : Hid (opdsO ⟨0, op, 0, 0, 0, 0, ⟨#[]⟩, 0, 1⟩ ps os = O) := hOO
  clear hOO
  have hSZ0 := byte_at S
  have HZ : Hid (∀ k (h : k < S.size), ((S[k].toNat : Nat) : Int) = bsA S k) := hSZ0
  clear hSZ0
  have hqe : ((os.length : Int) == (S.size : Int)) = true := by rw [beq_iff_eq]; omega
  rw [hl] at hqe hcap ⊢
  go_enter Tryz.func51, Tryz.ntmps51
  go_wp2_with fail
  refine (CO _).mono ?_
  rintro e w1 ⟨rfl, rfl⟩
  go_wp2_with fail
  have HS0 : Hid (LnAt ((w.alloc (Obj.cells (lnC ln0).toArray 51)).alloc (Obj.cells (lnC (lnS ⟨0, op, 0, 0, 0, 0, ⟨#[]⟩, 0, 1⟩)).toArray 51)) (w.heap.size + 1) (lnS ⟨0, op, 0, 0, 0, 0, ⟨#[]⟩, 0, 1⟩)) := by
    have h := LnAt.new (w.alloc (Obj.cells (lnC ln0).toArray 51)) (lnS ⟨0, op, 0, 0, 0, 0, ⟨#[]⟩, 0, 1⟩)
    show LnAt _ _ _
    simpa using h
  have hba : Below (w.alloc (Obj.cells (lnC ln0).toArray 51)).heap.size (w.alloc (Obj.cells (lnC ln0).toArray 51)) ((w.alloc (Obj.cells (lnC ln0).toArray 51)).alloc (Obj.cells (lnC (lnS ⟨0, op, 0, 0, 0, 0, ⟨#[]⟩, 0, 1⟩)).toArray 51)) := (Below.refl _ _).alloc (Nat.le_refl _) _
  have HN : Hid (LnAt ((w.alloc (Obj.cells (lnC ln0).toArray 51)).alloc (Obj.cells (lnC (lnS ⟨0, op, 0, 0, 0, 0, ⟨#[]⟩, 0, 1⟩)).toArray 51)) w.heap.size ln0) := (LnAt.new w ln0).below hba
  have HB2 : Hid (Below w.heap.size w ((w.alloc (Obj.cells (lnC ln0).toArray 51)).alloc (Obj.cells (lnC (lnS ⟨0, op, 0, 0, 0, 0, ⟨#[]⟩, 0, 1⟩)).toArray 51))) := ((Below.refl _ _).alloc (Nat.le_refl _) _).alloc (by simp) _
  have hz2 : ((w.alloc (Obj.cells (lnC ln0).toArray 51)).alloc (Obj.cells (lnC (lnS ⟨0, op, 0, 0, 0, 0, ⟨#[]⟩, 0, 1⟩)).toArray 51)).heap.size = w.heap.size + 2 := by simp
  have HC : Hid (0 < ps.length → ∃ blk off, a = some ⟨blk, off, none⟩ ∧ blk < w.heap.size ∧ ∀ i, i < ps.length → ((w.alloc (Obj.cells (lnC ln0).toArray 51)).alloc (Obj.cells (lnC (lnS ⟨0, op, 0, 0, 0, 0, ⟨#[]⟩, 0, 1⟩)).toArray 51)).cell? ⟨blk, off + i, none⟩ = some (.string (os.getD i ⟨#[]⟩))) := fun h0 => by
    obtain ⟨blk, off, rfl, hlt, hc⟩ := hv (fun e => by rw [e] at hl; simp at hl; omega)
    exact ⟨blk, off, rfl, hlt, fun i hi => by rw [HB2.out.cell (p := ⟨blk, off + i, none⟩) hlt]; exact hc i (by omega)⟩
  have HSZ : Hid (∀ i, i < ps.length → (os.getD i ⟨#[]⟩).size ≤ 65536) := fun i hi => by
    rw [List.getD_eq_getElem?_getD, List.getElem?_eq_getElem (by omega)]
    exact hsz _ (List.getElem_mem _)
  have HFULL : Hid (∀ s', opdsO ⟨0, op, 0, 0, 0, 0, ⟨#[]⟩, 0, 1⟩ (ps.take ps.length) (os.take ps.length) = some s' → O = some s') := fun s' h => by
    rw [List.take_length, ← hl, List.take_length] at h
    rw [← HOO.out]
    exact h
  have HST : Hid (∀ k, k < ps.length → opdsO ⟨0, op, 0, 0, 0, 0, ⟨#[]⟩, 0, 1⟩ (ps.take (k + 1)) (os.take (k + 1)) = match opdsO ⟨0, op, 0, 0, 0, 0, ⟨#[]⟩, 0, 1⟩ (ps.take k) (os.take k) with
      | some s' => opdO s' (ps.getD k 0) (os.getD k ⟨#[]⟩)
      | none => none) := fun k hk => by
    rw [List.take_succ_eq_append_getElem hk, List.take_succ_eq_append_getElem (show k < os.length by omega), opdsO_snoc _ _ _ _ _ (by simp; omega)]
    simp [List.getD, hk, show k < os.length by omega]
    cases opdsO ⟨0, op, 0, 0, 0, 0, ⟨#[]⟩, 0, 1⟩ (ps.take k) (os.take k) <;> rfl
  have HFAIL : Hid (∀ k, k < ps.length → ∀ s', opdsO ⟨0, op, 0, 0, 0, 0, ⟨#[]⟩, 0, 1⟩ (ps.take k) (os.take k) = some s' → opdO s' (ps.getD k 0) (os.getD k ⟨#[]⟩) = none → O = none) := fun k hk s' hs' h => by
    rw [← HOO.out]
    refine opdsO_none _ _ _ (k + 1) ?_
    rw [HST.out k hk, hs']
    exact h
  have HSTEP : Hid (∀ k, k < ps.length → ∀ s' s'', opdsO ⟨0, op, 0, 0, 0, 0, ⟨#[]⟩, 0, 1⟩ (ps.take k) (os.take k) = some s' → opdO s' (ps.getD k 0) (os.getD k ⟨#[]⟩) = some s'' → opdsO ⟨0, op, 0, 0, 0, 0, ⟨#[]⟩, 0, 1⟩ (ps.take (k + 1)) (os.take (k + 1)) = some s'') := fun k hk s' s'' hs' h => by
    rw [HST.out k hk, hs']
    exact h
  have HIM : Hid (∀ k s', (∀ p ∈ ps.take k, p = 0 ∨ p = 1 ∨ p = 2) → opdsO ⟨0, op, 0, 0, 0, 0, ⟨#[]⟩, 0, 1⟩ (ps.take k) (os.take k) = some s' → s'.imm = 0) := fun k s' h1 h2 => (imm_keep _ _ _ _ h1 h2).1
  have HPA := (show Hid (∀ k, k < ps.length → ps.getD k 0 = 0 ∨ ps.getD k 0 = 1 ∨ ps.getD k 0 = 2 ∨ ps.getD k 0 = 3 ∨ (ps.getD k 0 = 4 ∧ ∀ p ∈ ps.take k, p = 0 ∨ p = 1 ∨ p = 2)) from hPA)
  have HSB : Hid (∀ k, k < ps.length → bsA S k = (((chr (ps.getD k 0)).toNat : Nat) : Int)) := hSB
  clear hba hsz HST hPA hSB hv CO
  have hnil : opdsO ⟨0, op, 0, 0, 0, 0, ⟨#[]⟩, 0, 1⟩ (ps.take 0) (os.take 0) = some ⟨0, op, 0, 0, 0, 0, ⟨#[]⟩, 0, 1⟩ := rfl
  have hW2 : ((w.alloc (Obj.cells (lnC ln0).toArray 51)).alloc (Obj.cells (lnC (lnS ⟨0, op, 0, 0, 0, 0, ⟨#[]⟩, 0, 1⟩)).toArray 51)) = ((w.alloc (Obj.cells #[Value.int .i64 0, .string ⟨#[]⟩, .int .i64 0, .bool false, .int .i64 0, .int .i64 0, .int .i64 0, .int .i64 0, .int .i64 0, .string ⟨#[]⟩, .int .u32 0] 51)).alloc (Obj.cells #[Value.int .i64 0, .string ⟨#[]⟩, .int .i64 1, .bool true, .int .i64 op, .int .i64 0, .int .i64 0, .int .i64 0, .int .i64 0, .string ⟨#[]⟩, .int .u32 0] 51)) := rfl
  rw [← hW2]
  clear hW2
  generalize ((w.alloc (Obj.cells (lnC ln0).toArray 51)).alloc (Obj.cells (lnC (lnS ⟨0, op, 0, 0, 0, 0, ⟨#[]⟩, 0, 1⟩)).toArray 51)) = w2 at *
  generalize hs00 : (⟨0, op, 0, 0, 0, 0, ⟨#[]⟩, 0, 1⟩ : St) = s0 at *
  clear HOO hs00
  clear hl
  generalize hL : ps.length = L at *
  clear hL
  go_loopw [8] (fun i wr => ∃ k s', k ≤ L ∧ i = .int .i64 (k : Nat) ∧ opdsO s0 (ps.take k) (os.take k) = some s' ∧ LnAt wr (w.heap.size + 1) (lnS s') ∧ w2.grownBy wr (some (w.heap.size + 1))) (fun i _ => L - (intOf i).toNat)
  case atStart => exact ⟨0, s0, by omega, rfl, hnil, HS0.out, ⟨rfl, rfl, rfl, Nat.le_refl _, fun _ _ _ => rfl⟩⟩
  case round =>
    obtain ⟨k, s', hk, rfl, hs', hS, hg⟩ := hrel
    by_cases hk2 : k < L
    · obtain ⟨blk, off, rfl, hlt, hc⟩ := HC.out (by omega)
      have hco := hc k hk2
      rw [← World.cell?_of_block (a := ⟨blk, off + k, none⟩) (hg.block _ (by show blk < _; omega) (by simp; omega))] at hco
      have hso := HSZ.out k hk2
      have HF : Hid (opdO s' (ps.getD k 0) (os.getD k ⟨#[]⟩) = none → O = none) := HFAIL.out k hk2 s' hs'
      have HG : Hid (∀ s'', opdO s' (ps.getD k 0) (os.getD k ⟨#[]⟩) = some s'' → opdsO s0 (ps.take (k + 1)) (os.take (k + 1)) = some s'') := fun s'' => HSTEP.out k hk2 s' s'' hs'
      have HI : Hid ((∀ p ∈ ps.take k, p = 0 ∨ p = 1 ∨ p = 2) → s'.imm = 0) := fun h => HIM.out k s' h hs'
      have hBr : Below w.heap.size w wr := HB2.out.grown hg (by omega) (fun k hk => by cases hk; omega)
      have hbl : blk < wr.heap.size := Nat.lt_of_lt_of_le hlt hBr.size
      have hkS : k < S.size := by omega
      have hzk := HZ.out k hkS
      have hqq := HPA.out k hk2
      have hsb := HSB.out k hk2
      have HS1 : Hid (LnAt wr (w.heap.size + 1) (lnS s')) := hS
      have HGR : Hid (w2.grownBy wr (some (w.heap.size + 1))) := hg
      rw [hsb] at hzk
      clear hBr hs' hc HC HSZ HFAIL HSTEP HIM HPA HSB hsb hS hg
      generalize ps.getD k 0 = q at *
      generalize os.getD k ⟨#[]⟩ = o at *
      unfold opdO at HF HG
      have CN := fun W => rnumber_any o hso W
      have CR := fun W => dreg_any o hso W
      have CM := fun W => dname_any o hso W
      rcases hqq with rfl | rfl | rfl | rfl | ⟨rfl, hpre⟩
      · have hch : (((chr 0).toNat : Nat) : Int) = 100 := by decide
        rw [hch] at hzk
        rw [if_neg (by decide), if_neg (by decide)] at HF HG
        go_wp2_with fail
        refine (CN _).mono ?_
        rintro e w9 ⟨rfl, rfl⟩
        go_wp2_with fail
        refine (CR _).mono ?_
        rintro e w3 ⟨rfl, hb3⟩
        have hg3 : w2.grownBy w3 (some (w.heap.size + 1)) := grown_on HGR.out hb3
        have hS3 : LnAt w3 (w.heap.size + 1) (lnS s') := HS1.out.below hb3
        have hco3 := hb3.cell (p := ⟨blk, off + k, none⟩) hbl
        rw [hco] at hco3
        have hN3 := HN.out.keep (w' := w3) (hg3.block _ (by omega) (by simp)) (by have := hg3.size; omega)
        have HBW : Hid (Below w.heap.size w w3) := HB2.out.grown hg3 (by omega) (fun k hk => by cases hk; omega)
        clear hb3
        cases hx : regO o with
        | none =>
          have hO : Hid (O = none) := HF.out (by rw [hx]; rfl)
          simp only [Option.getD_none]
          have k0 := hS3.c0
          have k1 := hS3.c1
          have k2 := hS3.c2
          have k3 := hS3.c3
          have k4 := hS3.c4
          have k5 := hS3.c5
          have k6 := hS3.c6
          have k7 := hS3.c7
          have k8 := hS3.c8
          have k9 := hS3.c9
          have k10 := hS3.c10
          have hr0 := hN3.c0
          have hr1 := hN3.c1
          have hr2 := hN3.c2
          have hr3 := hN3.c3
          have hr4 := hN3.c4
          have hr5 := hN3.c5
          have hr6 := hN3.c6
          have hr7 := hN3.c7
          have hr8 := hN3.c8
          have hr9 := hN3.c9
          have hr10 := hN3.c10
          have hfz := hS3.fz
          have hrf := hN3.fz
          clear hN3 hS3 hg3 HF HG
          go_wp2_with fail
          try rw [Exit.noGoto_ret]
          exact bodyPost_ret (v := .tuple #[lnV (lnS (putF s' 0 (-1))), .bool false]) (by simp [results, Tryz.results51, go_sem, hr0, hr1, hr2, hr3, hr4, hr5, hr6, hr7, hr8, hr9, hr10, lnV, lnC, lnS, putF]) rfl
            ⟨⟨_, by rw [hO.out]; rfl, fun s hs => by rw [hO.out] at hs; cases hs⟩, below_set11 (HBW.out.setCell (by simp) _) (Nat.le_refl _) _ _ _ _ _ _ _ _ _ _ _⟩
        | some v =>
          have hv0 := (reg_range o v hx).1
          have HNX : Hid (opdsO s0 (ps.take (k + 1)) (os.take (k + 1)) = some (putF s' 0 v)) := HG.out _ (by rw [hx]; rfl)
          have HS4 : Hid (LnAt (w3.setCell ⟨w.heap.size + 1, 5, none⟩ (.int .i64 v)) (w.heap.size + 1) (lnS (putF s' 0 v))) := hS3.put 0 v
          have HG4 : Hid (w2.grownBy (w3.setCell ⟨w.heap.size + 1, 5, none⟩ (.int .i64 v)) (some (w.heap.size + 1))) := grown_set hg3 _ _
          have kq := hS3.c5
          have hfz := hS3.fz
          simp only [Option.getD_some]
          clear hN3 hS3 hg3 HF HG
          go_wp2_with fail
          go_roundw
          case rel => exact ⟨k + 1, _, by omega, by go_num, HNX.out, HS4.out, HG4.out⟩
          case measure => simp [intOf]; omega
      · have hch : (((chr 1).toNat : Nat) : Int) = 97 := by decide
        rw [hch] at hzk
        rw [if_neg (by decide), if_neg (by decide)] at HF HG
        go_wp2_with fail
        refine (CN _).mono ?_
        rintro e w9 ⟨rfl, rfl⟩
        go_wp2_with fail
        refine (CR _).mono ?_
        rintro e w3 ⟨rfl, hb3⟩
        have hg3 : w2.grownBy w3 (some (w.heap.size + 1)) := grown_on HGR.out hb3
        have hS3 : LnAt w3 (w.heap.size + 1) (lnS s') := HS1.out.below hb3
        have hco3 := hb3.cell (p := ⟨blk, off + k, none⟩) hbl
        rw [hco] at hco3
        have hN3 := HN.out.keep (w' := w3) (hg3.block _ (by omega) (by simp)) (by have := hg3.size; omega)
        have HBW : Hid (Below w.heap.size w w3) := HB2.out.grown hg3 (by omega) (fun k hk => by cases hk; omega)
        clear hb3
        cases hx : regO o with
        | none =>
          have hO : Hid (O = none) := HF.out (by rw [hx]; rfl)
          simp only [Option.getD_none]
          have k0 := hS3.c0
          have k1 := hS3.c1
          have k2 := hS3.c2
          have k3 := hS3.c3
          have k4 := hS3.c4
          have k5 := hS3.c5
          have k6 := hS3.c6
          have k7 := hS3.c7
          have k8 := hS3.c8
          have k9 := hS3.c9
          have k10 := hS3.c10
          have hr0 := hN3.c0
          have hr1 := hN3.c1
          have hr2 := hN3.c2
          have hr3 := hN3.c3
          have hr4 := hN3.c4
          have hr5 := hN3.c5
          have hr6 := hN3.c6
          have hr7 := hN3.c7
          have hr8 := hN3.c8
          have hr9 := hN3.c9
          have hr10 := hN3.c10
          have hfz := hS3.fz
          have hrf := hN3.fz
          clear hN3 hS3 hg3 HF HG
          go_wp2_with fail
          try rw [Exit.noGoto_ret]
          exact bodyPost_ret (v := .tuple #[lnV (lnS (putF s' 1 (-1))), .bool false]) (by simp [results, Tryz.results51, go_sem, hr0, hr1, hr2, hr3, hr4, hr5, hr6, hr7, hr8, hr9, hr10, lnV, lnC, lnS, putF]) rfl
            ⟨⟨_, by rw [hO.out]; rfl, fun s hs => by rw [hO.out] at hs; cases hs⟩, below_set11 (HBW.out.setCell (by simp) _) (Nat.le_refl _) _ _ _ _ _ _ _ _ _ _ _⟩
        | some v =>
          have hv0 := (reg_range o v hx).1
          have HNX : Hid (opdsO s0 (ps.take (k + 1)) (os.take (k + 1)) = some (putF s' 1 v)) := HG.out _ (by rw [hx]; rfl)
          have HS4 : Hid (LnAt (w3.setCell ⟨w.heap.size + 1, 6, none⟩ (.int .i64 v)) (w.heap.size + 1) (lnS (putF s' 1 v))) := hS3.put 1 v
          have HG4 : Hid (w2.grownBy (w3.setCell ⟨w.heap.size + 1, 6, none⟩ (.int .i64 v)) (some (w.heap.size + 1))) := grown_set hg3 _ _
          have kq := hS3.c6
          have hfz := hS3.fz
          simp only [Option.getD_some]
          clear hN3 hS3 hg3 HF HG
          go_wp2_with fail
          go_roundw
          case rel => exact ⟨k + 1, _, by omega, by go_num, HNX.out, HS4.out, HG4.out⟩
          case measure => simp [intOf]; omega
      · have hch : (((chr 2).toNat : Nat) : Int) = 98 := by decide
        rw [hch] at hzk
        rw [if_neg (by decide), if_neg (by decide)] at HF HG
        go_wp2_with fail
        refine (CN _).mono ?_
        rintro e w9 ⟨rfl, rfl⟩
        go_wp2_with fail
        refine (CR _).mono ?_
        rintro e w3 ⟨rfl, hb3⟩
        have hg3 : w2.grownBy w3 (some (w.heap.size + 1)) := grown_on HGR.out hb3
        have hS3 : LnAt w3 (w.heap.size + 1) (lnS s') := HS1.out.below hb3
        have hco3 := hb3.cell (p := ⟨blk, off + k, none⟩) hbl
        rw [hco] at hco3
        have hN3 := HN.out.keep (w' := w3) (hg3.block _ (by omega) (by simp)) (by have := hg3.size; omega)
        have HBW : Hid (Below w.heap.size w w3) := HB2.out.grown hg3 (by omega) (fun k hk => by cases hk; omega)
        clear hb3
        cases hx : regO o with
        | none =>
          have hO : Hid (O = none) := HF.out (by rw [hx]; rfl)
          simp only [Option.getD_none]
          have k0 := hS3.c0
          have k1 := hS3.c1
          have k2 := hS3.c2
          have k3 := hS3.c3
          have k4 := hS3.c4
          have k5 := hS3.c5
          have k6 := hS3.c6
          have k7 := hS3.c7
          have k8 := hS3.c8
          have k9 := hS3.c9
          have k10 := hS3.c10
          have hr0 := hN3.c0
          have hr1 := hN3.c1
          have hr2 := hN3.c2
          have hr3 := hN3.c3
          have hr4 := hN3.c4
          have hr5 := hN3.c5
          have hr6 := hN3.c6
          have hr7 := hN3.c7
          have hr8 := hN3.c8
          have hr9 := hN3.c9
          have hr10 := hN3.c10
          have hfz := hS3.fz
          have hrf := hN3.fz
          clear hN3 hS3 hg3 HF HG
          go_wp2_with fail
          try rw [Exit.noGoto_ret]
          exact bodyPost_ret (v := .tuple #[lnV (lnS (putF s' 2 (-1))), .bool false]) (by simp [results, Tryz.results51, go_sem, hr0, hr1, hr2, hr3, hr4, hr5, hr6, hr7, hr8, hr9, hr10, lnV, lnC, lnS, putF]) rfl
            ⟨⟨_, by rw [hO.out]; rfl, fun s hs => by rw [hO.out] at hs; cases hs⟩, below_set11 (HBW.out.setCell (by simp) _) (Nat.le_refl _) _ _ _ _ _ _ _ _ _ _ _⟩
        | some v =>
          have hv0 := (reg_range o v hx).1
          have HNX : Hid (opdsO s0 (ps.take (k + 1)) (os.take (k + 1)) = some (putF s' 2 v)) := HG.out _ (by rw [hx]; rfl)
          have HS4 : Hid (LnAt (w3.setCell ⟨w.heap.size + 1, 7, none⟩ (.int .i64 v)) (w.heap.size + 1) (lnS (putF s' 2 v))) := hS3.put 2 v
          have HG4 : Hid (w2.grownBy (w3.setCell ⟨w.heap.size + 1, 7, none⟩ (.int .i64 v)) (some (w.heap.size + 1))) := grown_set hg3 _ _
          have kq := hS3.c7
          have hfz := hS3.fz
          simp only [Option.getD_some]
          clear hN3 hS3 hg3 HF HG
          go_wp2_with fail
          go_roundw
          case rel => exact ⟨k + 1, _, by omega, by go_num, HNX.out, HS4.out, HG4.out⟩
          case measure => simp [intOf]; omega
      · have hch : (((chr 3).toNat : Nat) : Int) = 105 := by decide
        rw [hch] at hzk
        rw [if_neg (by decide), if_pos rfl] at HF HG
        go_wp2_with fail
        refine (CN _).mono ?_
        rintro e w9 ⟨rfl, rfl⟩
        go_wp2_with fail
        refine (CR _).mono ?_
        rintro e w3 ⟨rfl, hb3⟩
        have hg3 : w2.grownBy w3 (some (w.heap.size + 1)) := grown_on HGR.out hb3
        have hS3 : LnAt w3 (w.heap.size + 1) (lnS s') := HS1.out.below hb3
        have hco3 := hb3.cell (p := ⟨blk, off + k, none⟩) hbl
        rw [hco] at hco3
        have hN3 := HN.out.keep (w' := w3) (hg3.block _ (by omega) (by simp)) (by have := hg3.size; omega)
        have HBW : Hid (Below w.heap.size w w3) := HB2.out.grown hg3 (by omega) (fun k hk => by cases hk; omega)
        clear hb3
        cases hx : numO o with
        | none =>
          have hO : Hid (O = none) := HF.out (by rw [hx]; rfl)
          simp only [Option.getD_none, Option.isSome_none]
          have k0 := hS3.c0
          have k1 := hS3.c1
          have k2 := hS3.c2
          have k3 := hS3.c3
          have k4 := hS3.c4
          have k5 := hS3.c5
          have k6 := hS3.c6
          have k7 := hS3.c7
          have k8 := hS3.c8
          have k9 := hS3.c9
          have k10 := hS3.c10
          have hr0 := hN3.c0
          have hr1 := hN3.c1
          have hr2 := hN3.c2
          have hr3 := hN3.c3
          have hr4 := hN3.c4
          have hr5 := hN3.c5
          have hr6 := hN3.c6
          have hr7 := hN3.c7
          have hr8 := hN3.c8
          have hr9 := hN3.c9
          have hr10 := hN3.c10
          have hfz := hS3.fz
          have hrf := hN3.fz
          clear hN3 hS3 hg3 HF HG
          go_wp2_with fail
          try rw [Exit.noGoto_ret]
          exact bodyPost_ret (v := .tuple #[lnV (lnS (putF s' 3 0)), .bool false]) (by simp [results, Tryz.results51, go_sem, hr0, hr1, hr2, hr3, hr4, hr5, hr6, hr7, hr8, hr9, hr10, lnV, lnC, lnS, putF]) rfl
            ⟨⟨_, by rw [hO.out]; rfl, fun s hs => by rw [hO.out] at hs; cases hs⟩, below_set11 (HBW.out.setCell (by simp) _) (Nat.le_refl _) _ _ _ _ _ _ _ _ _ _ _⟩
        | some v =>
          have HNX : Hid (opdsO s0 (ps.take (k + 1)) (os.take (k + 1)) = some (putF s' 3 v)) := HG.out _ (by rw [hx]; rfl)
          have HS4 : Hid (LnAt (w3.setCell ⟨w.heap.size + 1, 8, none⟩ (.int .i64 v)) (w.heap.size + 1) (lnS (putF s' 3 v))) := hS3.put 3 v
          have HG4 : Hid (w2.grownBy (w3.setCell ⟨w.heap.size + 1, 8, none⟩ (.int .i64 v)) (some (w.heap.size + 1))) := grown_set hg3 _ _
          have kq := hS3.c8
          have hfz := hS3.fz
          simp only [Option.getD_some, Option.isSome_some]
          clear hN3 hS3 hg3 HF HG
          go_wp2_with fail
          go_roundw
          case rel => exact ⟨k + 1, _, by omega, by go_num, HNX.out, HS4.out, HG4.out⟩
          case measure => simp [intOf]; omega
      · have hch : (((chr 4).toNat : Nat) : Int) = 109 := by decide
        rw [hch] at hzk
        rw [if_pos rfl] at HF HG
        have him := HI.out hpre
        go_wp2_with fail
        refine (CN _).mono ?_
        rintro e w9 ⟨rfl, rfl⟩
        go_wp2_with fail
        refine (CR _).mono ?_
        rintro e w3 ⟨rfl, hb3⟩
        have hg3 : w2.grownBy w3 (some (w.heap.size + 1)) := grown_on HGR.out hb3
        have hS3 : LnAt w3 (w.heap.size + 1) (lnS s') := HS1.out.below hb3
        have hco3 := hb3.cell (p := ⟨blk, off + k, none⟩) hbl
        rw [hco] at hco3
        have hN3 := HN.out.keep (w' := w3) (hg3.block _ (by omega) (by simp)) (by have := hg3.size; omega)
        have HBW : Hid (Below w.heap.size w w3) := HB2.out.grown hg3 (by omega) (fun k hk => by cases hk; omega)
        clear hb3
        cases hx : numO o with
        | some v =>
          have hnb : nameB o = false := by
            cases h : nameB o with
            | false => rfl
            | true => rw [name_num o h] at hx; cases hx
          have HNX : Hid (opdsO s0 (ps.take (k + 1)) (os.take (k + 1)) = some (putF s' 4 v)) := HG.out _ (by rw [hx, hnb]; rfl)
          have HS4 : Hid (LnAt (w3.setCell ⟨w.heap.size + 1, 8, none⟩ (.int .i64 v)) (w.heap.size + 1) (lnS (putF s' 4 v))) := hS3.put 4 v
          have HG4 : Hid (w2.grownBy (w3.setCell ⟨w.heap.size + 1, 8, none⟩ (.int .i64 v)) (some (w.heap.size + 1))) := grown_set hg3 _ _
          have kq := hS3.c8
          have hfz := hS3.fz
          simp only [Option.getD_some, Option.isSome_some]
          clear hN3 hS3 hg3 HF HG him
          go_wp2_with fail
          go_roundw
          case rel => exact ⟨k + 1, _, by omega, by go_num, HNX.out, HS4.out, HG4.out⟩
          case measure => simp [intOf]; omega
        | none =>
          simp only [Option.getD_none, Option.isSome_none]
          have hS5 : LnAt ((w3.setCell ⟨w.heap.size + 1, 8, none⟩ (.int .i64 0)).setCell ⟨w.heap.size + 1, 9, none⟩ (.string o)) (w.heap.size + 1) (lnS { putF s' 4 0 with target := o }) := LnAt.aim (hS3.put 4 0) o
          have hg5 : w2.grownBy ((w3.setCell ⟨w.heap.size + 1, 8, none⟩ (.int .i64 0)).setCell ⟨w.heap.size + 1, 9, none⟩ (.string o)) (some (w.heap.size + 1)) := grown_set (grown_set hg3 _ _) _ _
          have HS5 : Hid (LnAt _ _ _) := hS5
          have HG5 : Hid (World.grownBy _ _ _) := hg5
          have k8 := hS3.c8
          have k9 := hS3.c9
          have hfz := hS3.fz
          clear hN3 hS3 hg3 hS5 hg5
          go_wp2_with fail
          refine (CM _).mono ?_
          rintro e w6 ⟨rfl, hb6⟩
          have hg6 : w2.grownBy w6 (some (w.heap.size + 1)) := grown_on HG5.out hb6
          have hS6 : LnAt w6 (w.heap.size + 1) (lnS { putF s' 4 0 with target := o }) := HS5.out.below hb6
          have hN6 := HN.out.keep (w' := w6) (hg6.block _ (by omega) (by simp)) (by have := hg6.size; omega)
          have HBW6 : Hid (Below w.heap.size w w6) := HB2.out.grown hg6 (by omega) (fun k hk => by cases hk; omega)
          clear hb6 k8 k9 hfz
          cases hnb : nameB o with
          | true =>
            have HNX : Hid (opdsO s0 (ps.take (k + 1)) (os.take (k + 1)) = some { s' with target := o }) := HG.out _ (by rw [hnb]; rfl)
            have heq : lnS { putF s' 4 0 with target := o } = lnS { s' with target := o } := by
              unfold lnS putF
              simp [him]
            rw [heq] at hS6
            have HS6 : Hid (LnAt _ _ _) := hS6
            have HG6 : Hid (World.grownBy _ _ _) := hg6
            clear hS6 hg6 hN6 HF HG him
            go_wp2_with fail
            go_roundw
            case rel => exact ⟨k + 1, _, by omega, by go_num, HNX.out, HS6.out, HG6.out⟩
            case measure => simp [intOf]; omega
          | false =>
            have hO : Hid (O = none) := HF.out (by rw [hnb, hx]; rfl)
            have k0 := hS6.c0
            have k1 := hS6.c1
            have k2 := hS6.c2
            have k3 := hS6.c3
            have k4 := hS6.c4
            have k5 := hS6.c5
            have k6 := hS6.c6
            have k7 := hS6.c7
            have k8 := hS6.c8
            have k9 := hS6.c9
            have k10 := hS6.c10
            have hr0 := hN6.c0
            have hr1 := hN6.c1
            have hr2 := hN6.c2
            have hr3 := hN6.c3
            have hr4 := hN6.c4
            have hr5 := hN6.c5
            have hr6 := hN6.c6
            have hr7 := hN6.c7
            have hr8 := hN6.c8
            have hr9 := hN6.c9
            have hr10 := hN6.c10
            have hfz := hS6.fz
            have hrf := hN6.fz
            clear hN6 hS6 hg6 HF HG him
            go_wp2_with fail
            try rw [Exit.noGoto_ret]
            exact bodyPost_ret (v := .tuple #[lnV (lnS { putF s' 4 0 with target := o }), .bool false]) (by simp [results, Tryz.results51, go_sem, hr0, hr1, hr2, hr3, hr4, hr5, hr6, hr7, hr8, hr9, hr10, lnV, lnC, lnS, putF]) rfl
              ⟨⟨_, by rw [hO.out]; rfl, fun s hs => by rw [hO.out] at hs; cases hs⟩, below_set11 (HBW6.out) (Nat.le_refl _) _ _ _ _ _ _ _ _ _ _ _⟩
    · obtain rfl : k = L := by omega
      have hO : Hid (O = some s') := HFULL.out s' hs'
      have hN := HN.out.keep (w' := wr) (hg.block _ (by omega) (by simp)) (by have := hg.size; omega)
      have hBW : Hid (Below w.heap.size w wr) := HB2.out.grown hg (by omega) (fun k hk => by cases hk; omega)
      clear hg
      have k0 := hS.c0
      have k1 := hS.c1
      have k2 := hS.c2
      have k3 := hS.c3
      have k4 := hS.c4
      have k5 := hS.c5
      have k6 := hS.c6
      have k7 := hS.c7
      have k8 := hS.c8
      have k9 := hS.c9
      have k10 := hS.c10
      have hr0 := hN.c0
      have hr1 := hN.c1
      have hr2 := hN.c2
      have hr3 := hN.c3
      have hr4 := hN.c4
      have hr5 := hN.c5
      have hr6 := hN.c6
      have hr7 := hN.c7
      have hr8 := hN.c8
      have hr9 := hN.c9
      have hr10 := hN.c10
      have hfz := hS.fz
      have hrf := hN.fz
      clear hN hS
      go_wp2_with fail
      try rw [Exit.noGoto_ret]
      exact bodyPost_ret (v := .tuple #[lnV (lnS s'), .bool true]) (by simp [results, Tryz.results51, go_sem, hr0, hr1, hr2, hr3, hr4, hr5, hr6, hr7, hr8, hr9, hr10, lnV, lnC, lnS]) rfl
        ⟨⟨_, by rw [hO.out]; rfl, fun s hs => by rw [hO.out] at hs; cases hs; rfl⟩, below_set11 hBW.out (Nat.le_refl _) _ _ _ _ _ _ _ _ _ _ _⟩

theorem dops_any (op : Int) (v : Value) (os : List ByteArray) (w : World) (hv : SlC w v os) (hsz : ∀ o ∈ os, o.size ≤ 65536) :
    Calls Tryz.prog 51 #[.int .i64 op, v] w fun e w' => (∃ l, e = .returned (.tuple #[lnV l, .bool (instrO op os).isSome]) ∧ ∀ s, instrO op os = some s → l = lnS s) ∧ Below w.heap.size w w' := by
  unfold instrO
  by_cases hl : os.length = (plcL op).length
  · rw [if_pos hl]
    obtain ⟨a, cap, rfl, hcap, h⟩ := hv
    exact dops_some op (plcL op) os a cap w hl hcap h hsz (ordS op) (order_any op) (ordS_size op) (ordS_byte op) (plc_at op) (plcL_len op)
  · rw [if_neg hl]
    refine (dops_no op v os w hv hl).mono ?_
    rintro e w' ⟨⟨l, rfl⟩, hb⟩
    exact ⟨⟨l, rfl, fun s hs => by cases hs⟩, hb⟩
end Go.Proofs.YtopankjjlapfbaaGreatDoor
namespace Go.Proofs.YtopankjjlapfbaaGreatDoor
open Go.RowKit
set_option linter.unusedVariables false
set_option maxRecDepth 100000

/-- a statement as the document's line with this mark -/
def lnOf (m : ByteArray) (s : St) : Ln := if s.op = 0 then ⟨0, m, s.count, false, 0, 0, 0, 0, 0, ⟨#[]⟩, s.value⟩ else { lnS s with mark := m }
def stL (m : ByteArray) (ws : List ByteArray) : Option Ln :=
  match ws with
  | [] => some { ln0 with mark := m }
  | h :: os => (stmtO (opM 48) h os).map (lnOf m)
/-- the document's line of these words -/
def lnO (ws : List ByteArray) : Option Ln :=
  match ws with
  | [] => some ln0
  | h :: r => if Lib.hasSuffix h.data.toList [58] = true then (if nameB (markN h) = true then stL (markN h) r else none) else stL ⟨#[]⟩ (h :: r)

theorem fieldsB_mem : ∀ (p wd x : List UInt8), x ∈ fieldsB p wd → x ≠ [] ∧ x.length ≤ wd.length + p.length
  | [], wd, x, h => by
    by_cases hw : wd = []
    · simp [fieldsB, hw] at h
    · simp [fieldsB, hw] at h
      subst h
      exact ⟨hw, by simp⟩
  | c :: r, wd, x, h => by
    unfold fieldsB at h
    split at h
    · split at h
      · have ih := fieldsB_mem r [] x h
        refine ⟨ih.1, ?_⟩
        have := ih.2
        simp at this ⊢
        omega
      · rename_i hw
        rcases List.mem_cons.1 h with rfl | h
        · exact ⟨hw, by simp⟩
        · have ih := fieldsB_mem r [] x h
          refine ⟨ih.1, ?_⟩
          have := ih.2
          simp at this ⊢
          omega
    · have ih := fieldsB_mem r (wd ++ [c]) x h
      refine ⟨ih.1, ?_⟩
      have := ih.2
      simp at this ⊢
      omega
theorem words_mem (s o : ByteArray) (h : o ∈ wordsL s) : 1 ≤ o.size ∧ o.size ≤ s.size := by
  obtain ⟨p, t, hpt, hp35, ht⟩ := said_split s.data.toList
  have hlen : s.data.toList.length = s.size := by rw [Array.length_toList]; rfl
  have hpl : p.length + t.length = s.size := by rw [← hlen, hpt, List.length_append]
  have HQ : wordsL s = (fieldsB p []).map fun w => (⟨w.toArray⟩ : ByteArray) := by
    unfold wordsL
    have hs' : saidS s = ⟨p.toArray⟩ := by
      unfold saidS Lib.cut
      rw [hpt]
      rcases ht with rfl | ⟨r, rfl⟩
      · rw [List.append_nil, idx_no 35 p hp35, if_neg (by omega)]
      · rw [idx_one 35 p r hp35, if_pos (by omega)]
        simp
    rw [hs', fields_bytes]
  rw [HQ] at h
  obtain ⟨x, hx, rfl⟩ := List.mem_map.1 h
  obtain ⟨h1, h2⟩ := fieldsB_mem p [] x hx
  have hsz : (⟨x.toArray⟩ : ByteArray).size = x.length := by show x.toArray.size = _; simp
  have : x.length ≠ 0 := fun e => h1 (List.length_eq_zero_iff.1 e)
  simp at h2
  omega

theorem tail_c (w : World) (blk off cap : Nat) (h : ByteArray) (r : List ByteArray) (hcap : r.length + 1 ≤ cap) (hA : blk < w.heap.size)
    (hc : ∀ i, i < (h :: r).length → w.cell? ⟨blk, off + i, none⟩ = some (.string ((h :: r).getD i ⟨#[]⟩))) :
    ∃ sv, (∀ W, (Instr.sliceAt 71 (.slice (some ⟨blk, off, none⟩) (r.length + 1) cap) (some (.int .i64 1)) none none).run Tryz.prog W = .ok sv W) ∧ SlC w sv r := by
  refine ⟨.slice (if cap = 1 then some ⟨blk, off, none⟩ else some ⟨blk, off + 1, none⟩) r.length (cap - 1), fun W => ?_, ⟨_, _, rfl, by omega, fun hne => ?_⟩⟩
  · have hsz : (sizeOf 9).run Tryz.prog W = .ok 1 W := Tryz.sizeOf9 W
    simp [go_sem, Tryz.underlying71]
    omega
  · have : r.length ≠ 0 := fun e => hne (List.length_eq_zero_iff.1 e)
    refine ⟨blk, off + 1, by rw [if_neg (by omega)], hA, fun i hi => ?_⟩
    have := hc (i + 1) (by simp; omega)
    rw [show off + 1 + i = off + (i + 1) by omega]
    exact this

theorem colon_has (h : ByteArray) (h1 : 1 ≤ h.size) : Lib.hasSuffix h.data.toList [58] = (bsA h (h.size - 1) == 58) := by
  have hl : h.data.toList.length = h.size := by rw [Array.length_toList]; rfl
  obtain ⟨l, c, hlc⟩ : ∃ l c, h.data.toList = l ++ [c] := ⟨_, _, (List.dropLast_concat_getLast (fun e => by rw [e] at hl; simp at hl; omega)).symm⟩
  have hll : l.length = h.size - 1 := by
    have := hl
    rw [hlc, List.length_append] at this
    simp at this
    omega
  have hb : bsA h (h.size - 1) = ((c.toNat : Nat) : Int) := byte_of h _ c (by rw [hlc, ← hll]; simp)
  have hsf : Lib.hasSuffix (l ++ [c]) [58] = (58 == c) := by
    unfold Lib.hasSuffix List.isSuffixOf
    rw [List.reverse_append]
    simp [List.isPrefixOf]
  rw [hb, hlc, hsf]
  by_cases hc : c = 58
  · subst hc
    rfl
  · have h2 : ¬ ((c.toNat : Nat) : Int) = 58 := fun e => hc (UInt8.toNat_inj.1 (by rw [show c.toNat = 58 by omega]; rfl))
    rw [beq_eq_false_iff_ne.2 h2, beq_eq_false_iff_ne.2 (fun e => hc e.symm)]
theorem colon_cut (h : ByteArray) (h1 : 1 ≤ h.size) (hs : Lib.hasSuffix h.data.toList [58] = true) : h.extract 0 (h.size - 1) = markN h := by
  have hl : h.data.toList.length = h.size := by rw [Array.length_toList]; rfl
  rw [extract_eq h 0 (h.size - 1) (by omega)]
  unfold markN Lib.trimSuffix
  rw [if_pos hs]
  simp [hl]
end Go.Proofs.YtopankjjlapfbaaGreatDoor
