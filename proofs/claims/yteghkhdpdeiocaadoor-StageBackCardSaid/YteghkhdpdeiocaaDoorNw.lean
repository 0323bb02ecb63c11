/-
  What New makes.
-/
import Derived.Test.YteghkhdpdeiocaaDoorOw
namespace Go.Proofs.YteghkhdpdeiocaaDoor
open Go.RowKit Go.ChangeMaps
set_option linter.unusedVariables false
set_option maxRecDepth 100000

/-- frames of which the first j are the hypervisor's -/
def nwS (n fi j : Nat) : Fs := ⟨n, fun i => if i < j then 0 else 17, fun i => if i < j then 1 else 0, fi, fun _ => (n : Int)⟩
theorem below_succ {α : Type} (j : Nat) (x y : α) : upd (fun i => if i < j then x else y) j x = fun i => if i < j + 1 then x else y := by
  funext i
  by_cases e : i = j
  · subst e; rw [upd_self, if_pos (by omega)]
  · rw [upd_other _ _ _ e]
    by_cases e2 : i < j
    · rw [if_pos e2, if_pos (by omega)]
    · rw [if_neg e2, if_neg (by omega)]
theorem nwS_succ (n fi j : Nat) : (nwS n fi j).set j 0 1 = nwS n fi (j + 1) := by
  unfold nwS Fs.set
  show Fs.mk n (upd (fun i => if i < j then 0 else 17) j 0) (upd (fun i => if i < j then 1 else 0) j 1) fi _ = _
  rw [below_succ, below_succ]
theorem cn_all : ∀ (cl : Nat → Nat) (n k : Nat), (∀ i, cl i = 17) → cn cl n k = if k = 17 then n else 0
  | cl, 0, k, h => by simp [cn]
  | cl, n + 1, k, h => by
    rw [cn_succ, cn_all cl n k h, h n]
    by_cases e : k = 17
    · rw [if_pos e, if_pos e.symm, if_pos e]
    · rw [if_neg e, if_neg (Ne.symm e), if_neg e]
theorem nwS_ct (n fi k : Nat) : (nwS n fi 0).ct k = if k = 17 then n else 0 := cn_all _ _ _ (fun i => by simp [nwS])
theorem info67 : ∃ i, Tryd.prog.info? 29 = some i ∧ i.zero = some (.map none) ∧ i.size = 1 ∧ i.bytes = 8 := by
  have h : (Tryd.prog.info? 29).map (fun i => (i.zero, i.size, i.bytes)) = some (some (.map none), 1, 8) := by kernel_rfl
  obtain ⟨i, hi, hb⟩ := Option.map_eq_some_iff.1 h
  simp only [Prod.mk.injEq] at hb
  exact ⟨i, hi, hb.1, hb.2.1, hb.2.2⟩
theorem make_row (w : World) (n : Nat) (hn : n ≤ 65536) : (Instr.makeSlice 51 (.int .i64 n) (.int .i64 n)).run Tryd.prog w = .ok (.slice (some ⟨w.heap.size, 0, none⟩) n n) (w.alloc (.cells (madeCells #[.map none] n) 29)) := by
  obtain ⟨i, hi, hz, hs, hb⟩ := info67
  have := run_makeSlice (P := Tryd.prog) w 51 29 i _ Tryd.underlying51 hi hz .i64 .i64 n n (by omega) (by omega) (by rw [hs]; simp; omega) (by rw [hb]; omega) (by omega)
  rw [hs, Nat.mul_one] at this
  exact this
theorem FX.less {B B' : Nat → Prop} {w : World} {D : Nat} {S : Fs} (h : FX B w D S) (hb : ∀ k, B' k → B k) : FX B' w D S := by
  obtain ⟨r, C, s, h⟩ := h
  obtain ⟨l1, l2, l3⟩ := h.lo
  exact ⟨r, C, s, h.ob, h.row, h.mp, h.inj, h.s1, h.s2, h.ok, fun e => l1 (hb _ e), fun e => l2 (hb _ e), fun i hi hc e => l3 i hi hc (hb _ e)⟩
theorem fnew_no (n f : Int) (w : World) (h : ¬ (1 ≤ n ∧ n ≤ 65536 ∧ 0 ≤ f ∧ f ≤ n)) : Calls Tryd.prog 14 #[.int .i64 n, .int .i64 f] w fun e w' => e = .returned (.tuple #[.pointer none, .int .i64 2]) ∧ w' = w := by
  by_cases h1 : n < 1
  · go_enter Tryd.func14, Tryd.ntmps14
    go_wp2_with fail
    go_ret2
    exact ⟨rfl, rfl⟩
  · by_cases h2 : 65536 < n
    · go_enter Tryd.func14, Tryd.ntmps14
      go_wp2_with fail
      go_ret2
      exact ⟨rfl, rfl⟩
    · by_cases h3 : f < 0
      · go_enter Tryd.func14, Tryd.ntmps14
        go_wp2_with fail
        go_ret2
        exact ⟨rfl, rfl⟩
      · have h4 : n < f := by omega
        go_enter Tryd.func14, Tryd.ntmps14
        go_wp2_with fail
        go_ret2
        exact ⟨rfl, rfl⟩
/-- the block as New lays it -/
def ob0 (r n f : Nat) : Array Value := #[.slice (some ⟨r, 0, none⟩) n n, .int .i64 f, .int .i64 0, .int .i64 0, .int .i64 0, .int .i64 0, .int .i64 0, .int .i64 0, .int .i64 0, .int .i64 0, .int .i64 0, .int .i64 0, .int .i64 0, .int .i64 0, .int .i64 0, .int .i64 0, .int .i64 0, .int .i64 0, .int .i64 0, .int .i64 0, .int .i64 n, .int .i64 0, .int .i64 0, .int .i64 0, .int .i64 0, .int .i64 0, .int .i64 0, .int .i64 0, .int .i64 0, .int .i64 0, .int .i64 0, .int .i64 0, .int .i64 0, .int .i64 0, .int .i64 0, .int .i64 0, .int .i64 0, .int .i64 0]
theorem ob0_c (r n f : Nat) : ∀ k, k < 18 → (ob0 r n f)[3 + k]? = some (.int .i64 (if k = 17 then (n : Int) else 0))
  | 0, _ => rfl
  | 1, _ => rfl
  | 2, _ => rfl
  | 3, _ => rfl
  | 4, _ => rfl
  | 5, _ => rfl
  | 6, _ => rfl
  | 7, _ => rfl
  | 8, _ => rfl
  | 9, _ => rfl
  | 10, _ => rfl
  | 11, _ => rfl
  | 12, _ => rfl
  | 13, _ => rfl
  | 14, _ => rfl
  | 15, _ => rfl
  | 16, _ => rfl
  | 17, _ => rfl
  | k + 18, h => by omega
theorem ob0_q (r n f : Nat) : ∀ k, k < 17 → (ob0 r n f)[21 + k]? = some (.int .i64 (if k < 0 then (n : Int) else 0))
  | 0, _ => rfl
  | 1, _ => rfl
  | 2, _ => rfl
  | 3, _ => rfl
  | 4, _ => rfl
  | 5, _ => rfl
  | 6, _ => rfl
  | 7, _ => rfl
  | 8, _ => rfl
  | 9, _ => rfl
  | 10, _ => rfl
  | 11, _ => rfl
  | 12, _ => rfl
  | 13, _ => rfl
  | 14, _ => rfl
  | 15, _ => rfl
  | 16, _ => rfl
  | k + 17, h => by omega
theorem start_new (w : World) (n f : Nat) : OB ((w.alloc (.cells (madeCells #[.map none] n) 29)).alloc (.cells (ob0 w.heap.size n f) 55)) (w.heap.size + 1) w.heap.size n f 0 (fun k => if k = 17 then (n : Int) else 0) (fun k => if k < 0 then (n : Int) else 0) ∧
    RB ((w.alloc (.cells (madeCells #[.map none] n) 29)).alloc (.cells (ob0 w.heap.size n f) 55)) w.heap.size n (fun _ => 17) (fun _ => 0) ∧ Below w.heap.size w ((w.alloc (.cells (madeCells #[.map none] n) 29)).alloc (.cells (ob0 w.heap.size n f) 55)) := by
  have hs : (w.alloc (.cells (madeCells #[.map none] n) 29)).heap.size = w.heap.size + 1 := by simp
  have h1 := heap_alloc_at (w.alloc (.cells (madeCells #[.map none] n) 29)) (.cells (ob0 w.heap.size n f) 55)
  rw [hs] at h1
  have h2 := (heap_alloc_past (w.alloc (.cells (madeCells #[.map none] n) 29)) (.cells (ob0 w.heap.size n f) 55) (k := w.heap.size) (by omega)).trans (heap_alloc_at w _)
  refine ⟨⟨_, h1, rfl, rfl, rfl, rfl, ob0_c _ _ _, ob0_q _ _ _⟩, ⟨_, h2, by simp [madeCells], fun i hi => ?_⟩, ((Below.refl _ _).alloc (Nat.le_refl _) _).alloc (by simp) _⟩
  simp [madeCells, mv, Nat.mod_one, hi]
theorem start_fr (w wr : World) (n f : Nat) (h1 : 1 ≤ n) (h2 : n ≤ 65536) (h3 : f ≤ n) (ho : OB wr (w.heap.size + 1) w.heap.size n f 0 (fun k => if k = 17 then (n : Int) else 0) (fun k => if k < 17 then (n : Int) else 0)) (hr : RB wr w.heap.size n (fun _ => 17) (fun _ => 0)) : FX (Lw w.heap.size) wr (w.heap.size + 1) (nwS n f 0) := by
  have hcl : ∀ i, (nwS n f 0).cl i = 17 := fun i => by simp [nwS]
  refine ⟨w.heap.size, fun _ => 0, 0, ho.congr (fun k hk => ?_) (fun k hk => if_pos hk), ?_, fun i _ hc => absurd (hcl i) hc, fun i j _ _ hc _ _ => absurd (hcl i) hc, h1, fun i hi => by omega, ⟨h1, h2, h3, fun i => by rw [hcl]; omega, fun i hi => ⟨fun _ => by simp [nwS], fun hc => absurd (hcl i) hc⟩, fun k => by simp only [nwS]; omega⟩, (fun e => by have : w.heap.size + 1 < w.heap.size := e; omega), (fun e => by have : w.heap.size < w.heap.size := e; omega), fun i _ hc => absurd (hcl i) hc⟩
  · rw [nwS_ct]
    by_cases e : k = 17
    · rw [if_pos e, if_pos e]
    · rw [if_neg e, if_neg e]; rfl
  · obtain ⟨rs, r1, r2, r3⟩ := hr.blk
    exact ⟨rs, r1, r2, fun i hi => by rw [r3 i hi]; simp [mv, hcl]⟩
set_option maxHeartbeats 800000 in
theorem fnew_yes (n f : Nat) (w : World) (h1 : 1 ≤ n) (h2 : n ≤ 65536) (h3 : f ≤ n) : Calls Tryd.prog 14 #[.int .i64 n, .int .i64 f] w fun e w' => ∃ D, e = .returned (.tuple #[.pointer (some ⟨D, 0, none⟩), .int .i64 0]) ∧ FX (Lw w.heap.size) w' D (nwS n f f) ∧ Below w.heap.size w w' := by
  have hmk := make_row w n h2
  have HS : Hid (_) := start_new w n f
  go_enter Tryd.func14, Tryd.ntmps14
  go_wp2_with fail
  go_loopw [34] (fun i wr => ∃ j : Nat, j ≤ 17 ∧ i = .int .i64 j ∧ Hid (OB wr (w.heap.size + 1) w.heap.size n f 0 (fun k => if k = 17 then (n : Int) else 0) (fun k => if k < j then (n : Int) else 0) ∧ RB wr w.heap.size n (fun _ => 17) (fun _ => 0) ∧ Below w.heap.size w wr)) (fun i _ => 17 - (intOf i).toNat)
  case atStart => exact ⟨0, by omega, rfl, HS.out⟩
  case round =>
    obtain ⟨j, hj, rfl, HJ⟩ := hrel
    by_cases hjn : j < 17
    · have hjn' : (j : Int) < 17 := by omega
      have cq := HJ.out.1.cq hjn
      have fq := HJ.out.1.fz (21 + j)
      have hl := HJ.out.1.lt
      have HN : Hid (OB (wr.setCell ⟨w.heap.size + 1, 21 + j, none⟩ (.int .i64 n)) (w.heap.size + 1) w.heap.size n f 0 (fun k => if k = 17 then (n : Int) else 0) (fun k => if k < j + 1 then (n : Int) else 0) ∧ RB (wr.setCell ⟨w.heap.size + 1, 21 + j, none⟩ (.int .i64 n)) w.heap.size n (fun _ => 17) (fun _ => 0) ∧ Below w.heap.size w (wr.setCell ⟨w.heap.size + 1, 21 + j, none⟩ (.int .i64 n))) := by
        obtain ⟨o1, t1⟩ := HJ.out.1.setQ hjn (n : Int)
        obtain ⟨_, hR, hB⟩ := HJ.out
        rw [below_succ] at o1
        exact ⟨o1, hR.keep (t1.block _ hR.lt (by omega)), t1.os.trans hB.os, t1.tape.trans hB.tape, t1.output.trans hB.output, Nat.le_trans hB.size t1.size, fun k hk => (t1.block k (Nat.lt_of_lt_of_le hk hB.size) (by omega)).trans (hB.block k hk)⟩
      go_wp2_with fail
      go_roundw
      case rel => exact ⟨j + 1, by omega, by go_num, HN.out⟩
      case measure => simp [intOf]; omega
    · obtain rfl : j = 17 := by omega
      have HF : Hid (FX (Lw w.heap.size) wr (w.heap.size + 1) (nwS n f 0) ∧ Below w.heap.size w wr) := ⟨start_fr w wr n f h1 h2 h3 HJ.out.1 HJ.out.2.1, HJ.out.2.2⟩
      clear HJ HS
      go_wp2_with fail
      simp only [show decide (n < f) = false from decide_eq_false (by omega), Bool.or_false, show ((17 : Nat) : Int) = 17 from rfl]
      go_loopw [45] (fun i wq => ∃ j : Nat, j ≤ f ∧ i = .int .i64 j ∧ Hid (FX (Lw w.heap.size) wq (w.heap.size + 1) (nwS n f j) ∧ Below w.heap.size w wq)) (fun i _ => f - (intOf i).toNat)
      case atStart => exact ⟨0, by omega, rfl, HF.out⟩
      case round =>
        obtain ⟨j, hj, rfl, HJ⟩ := hrel
        by_cases hjn : j < f
        · have hjn' : (j : Int) < f := by omega
          go_wp2_with fail
          obtain ⟨⟨r, C, s, hf⟩, hb⟩ := HJ.out
          have e17 : (nwS n f j).cl j = 17 := by simp [nwS]
          have P := pass_give hf (i := j) (b := 0) (show j < n by omega) (by rw [e17]; decide) (by omega) (fun k hk h => by have : k < w.heap.size := h; have := hb.size; omega)
          rw [e17, nwS_succ] at P
          refine P.mono ?_
          rintro e w2 ⟨rfl, hf2, ht2⟩
          have HN : Hid (FX (Lw w.heap.size) w2 (w.heap.size + 1) (nwS n f (j + 1)) ∧ Below w.heap.size w w2) := ⟨hf2, hb.trans (ht2.below hb.size (fun _ h => h))⟩
          clear hf2 ht2 P hf hb
          go_wp2_with fail
          go_roundw
          case rel => exact ⟨j + 1, by omega, by go_num, HN.out⟩
          case measure => simp [intOf]; omega
        · obtain rfl : j = f := by omega
          go_wp2_with fail
          go_ret2
          exact ⟨_, rfl, HJ.out⟩
end Go.Proofs.YteghkhdpdeiocaaDoor
