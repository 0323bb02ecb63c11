/-
  A range over a map of one entry, and over none.
  What Owner tells.
  What New makes.
-/
import Derived.Test.YteghkhdpdeiocaaGreatDoorBase
import Derived.Test.YteghkhdpdeiocaaGreatDoorGV
import Derived.LoopN
import Derived.OwnWalk
namespace Go.Proofs.YteghkhdpdeiocaaGreatDoor
open Go.RowKit Go.ChangeMaps
set_option linter.unusedVariables false
set_option maxRecDepth 100000

theorem left_one (e : MapEntry) : leftOf #[e] #[] = #[e] := by simp [leftOf]
theorem left_none (e : MapEntry) : leftOf #[e] #[e.born] = #[] := by simp [leftOf]
theorem below_setBlock {B : Nat} {W w : World} (h : Below B W w) {r : Nat} (hr : B ≤ r) (o : Obj) : Below B W (setBlock w r o) :=
  ⟨h.os, h.tape, h.output, by simpa [setBlock] using h.size, fun k hk => by
    simp only [setBlock]
    rw [Array.getElem?_setIfInBounds_ne (by omega)]
    exact h.block k hk⟩
/-- the steps of a range over a map of one entry -/
theorem steps_one {w : World} {m : Nat} {e : MapEntry} {clock : Nat} (hb : w.heap[m]? = some (.map #[e] clock)) (hlt : e.born < clock) (ty : TypeId) :
    ∃ w0 w1 : World, Below w.heap.size w w0 ∧ Below w.heap.size w w1 ∧ (Instr.range 108 (.map (some m))).run Tryz.prog w = .ok (.pointer (some ⟨w.heap.size, 0, none⟩)) w0 ∧
      (Instr.next (.pointer (some ⟨w.heap.size, 0, none⟩)) false ty).run Tryz.prog w0 = .ok (.tuple #[.bool true, e.key, e.val]) w1 ∧
      (Instr.entry (.pointer (some ⟨w.heap.size, 0, none⟩))).run Tryz.prog w1 = .ok (.tuple #[e.key, e.val]) w1 ∧
      (Instr.next (.pointer (some ⟨w.heap.size, 0, none⟩)) false ty).run Tryz.prog w1 = .ok (.tuple #[.bool false]) w1 := by
  have hold : ∀ x ∈ (#[e] : Array MapEntry).toList, x.born < clock := fun x hx => by simp at hx; subst hx; exact hlt
  have h1 := run_range_map (P := Tryz.prog) w 108 3 3 m #[e] clock Tryz.underlying108 hb
  have b0 : Below w.heap.size w (w.alloc (.mapIter (some m) clock #[] clock)) := (Below.refl _ _).alloc (Nat.le_refl _) _
  have hr := heap_alloc_at w (.mapIter (some m) clock #[] clock)
  have hm0 := (heap_alloc_past w (.mapIter (some m) clock #[] clock) (lt_of_heap hb)).trans hb
  generalize w.alloc (.mapIter (some m) clock #[] clock) = w0 at *
  rcases run_next_at (P := Tryz.prog) w0 ty w.heap.size m clock clock #[] #[e] clock hr hm0 hold (Nat.le_refl _) with ⟨h0, _⟩ | ⟨x, hx, w1, hal, hrun⟩
  · rw [left_one] at h0
    simp at h0
  · rw [left_one] at hx
    simp at hx
    subst hx
    have b1 : Below w.heap.size w w1 := by
      rcases hal with rfl | rfl
      · exact b0
      · exact b0.drew
    have hsz : w1.heap.size = w0.heap.size := by rcases hal with rfl | rfl <;> rfl
    have hm1 : w1.heap[m]? = some (.map #[x] clock) := by rcases hal with rfl | rfl <;> exact hm0
    have b2 := below_setBlock b1 (Nat.le_refl _) (.mapIter (some m) clock #[x.born] clock)
    have hm2 := (b2.block m (lt_of_heap hb)).trans hb
    have hr2 : (setBlock w1 w.heap.size (.mapIter (some m) clock #[x.born] clock)).heap[w.heap.size]? = some (.mapIter (some m) clock #[x.born] clock) := by
      have : w.heap.size < w1.heap.size := by rw [hsz]; exact lt_of_heap hr
      simp [setBlock, this]
    have hrun : (Instr.next (.pointer (some ⟨w.heap.size, 0, none⟩)) false ty).run Tryz.prog w0 = .ok (.tuple #[.bool true, x.key, x.val]) (setBlock w1 w.heap.size (.mapIter (some m) clock #[x.born] clock)) := by simpa using hrun
    generalize setBlock w1 w.heap.size (.mapIter (some m) clock #[x.born] clock) = w2 at *
    refine ⟨w0, w2, b0, b2, h1, hrun, ?_, ?_⟩
    · exact run_entry_at (P := Tryz.prog) w2 w.heap.size m clock #[] #[x] clock x (by simpa using hr2) hm2 (by simp) (by simp)
    · rcases run_next_at (P := Tryz.prog) w2 ty w.heap.size m clock clock #[x.born] #[x] clock hr2 hm2 hold (Nat.le_refl _) with ⟨h0, h2⟩ | ⟨y, hy, _⟩
      · exact h2
      · rw [left_none] at hy
        simp at hy
theorem steps_nil (w : World) (ty : TypeId) : ∃ w0, Below w.heap.size w w0 ∧ (Instr.range 108 (.map none)).run Tryz.prog w = .ok (.pointer (some ⟨w.heap.size, 0, none⟩)) w0 ∧
    (Instr.next (.pointer (some ⟨w.heap.size, 0, none⟩)) false ty).run Tryz.prog w0 = .ok (.tuple #[.bool false]) w0 :=
  ⟨_, (Below.refl _ _).alloc (Nat.le_refl _) _, run_range_nilMap w 108 3 3 Tryz.underlying108, run_next_nilMap w ty 0 0 #[]⟩
end Go.Proofs.YteghkhdpdeiocaaGreatDoor
namespace Go.Proofs.YteghkhdpdeiocaaGreatDoor
open Go.RowKit Go.ChangeMaps
set_option linter.unusedVariables false
set_option maxRecDepth 100000

/-- is it somebody's -/
def owK (S : Fs) (f : Int) : Bool := decide (0 ≤ f ∧ f < S.n) && decide (S.cl f.toNat ≠ 17)
def owO (S : Fs) (f : Int) : Int := if owK S f then S.cl f.toNat else 0
def owT (S : Fs) (f : Int) : Int := if owK S f then S.ti f.toNat else 0
section
variable {B : Nat → Prop} {w w' : World} {D : Nat} {S : Fs}
theorem owner_fx (h : FX B w D S) (f : Int) : Calls Tryz.prog 13 #[.pointer (some ⟨D, 0, none⟩), .int .i64 f] w fun e w' => e = .returned (.tuple #[.int .i64 (owO S f), .int .i64 (owT S f), .bool (owK S f)]) ∧ Below w.heap.size w w' := by
  obtain ⟨r, C, s, h⟩ := h
  have hl := h.ob.lt
  have M := made_fr h
  have F := isframe h f
  unfold owO owT
  by_cases h1 : 0 ≤ f ∧ f < S.n
  · rw [decide_eq_true h1] at F
    obtain ⟨i, rfl⟩ : ∃ i : Nat, f = i := ⟨f.toNat, by omega⟩
    have hi : i < S.n := by omega
    have hi' : (i : Int) < S.n := by omega
    have n2 := h.ok.n2
    have c0 := h.ob.c0
    have cr := h.row.c hi
    have hrl := h.row.lt
    by_cases h2 : S.cl i = 17
    · have e0 : owK S i = false := by unfold owK; rw [Int.toNat_natCast, h2]; simp
      rw [e0]
      rw [mv_nil h2] at cr
      obtain ⟨w0, b0, r0, r1⟩ := steps_nil w 0
      clear h h1 e0
      go_enter Tryz.func13, Tryz.ntmps13
      go_wp2_with fail
      refine M.mono ?_
      rintro e w ⟨rfl, rfl⟩
      go_wp2_with fail
      refine F.mono ?_
      rintro e w ⟨rfl, rfl⟩
      go_wp2_with fail
      refine wp_loop_rounds 1 ?_
      rw [rounds_succ]
      go_wp2_with fail
      go_ret3
      exact ⟨rfl, b0⟩
    · have e0 : owK S i = true := by unfold owK; rw [Int.toNat_natCast, decide_eq_true h1, decide_eq_true h2]; rfl
      rw [e0]
      rw [mv_map h2] at cr
      obtain ⟨born, clock, hm, hlt⟩ := h.mp i hi h2
      obtain ⟨w0, w1, b0, b1, r0, r1, r2, r3⟩ := steps_one hm hlt 0
      rw [Int.toNat_natCast]
      clear h h1 e0
      generalize S.cl i = a at *
      generalize S.ti i = t at *
      go_enter Tryz.func13, Tryz.ntmps13
      go_wp2_with fail
      refine M.mono ?_
      rintro e w ⟨rfl, rfl⟩
      go_wp2_with fail
      refine F.mono ?_
      rintro e w ⟨rfl, rfl⟩
      go_wp2_with fail
      refine wp_loop_rounds 2 ?_
      rw [rounds_succ]
      go_wp2_with fail
      rw [rounds_succ]
      go_wp2_with fail
      go_ret3
      exact ⟨rfl, b1⟩
  · have e0 : owK S f = false := by unfold owK; rw [decide_eq_false h1]; rfl
    rw [decide_eq_false h1] at F
    rw [e0]
    clear h h1 e0
    go_enter Tryz.func13, Tryz.ntmps13
    go_wp2_with fail
    refine M.mono ?_
    rintro e w ⟨rfl, rfl⟩
    go_wp2_with fail
    refine F.mono ?_
    rintro e w ⟨rfl, rfl⟩
    go_wp2_with fail
    go_ret3
    exact ⟨rfl, Below.refl _ _⟩
/-- how often the first j frames are had together -/
def sumT (ti : Nat → Nat) : Nat → Nat
  | 0 => 0
  | j + 1 => sumT ti j + ti j
theorem sumT_le (ti : Nat → Nat) (h : ∀ i, ti i ≤ 65536) : ∀ j, sumT ti j ≤ j * 65536
  | 0 => by simp [sumT]
  | j + 1 => by
    have := sumT_le ti h j
    have := h j
    simp only [sumT]
    omega
theorem sumT_lt (ti : Nat → Nat) : ∀ n, (∀ i, i < n → ti i ≤ 65536) → ∀ j, j ≤ n → sumT ti j ≤ j * 65536
  | n, h, 0, _ => by simp [sumT]
  | n, h, j + 1, hj => by
    have := sumT_lt ti n h j (by omega)
    have := h j (by omega)
    simp only [sumT]
    omega
end
end Go.Proofs.YteghkhdpdeiocaaGreatDoor
namespace Go.Proofs.YteghkhdpdeiocaaGreatDoor
open Go.RowKit Go.ChangeMaps
set_option linter.unusedVariables false
set_option maxRecDepth 100000

/-- frames of which the first j are the hypervisor's -/
def nwS (n fi j : Nat) : Fs := ⟨n, fun i => if i < j then 0 else 17, fun i => if i < j then 1 else 0, fi, fun _ => (n : Int)⟩
theorem below_succ {α : Type} (j : Nat) (x y : α) : upd (fun i => if i < j then x else y) j x = fun i => if i < j + 1 then x else y := by
  funext i
  by_cases e : i = j
  · subst e; rw [upd_self, if_pos (by omega)]
  · rw [upd_other _ _ _ e]
    by_cases e2 : i < j
    · rw [if_pos e2, if_pos (by omega)]
    · rw [if_neg e2, if_neg (by omega)]
theorem nwS_succ (n fi j : Nat) : (nwS n fi j).set j 0 1 = nwS n fi (j + 1) := by
  unfold nwS Fs.set
  show Fs.mk n (upd (fun i => if i < j then 0 else 17) j 0) (upd (fun i => if i < j then 1 else 0) j 1) fi _ = _
  rw [below_succ, below_succ]
theorem cn_all : ∀ (cl : Nat → Nat) (n k : Nat), (∀ i, cl i = 17) → cn cl n k = if k = 17 then n else 0
  | cl, 0, k, h => by simp [cn]
  | cl, n + 1, k, h => by
    rw [cn_succ, cn_all cl n k h, h n]
    by_cases e : k = 17
    · rw [if_pos e, if_pos e.symm, if_pos e]
    · rw [if_neg e, if_neg (Ne.symm e), if_neg e]
theorem nwS_ct (n fi k : Nat) : (nwS n fi 0).ct k = if k = 17 then n else 0 := cn_all _ _ _ (fun i => by simp [nwS])
theorem info67 : ∃ i, Tryz.prog.info? 108 = some i ∧ i.zero = some (.map none) ∧ i.size = 1 ∧ i.bytes = 8 := by
  have h : (Tryz.prog.info? 108).map (fun i => (i.zero, i.size, i.bytes)) = some (some (.map none), 1, 8) := by kernel_rfl
  obtain ⟨i, hi, hb⟩ := Option.map_eq_some_iff.1 h
  simp only [Prod.mk.injEq] at hb
  exact ⟨i, hi, hb.1, hb.2.1, hb.2.2⟩
theorem make_row (w : World) (n : Nat) (hn : n ≤ 65536) : (Instr.makeSlice 111 (.int .i64 n) (.int .i64 n)).run Tryz.prog w = .ok (.slice (some ⟨w.heap.size, 0, none⟩) n n) (w.alloc (.cells (madeCells #[.map none] n) 108)) := by
  obtain ⟨i, hi, hz, hs, hb⟩ := info67
  have := run_makeSlice (P := Tryz.prog) w 111 108 i _ Tryz.underlying111 hi hz .i64 .i64 n n (by omega) (by omega) (by rw [hs]; simp; omega) (by rw [hb]; omega) (by omega)
  rw [hs, Nat.mul_one] at this
  exact this
theorem FX.less {B B' : Nat → Prop} {w : World} {D : Nat} {S : Fs} (h : FX B w D S) (hb : ∀ k, B' k → B k) : FX B' w D S := by
  obtain ⟨r, C, s, h⟩ := h
  obtain ⟨l1, l2, l3⟩ := h.lo
  exact ⟨r, C, s, h.ob, h.row, h.mp, h.inj, h.s1, h.s2, h.ok, fun e => l1 (hb _ e), fun e => l2 (hb _ e), fun i hi hc e => l3 i hi hc (hb _ e)⟩
theorem fnew_no (n f : Int) (w : World) (h : ¬ (1 ≤ n ∧ n ≤ 65536 ∧ 0 ≤ f ∧ f ≤ n)) : Calls Tryz.prog 16 #[.int .i64 n, .int .i64 f] w fun e w' => e = .returned (.tuple #[.pointer none, .int .i64 2]) ∧ w' = w := by
  by_cases h1 : n < 1
  · go_enter Tryz.func16, Tryz.ntmps16
    go_wp2_with fail
    go_ret2
    exact ⟨rfl, rfl⟩
  · by_cases h2 : 65536 < n
    · go_enter Tryz.func16, Tryz.ntmps16
      go_wp2_with fail
      go_ret2
      exact ⟨rfl, rfl⟩
    · by_cases h3 : f < 0
      · go_enter Tryz.func16, Tryz.ntmps16
        go_wp2_with fail
        go_ret2
        exact ⟨rfl, rfl⟩
      · have h4 : n < f := by omega
        go_enter Tryz.func16, Tryz.ntmps16
        go_wp2_with fail
        go_ret2
        exact ⟨rfl, rfl⟩
/-- the block as New lays it -/
def ob0 (r n f : Nat) : Array Value := #[.slice (some ⟨r, 0, none⟩) n n, .int .i64 f, .int .i64 0, .int .i64 0, .int .i64 0, .int .i64 0, .int .i64 0, .int .i64 0, .int .i64 0, .int .i64 0, .int .i64 0, .int .i64 0, .int .i64 0, .int .i64 0, .int .i64 0, .int .i64 0, .int .i64 0, .int .i64 0, .int .i64 0, .int .i64 0, .int .i64 n, .int .i64 0, .int .i64 0, .int .i64 0, .int .i64 0, .int .i64 0, .int .i64 0, .int .i64 0, .int .i64 0, .int .i64 0, .int .i64 0, .int .i64 0, .int .i64 0, .int .i64 0, .int .i64 0, .int .i64 0, .int .i64 0, .int .i64 0]
theorem ob0_c (r n f : Nat) : ∀ k, k < 18 → (ob0 r n f)[3 + k]? = some (.int .i64 (if k = 17 then (n : Int) else 0))
  | 0, _ => rfl
  | 1, _ => rfl
  | 2, _ => rfl
  | 3, _ => rfl
  | 4, _ => rfl
  | 5, _ => rfl
  | 6, _ => rfl
  | 7, _ => rfl
  | 8, _ => rfl
  | 9, _ => rfl
  | 10, _ => rfl
  | 11, _ => rfl
  | 12, _ => rfl
  | 13, _ => rfl
  | 14, _ => rfl
  | 15, _ => rfl
  | 16, _ => rfl
  | 17, _ => rfl
  | k + 18, h => by omega
theorem ob0_q (r n f : Nat) : ∀ k, k < 17 → (ob0 r n f)[21 + k]? = some (.int .i64 (if k < 0 then (n : Int) else 0))
  | 0, _ => rfl
  | 1, _ => rfl
  | 2, _ => rfl
  | 3, _ => rfl
  | 4, _ => rfl
  | 5, _ => rfl
  | 6, _ => rfl
  | 7, _ => rfl
  | 8, _ => rfl
  | 9, _ => rfl
  | 10, _ => rfl
  | 11, _ => rfl
  | 12, _ => rfl
  | 13, _ => rfl
  | 14, _ => rfl
  | 15, _ => rfl
  | 16, _ => rfl
  | k + 17, h => by omega
theorem start_new (w : World) (n f : Nat) : OB ((w.alloc (.cells (madeCells #[.map none] n) 108)).alloc (.cells (ob0 w.heap.size n f) 115)) (w.heap.size + 1) w.heap.size n f 0 (fun k => if k = 17 then (n : Int) else 0) (fun k => if k < 0 then (n : Int) else 0) ∧
    RB ((w.alloc (.cells (madeCells #[.map none] n) 108)).alloc (.cells (ob0 w.heap.size n f) 115)) w.heap.size n (fun _ => 17) (fun _ => 0) ∧ Below w.heap.size w ((w.alloc (.cells (madeCells #[.map none] n) 108)).alloc (.cells (ob0 w.heap.size n f) 115)) := by
  have hs : (w.alloc (.cells (madeCells #[.map none] n) 108)).heap.size = w.heap.size + 1 := by simp
  have h1 := heap_alloc_at (w.alloc (.cells (madeCells #[.map none] n) 108)) (.cells (ob0 w.heap.size n f) 115)
  rw [hs] at h1
  have h2 := (heap_alloc_past (w.alloc (.cells (madeCells #[.map none] n) 108)) (.cells (ob0 w.heap.size n f) 115) (k := w.heap.size) (by omega)).trans (heap_alloc_at w _)
  refine ⟨⟨_, h1, rfl, rfl, rfl, rfl, ob0_c _ _ _, ob0_q _ _ _⟩, ⟨_, h2, by simp [madeCells], fun i hi => ?_⟩, ((Below.refl _ _).alloc (Nat.le_refl _) _).alloc (by simp) _⟩
  simp [madeCells, mv, Nat.mod_one, hi]
theorem start_fr (w wr : World) (n f : Nat) (h1 : 1 ≤ n) (h2 : n ≤ 65536) (h3 : f ≤ n) (ho : OB wr (w.heap.size + 1) w.heap.size n f 0 (fun k => if k = 17 then (n : Int) else 0) (fun k => if k < 17 then (n : Int) else 0)) (hr : RB wr w.heap.size n (fun _ => 17) (fun _ => 0)) : FX (Lw w.heap.size) wr (w.heap.size + 1) (nwS n f 0) := by
  have hcl : ∀ i, (nwS n f 0).cl i = 17 := fun i => by simp [nwS]
  refine ⟨w.heap.size, fun _ => 0, 0, ho.congr (fun k hk => ?_) (fun k hk => if_pos hk), ?_, fun i _ hc => absurd (hcl i) hc, fun i j _ _ hc _ _ => absurd (hcl i) hc, h1, fun i hi => by omega, ⟨h1, h2, h3, fun i => by rw [hcl]; omega, fun i hi => ⟨fun _ => by simp [nwS], fun hc => absurd (hcl i) hc⟩, fun k => by simp only [nwS]; omega⟩, (fun e => by have : w.heap.size + 1 < w.heap.size := e; omega), (fun e => by have : w.heap.size < w.heap.size := e; omega), fun i _ hc => absurd (hcl i) hc⟩
  · rw [nwS_ct]
    by_cases e : k = 17
    · rw [if_pos e, if_pos e]
    · rw [if_neg e, if_neg e]; rfl
  · obtain ⟨rs, r1, r2, r3⟩ := hr.blk
    exact ⟨rs, r1, r2, fun i hi => by rw [r3 i hi]; simp [mv, hcl]⟩
set_option maxHeartbeats 800000 in
theorem fnew_yes (n f : Nat) (w : World) (h1 : 1 ≤ n) (h2 : n ≤ 65536) (h3 : f ≤ n) : Calls Tryz.prog 16 #[.int .i64 n, .int .i64 f] w fun e w' => ∃ D, e = .returned (.tuple #[.pointer (some ⟨D, 0, none⟩), .int .i64 0]) ∧ FX (Lw w.heap.size) w' D (nwS n f f) ∧ Below w.heap.size w w' := by
  have hmk := make_row w n h2
  have HS : Hid (_) := start_new w n f
  go_enter Tryz.func16, Tryz.ntmps16
  go_wp2_with fail
  go_loopw [34] (fun i wr => ∃ j : Nat, j ≤ 17 ∧ i = .int .i64 j ∧ Hid (OB wr (w.heap.size + 1) w.heap.size n f 0 (fun k => if k = 17 then (n : Int) else 0) (fun k => if k < j then (n : Int) else 0) ∧ RB wr w.heap.size n (fun _ => 17) (fun _ => 0) ∧ Below w.heap.size w wr)) (fun i _ => 17 - (intOf i).toNat)
  case atStart => exact ⟨0, by omega, rfl, HS.out⟩
  case round =>
    obtain ⟨j, hj, rfl, HJ⟩ := hrel
    by_cases hjn : j < 17
    · have hjn' : (j : Int) < 17 := by omega
      have cq := HJ.out.1.cq hjn
      have fq := HJ.out.1.fz (21 + j)
      have hl := HJ.out.1.lt
      have HN : Hid (OB (wr.setCell ⟨w.heap.size + 1, 21 + j, none⟩ (.int .i64 n)) (w.heap.size + 1) w.heap.size n f 0 (fun k => if k = 17 then (n : Int) else 0) (fun k => if k < j + 1 then (n : Int) else 0) ∧ RB (wr.setCell ⟨w.heap.size + 1, 21 + j, none⟩ (.int .i64 n)) w.heap.size n (fun _ => 17) (fun _ => 0) ∧ Below w.heap.size w (wr.setCell ⟨w.heap.size + 1, 21 + j, none⟩ (.int .i64 n))) := by
        obtain ⟨o1, t1⟩ := HJ.out.1.setQ hjn (n : Int)
        obtain ⟨_, hR, hB⟩ := HJ.out
        rw [below_succ] at o1
        exact ⟨o1, hR.keep (t1.block _ hR.lt (by omega)), t1.os.trans hB.os, t1.tape.trans hB.tape, t1.output.trans hB.output, Nat.le_trans hB.size t1.size, fun k hk => (t1.block k (Nat.lt_of_lt_of_le hk hB.size) (by omega)).trans (hB.block k hk)⟩
      go_wp2_with fail
      go_roundw
      case rel => exact ⟨j + 1, by omega, by go_num, HN.out⟩
      case measure => simp [intOf]; omega
    · obtain rfl : j = 17 := by omega
      have HF : Hid (FX (Lw w.heap.size) wr (w.heap.size + 1) (nwS n f 0) ∧ Below w.heap.size w wr) := ⟨start_fr w wr n f h1 h2 h3 HJ.out.1 HJ.out.2.1, HJ.out.2.2⟩
      clear HJ HS
      go_wp2_with fail
      simp only [show decide (n < f) = false from decide_eq_false (by omega), Bool.or_false, show ((17 : Nat) : Int) = 17 from rfl]
      go_loopw [45] (fun i wq => ∃ j : Nat, j ≤ f ∧ i = .int .i64 j ∧ Hid (FX (Lw w.heap.size) wq (w.heap.size + 1) (nwS n f j) ∧ Below w.heap.size w wq)) (fun i _ => f - (intOf i).toNat)
      case atStart => exact ⟨0, by omega, rfl, HF.out⟩
      case round =>
        obtain ⟨j, hj, rfl, HJ⟩ := hrel
        by_cases hjn : j < f
        · have hjn' : (j : Int) < f := by omega
          go_wp2_with fail
          obtain ⟨⟨r, C, s, hf⟩, hb⟩ := HJ.out
          have e17 : (nwS n f j).cl j = 17 := by simp [nwS]
          have P := pass_give hf (i := j) (b := 0) (show j < n by omega) (by rw [e17]; decide) (by omega) (fun k hk h => by have : k < w.heap.size := h; have := hb.size; omega)
          rw [e17, nwS_succ] at P
          refine P.mono ?_
          rintro e w2 ⟨rfl, hf2, ht2⟩
          have HN : Hid (FX (Lw w.heap.size) w2 (w.heap.size + 1) (nwS n f (j + 1)) ∧ Below w.heap.size w w2) := ⟨hf2, hb.trans (ht2.below hb.size (fun _ h => h))⟩
          clear hf2 ht2 P hf hb
          go_wp2_with fail
          go_roundw
          case rel => exact ⟨j + 1, by omega, by go_num, HN.out⟩
          case measure => simp [intOf]; omega
        · obtain rfl : j = f := by omega
          go_wp2_with fail
          go_ret2
          exact ⟨_, rfl, HJ.out⟩
end Go.Proofs.YteghkhdpdeiocaaGreatDoor
