/-
  The law HartNobody: without registers, file or bus there is no step.
-/
import Derived.Test.YtghpkbgfpagpgaaGreatDoorQN
namespace Go.Proofs.YtghpkbgfpagpgaaGreatDoor
open Go.RowKit
set_option linter.unusedVariables false
set_option maxRecDepth 20000

/-- what a law is given: a state of thirty-four cells, and what its slices hold -/
structure Given (W : World) (cs : Array Value) (X R : Nat → Int) (pc mode sec : Int) (iN wN pN : Nat) (xs : List I5) (ws : List Int) (ps : List (Int × Int)) (ia wa pa : Option Addr) (iC wC pC : Nat) : Prop where
  kX : ∀ n, n < 16 → cs[n]? = some (.int .u64 (X n))
  k16 : cs[16]? = some (.int .u64 pc)
  k17 : cs[17]? = some (.int .i64 mode)
  kR : ∀ n, n < 12 → cs[18 + n]? = some (.int .u64 (R n))
  k30 : cs[30]? = some (.slice ia iN iC)
  k31 : cs[31]? = some (.slice wa wN wC)
  k32 : cs[32]? = some (.slice pa pN pC)
  k33 : cs[33]? = some (.int .i64 sec)
  size : cs.size = 34
  one : cs.all (·.oneCell') = true
  hX : ∀ n, n < 16 → C.U (X n)
  hpc : C.U pc
  hR : ∀ n, n < 12 → C.U (R n)
  hi : InsnsIn W ia iN xs
  hiC : iN ≤ iC
  hiM : iC ≤ 9223372036854775807
  hw : WordsIn W wa wN ws
  hwC : wN ≤ wC
  hwM : wC ≤ 9223372036854775807
  hwn : wa = none → wN = 0 ∧ wC = 0
  hp : PokesIn W pa pN ps
  hpC : pN ≤ pC
  hpM : pC ≤ 9223372036854775807
  hsz : (wN + iN) * 4 ≤ 140737488355328
/-- both, of a world that has grown -/
theorem Given.both {W W1 : World} {cs : Array Value} {X R : Nat → Int} {pc mode sec : Int} {iN wN pN : Nat} {xs : List I5} {ws : List Int} {ps : List (Int × Int)} {ia wa pa : Option Addr} {iC wC pC : Nat} (h : Given W cs X R pc mode sec iN wN pN xs ws ps ia wa pa iC wC pC) (hz : SZ W) (hb : Below W.heap.size W W1) :
    Calls Tryz.prog 9 #[.agg cs] W1 fun e W' => ∃ b g c h F G B Q, e = .returned (.tuple #[.pointer (some ⟨F, 0, none⟩), .pointer (some ⟨G, 0, none⟩), .pointer (some ⟨B, 0, none⟩), .pointer (some ⟨Q, 0, none⟩), .bool true]) ∧
      Made W1 W' b g c h F G B Q (memW pc (ws ++ xs.map I5.enc) (memP ps (List.replicate 3072 0) pN) (wN + iN)) R sec :=
  both_any cs R pc sec ia wa pa iN iC wN wC pN pC xs ws ps W1 h.k16 h.k30 h.k31 h.k32 h.k33 h.kR (hz.below hb) h.hpc h.hR h.size (h.hi.below rfl hb) h.hiC h.hiM (h.hw.below rfl hb) h.hwC h.hwM h.hwn (h.hp.below rfl hb) h.hpC h.hpM h.hsz
/-- the registers in a state -/
theorem Given.regs {W : World} {cs : Array Value} {X R : Nat → Int} {pc mode sec : Int} {iN wN pN : Nat} {xs : List I5} {ws : List Int} {ps : List (Int × Int)} {ia wa pa : Option Addr} {iC wC pC : Nat} (h : Given W cs X R pc mode sec iN wN pN xs ws ps ia wa pa iC wC pC) :
    (regC X pc mode).size = 18 ∧ (∀ n, n < 16 → (regC X pc mode)[n]? = some (.int .u64 (X n))) ∧ ∀ (w : World) (A : Nat), w.heap[A]? = some (.cells cs 31 (0, 0)) → w.rangeAt A 0 (regC X pc mode).toList := by
  have e : ∀ n, n < 16 → (regC X pc mode)[n]? = some (.int .u64 (X n)) := fun n hn => by
    match n, hn with
    | 0, _ | 1, _ | 2, _ | 3, _ | 4, _ | 5, _ | 6, _ | 7, _ | 8, _ | 9, _ | 10, _ | 11, _ | 12, _ | 13, _ | 14, _ | 15, _ => rfl
    | k + 16, h => omega
  refine ⟨rfl, e, fun w A ha j v hv => ?_⟩
  rw [Nat.zero_add, C.cell_at ha]
  have hv' : (regC X pc mode)[j]? = some v := by simpa using hv
  have hj : j < 18 := (Array.getElem?_eq_some_iff.1 hv').1
  by_cases h16 : j < 16
  · rw [e j h16] at hv'
    rw [h.kX j h16, hv']
  · have : j = 16 ∨ j = 17 := by omega
    rcases this with rfl | rfl
    · rw [h.k16]; exact hv'
    · rw [h.k17]; exact hv'
theorem reg_one (X : Nat → Int) (pc mode : Int) : (regC X pc mode).all (·.oneCell') = true := by simp [regC, Value.oneCell']

theorem new_row (w : World) (old rc : Array Value) (t : TypeId) : ((w.alloc (.cells old t)).setRow w.heap.size rc).heap[w.heap.size]? = some (.cells rc t (0, 0)) ∧ Below w.heap.size w ((w.alloc (.cells old t)).setRow w.heap.size rc) ∧ ((w.alloc (.cells old t)).setRow w.heap.size rc).heap.size = w.heap.size + 1 := by
  refine ⟨setRow_heap _ _ old rc t _ (C.heap_alloc_at w _), ?_, by simp [World.setRow]⟩
  refine ((Below.refl w.heap.size w).alloc (Nat.le_refl _) (.cells old t)).trans ⟨rfl, rfl, rfl, by simp [World.setRow], fun k hk => setRow_other _ _ k _ (by omega)⟩

theorem cells18 {w : World} {k : Nat} {cs : Array Value} {t : TypeId} {X : Nat → Int} {pc mode : Int} (h : w.heap[k]? = some (.cells cs t (0, 0))) (hc : ∀ n, n < 16 → cs[n]? = some (.int .u64 (X n))) (h16 : cs[16]? = some (.int .u64 pc)) (h17 : cs[17]? = some (.int .i64 mode)) :
    w.cell? ⟨k, 0, none⟩ = some (.int .u64 (X 0)) ∧ w.cell? ⟨k, 1, none⟩ = some (.int .u64 (X 1)) ∧ w.cell? ⟨k, 2, none⟩ = some (.int .u64 (X 2)) ∧ w.cell? ⟨k, 3, none⟩ = some (.int .u64 (X 3)) ∧ w.cell? ⟨k, 4, none⟩ = some (.int .u64 (X 4)) ∧ w.cell? ⟨k, 5, none⟩ = some (.int .u64 (X 5)) ∧ w.cell? ⟨k, 6, none⟩ = some (.int .u64 (X 6)) ∧ w.cell? ⟨k, 7, none⟩ = some (.int .u64 (X 7)) ∧
    w.cell? ⟨k, 8, none⟩ = some (.int .u64 (X 8)) ∧ w.cell? ⟨k, 9, none⟩ = some (.int .u64 (X 9)) ∧ w.cell? ⟨k, 10, none⟩ = some (.int .u64 (X 10)) ∧ w.cell? ⟨k, 11, none⟩ = some (.int .u64 (X 11)) ∧ w.cell? ⟨k, 12, none⟩ = some (.int .u64 (X 12)) ∧ w.cell? ⟨k, 13, none⟩ = some (.int .u64 (X 13)) ∧ w.cell? ⟨k, 14, none⟩ = some (.int .u64 (X 14)) ∧ w.cell? ⟨k, 15, none⟩ = some (.int .u64 (X 15)) ∧
    w.cell? ⟨k, 16, none⟩ = some (.int .u64 pc) ∧ w.cell? ⟨k, 17, none⟩ = some (.int .i64 mode) ∧ k < w.heap.size := by
  refine ⟨?_, ?_, ?_, ?_, ?_, ?_, ?_, ?_, ?_, ?_, ?_, ?_, ?_, ?_, ?_, ?_, ?_, ?_, lt_of_heap h⟩
  all_goals rw [C.cell_at h]
  any_goals exact hc _ (by decide)
  · exact h16
  · exact h17

theorem und41 : ∃ fs, Tryz.prog.underlying 41 = some (.struct fs) := ⟨_, Tryz.underlying41⟩
theorem inf41 : (Tryz.prog.info? 41).map (·.size) = some 6 := by kernel_rfl
theorem eq_none (w : World) : (Op.equalIn 10000 41 (.agg #[.int .i64 0, .int .i64 0, .int .u64 0, .int .u64 0, .bool false, .bool false]) (.agg #[.int .i64 0, .int .i64 0, .int .u64 0, .int .u64 0, .bool false, .bool false])).run Tryz.prog w = .ok true w := by kernel_rfl

set_option maxHeartbeats 4000000 in
theorem nobody_law {W : World} {cs : Array Value} {X R : Nat → Int} {pc mode sec : Int} {iN wN pN : Nat} {xs : List I5} {ws : List Int} {ps : List (Int × Int)} {ia wa pa : Option Addr} {iC wC pC : Nat} (hG : Given W cs X R pc mode sec iN wN pN xs ws ps ia wa pa iC wC pC) (hz : SZ W) :
    Calls Tryz.prog 3 #[.agg cs] W fun e W' => e = .returned (.bool true) ∧ Below W.heap.size W W' := by
  obtain ⟨fs31, hu31⟩ := und31
  obtain ⟨fs25, hu25⟩ := und25
  have hb0 : Below W.heap.size W (W.alloc (.cells cs 31)) := (Below.refl _ _).alloc (Nat.le_refl _) _
  have BO := hG.both hz hb0
  have hi31 : (Tryz.prog.info? 31).map (·.size) = some cs.size := by rw [hG.size]; exact inf31
  have hA0 := C.heap_alloc_at W (.cells cs 31)
  obtain ⟨rs, rX, hrg⟩ := hG.regs
  have hi25 : (Tryz.prog.info? 25).map (·.size) = some (regC X pc mode).toList.length := by rw [Array.length_toList, rs]; exact inf25
  have EQ := eq_regs (regC X pc mode) X pc mode rX rfl rfl
  have r1 := reg_one X pc mode
  have r16 : (regC X pc mode)[16]? = some (.int .u64 pc) := rfl
  have r17 : (regC X pc mode)[17]? = some (.int .i64 mode) := rfl
  have EQ2 := EQ
  generalize regC X pc mode = rc at *
  have HE : Hid (_) := EQ2
  clear EQ EQ2
  have HA0 : Hid ((W.alloc (.cells cs 31)).heap[W.heap.size]? = some (.cells cs 31 (0, 0))) := hA0
  have HB0 : Hid (_) := hb0
  have HG : Hid (_) := hG
  clear hz hG hb0 hA0
  go_enter Tryz.func3, Tryz.ntmps3
  go_wp2_with (refine wpList_load_row rfl 31 _ rfl W.heap.size rfl 31 cs (0, 0) _ HA0.out hu31 rfl hi31 ?_)
  refine BO.mono ?_
  rintro e x1 ⟨b, g, c, h, F, G, B, Q, rfl, md⟩
  have hA1 : x1.heap[W.heap.size]? = some (.cells cs 31 (0, 0)) := keepB HA0.out md.bl
  have H1 : Hid (Below W.heap.size W x1) := HB0.out.trans (md.bl.mono (by simp))
  have HF1 : Hid (_) := md.ff
  have HA1 : Hid (x1.heap[W.heap.size]? = some (.cells cs 31 (0, 0))) := hA1
  have hl1 := lt_of_heap hA1
  clear BO md hA1 HA0 HB0
  go_wp2_with (first | refine wpList_load_mid rfl 25 _ rfl W.heap.size 0 rfl rc.toList _ (hrg _ _ HA1.out) hu25 rfl hi25 ?_ | refine wpList_store_row rfl 25 _ _ rfl x1.heap.size rc rfl rfl 25 _ (C.heap_alloc_at x1 _) (by rw [← Array.length_toList]; exact hi25) (by rw [rs]; rfl) r1 ?_ | fail)
  have nr := fun old => new_row x1 old rc 25
  generalize hy1 : World.setRow _ _ _ = y1
  obtain ⟨n1, n2, n3⟩ : y1.heap[x1.heap.size]? = some (.cells rc 25 (0, 0)) ∧ Below x1.heap.size x1 y1 ∧ y1.heap.size = x1.heap.size + 1 := by rw [← hy1]; exact nr _
  have hs1 := H1.out.size
  have N1 : Hid (y1.heap[x1.heap.size]? = some (.cells rc 25 (0, 0))) := n1
  have A2 : Hid (y1.heap[W.heap.size]? = some (.cells cs 31 (0, 0))) := (n2.block _ hl1).trans HA1.out
  have F2 : Hid (C.FF y1 F R) := HF1.out.below n2
  have H2 : Hid (Below W.heap.size W y1) := H1.out.trans (n2.mono hs1)
  clear nr hy1 n1 n2 H1 HF1 HA1
  refine (step_no_regs _ _ _).mono ?_
  rintro e x2 ⟨rfl, b2⟩
  have N3 : Hid (x2.heap[x1.heap.size]? = some (.cells rc 25 (0, 0))) := keepB N1.out b2
  have A3 : Hid (x2.heap[W.heap.size]? = some (.cells cs 31 (0, 0))) := keepB A2.out b2
  have F3 : Hid (C.FF x2 F R) := F2.out.below b2
  have H3 : Hid (Below W.heap.size W x2) := H2.out.trans (b2.mono H2.out.size)
  clear N1 A2 F2 H2 b2
  unfold resV
  go_wp2_with fail
  have b3 : Below x2.heap.size x2 (x2.alloc (.cells #[.int .i64 0, .int .i64 0, .int .u64 0, .int .u64 0, .bool false, .bool false] 41)) := (Below.refl _ _).alloc (Nat.le_refl _) _
  have P3 : Hid (_) := C.heap_alloc_at x2 (.cells #[.int .i64 0, .int .i64 0, .int .u64 0, .int .u64 0, .bool false, .bool false] 41)
  refine (step_no_file x1.heap.size _ _ _ (.inl rfl)).mono ?_
  rintro e x3 ⟨rfl, b4⟩
  have b5 := b3.trans (b4.mono b3.size)
  have N4 : Hid (x3.heap[x1.heap.size]? = some (.cells rc 25 (0, 0))) := keepB N3.out b5
  have A4 : Hid (x3.heap[W.heap.size]? = some (.cells cs 31 (0, 0))) := keepB A3.out b5
  have F4 : Hid (C.FF x3 F R) := F3.out.below b5
  have H4 : Hid (Below W.heap.size W x3) := H3.out.trans (b5.mono H3.out.size)
  have P4 : Hid (x3.heap[x2.heap.size]? = some (.cells #[.int .i64 0, .int .i64 0, .int .u64 0, .int .u64 0, .bool false, .bool false] 41 (0, 0))) := keepB P3.out b4
  clear N3 A3 F3 H3 P3 b3 b4 b5
  unfold resV
  go_wp2_with fail
  have b3 : Below x3.heap.size x3 ((x3.alloc (.cells #[.int .i64 0, .int .i64 0, .int .u64 0, .int .u64 0, .bool false, .bool false] 41)).alloc (.cells #[.bool false, .int .u64 0, .int .u64 0, .int .u64 0, .int .u64 0, .int .u64 0, .int .u64 0, .int .u64 0, .int .u64 0, .int .u64 0, .int .u64 0, .int .u64 0, .int .u64 0] 47)) := ((Below.refl _ _).alloc (Nat.le_refl _) _).alloc (by simp) _
  have P5 : Hid (((x3.alloc (.cells #[.int .i64 0, .int .i64 0, .int .u64 0, .int .u64 0, .bool false, .bool false] 41)).alloc (.cells #[.bool false, .int .u64 0, .int .u64 0, .int .u64 0, .int .u64 0, .int .u64 0, .int .u64 0, .int .u64 0, .int .u64 0, .int .u64 0, .int .u64 0, .int .u64 0, .int .u64 0] 47)).heap[x3.heap.size]? = some (.cells #[.int .i64 0, .int .i64 0, .int .u64 0, .int .u64 0, .bool false, .bool false] 41 (0, 0))) := by
    have e := C.heap_alloc_past (x3.alloc (.cells #[.int .i64 0, .int .i64 0, .int .u64 0, .int .u64 0, .bool false, .bool false] 41)) (.cells #[.bool false, .int .u64 0, .int .u64 0, .int .u64 0, .int .u64 0, .int .u64 0, .int .u64 0, .int .u64 0, .int .u64 0, .int .u64 0, .int .u64 0, .int .u64 0, .int .u64 0] 47) (k := x3.heap.size) (by simp)
    exact e.trans (C.heap_alloc_at x3 _)
  refine (step_no_file x1.heap.size _ _ _ (.inr ⟨x3.heap.size + 1, rfl, ?noF⟩)).mono ?_
  case noF =>
    have e := C.heap_alloc_at (x3.alloc (.cells #[.int .i64 0, .int .i64 0, .int .u64 0, .int .u64 0, .bool false, .bool false] 41)) (.cells #[.bool false, .int .u64 0, .int .u64 0, .int .u64 0, .int .u64 0, .int .u64 0, .int .u64 0, .int .u64 0, .int .u64 0, .int .u64 0, .int .u64 0, .int .u64 0, .int .u64 0] 47)
    have e2 : (x3.alloc (.cells #[.int .i64 0, .int .i64 0, .int .u64 0, .int .u64 0, .bool false, .bool false] 41)).heap.size = x3.heap.size + 1 := by simp
    rw [e2] at e
    rw [C.cell_at e]
    rfl
  rintro e x4 ⟨rfl, b4⟩
  have b5 := b3.trans (b4.mono b3.size)
  have N6 : Hid (x4.heap[x1.heap.size]? = some (.cells rc 25 (0, 0))) := keepB N4.out b5
  have A6 : Hid (x4.heap[W.heap.size]? = some (.cells cs 31 (0, 0))) := keepB A4.out b5
  have F6 : Hid (C.FF x4 F R) := F4.out.below b5
  have H6 : Hid (Below W.heap.size W x4) := H4.out.trans (b5.mono H4.out.size)
  have P6 : Hid (x4.heap[x2.heap.size]? = some (.cells #[.int .i64 0, .int .i64 0, .int .u64 0, .int .u64 0, .bool false, .bool false] 41 (0, 0))) := keepB P4.out b5
  have Q6 : Hid (x4.heap[x3.heap.size]? = some (.cells #[.int .i64 0, .int .i64 0, .int .u64 0, .int .u64 0, .bool false, .bool false] 41 (0, 0))) := keepB P5.out b4
  clear N4 A4 F4 H4 P4 P5 b3 b4 b5
  unfold resV
  go_wp2_with fail
  have b3 : Below x4.heap.size x4 (x4.alloc (.cells #[.int .i64 0, .int .i64 0, .int .u64 0, .int .u64 0, .bool false, .bool false] 41)) := (Below.refl _ _).alloc (Nat.le_refl _) _
  have P7 : Hid (_) := C.heap_alloc_at x4 (.cells #[.int .i64 0, .int .i64 0, .int .u64 0, .int .u64 0, .bool false, .bool false] 41)
  refine (step_no_bus x1.heap.size F R _ (F6.out.below b3)).mono ?_
  rintro e x5 ⟨rfl, b4⟩
  have b5 := b3.trans (b4.mono b3.size)
  have n8 := keepB N6.out b5
  have a8 := keepB A6.out b5
  have H8 : Hid (Below W.heap.size W x5) := H6.out.trans (b5.mono H6.out.size)
  have p8 := keepB P6.out b5
  have q8 := keepB Q6.out b5
  have s8 := keepB P7.out b4
  obtain ⟨fs41, hu41⟩ := und41
  have hN : Hid (x5.rangeAt x1.heap.size 0 rc.toList) := range_of n8
  have hA : Hid (x5.rangeAt W.heap.size 0 rc.toList) := hrg _ _ a8
  have EQ := HE.out
  have EN := eq_none
  have b6 : Below x5.heap.size x5 ((x5.alloc (.cells #[.int .i64 0, .int .i64 0, .int .u64 0, .int .u64 0, .bool false, .bool false] 41)).alloc (.cells #[.int .i64 0, .int .i64 0, .int .u64 0, .int .u64 0, .bool false, .bool false] 41)) := ((Below.refl _ _).alloc (Nat.le_refl _) _).alloc (by simp) _
  have k1 := range_of (keepB p8 b6)
  have k2 := range_of (keepB q8 b6)
  have k3 := range_of (keepB s8 b6)
  have k6 := range_of (keepB n8 b6)
  have k7 := hrg _ _ (keepB a8 b6)
  have z5 := C.heap_alloc_at x5 (.cells #[.int .i64 0, .int .i64 0, .int .u64 0, .int .u64 0, .bool false, .bool false] 41)
  have k4 := range_of (keepB z5 ((Below.refl _ _).alloc (Nat.le_refl _) (.cells #[.int .i64 0, .int .i64 0, .int .u64 0, .int .u64 0, .bool false, .bool false] 41)))
  have k5 := range_of (C.heap_alloc_at (x5.alloc (.cells #[.int .i64 0, .int .i64 0, .int .u64 0, .int .u64 0, .bool false, .bool false] 41)) (.cells #[.int .i64 0, .int .i64 0, .int .u64 0, .int .u64 0, .bool false, .bool false] 41))
  have e5 : (x5.alloc (.cells #[.int .i64 0, .int .i64 0, .int .u64 0, .int .u64 0, .bool false, .bool false] 41)).heap.size = x5.heap.size + 1 := by simp
  rw [e5] at k5
  clear N6 A6 F6 H6 P6 Q6 P7 b3 b4 b5 b6 n8 a8 p8 q8 s8 HG z5
  unfold resV
  go_wp2_with (first
    | refine wpList_load_at rfl 41 _ rfl _ 0 rfl _ _ k1 hu41 rfl inf41 ?_
    | refine wpList_load_at rfl 41 _ rfl _ 0 rfl _ _ k2 hu41 rfl inf41 ?_
    | refine wpList_load_at rfl 41 _ rfl _ 0 rfl _ _ k3 hu41 rfl inf41 ?_
    | refine wpList_load_at rfl 41 _ rfl _ 0 rfl _ _ k4 hu41 rfl inf41 ?_
    | refine wpList_load_at rfl 41 _ rfl _ 0 rfl _ _ k5 hu41 rfl inf41 ?_
    | refine wpList_load_at rfl 25 _ rfl _ 0 rfl _ _ k6 hu25 rfl hi25 ?_
    | refine wpList_load_at rfl 25 _ rfl _ 0 rfl _ _ k7 hu25 rfl hi25 ?_
    | refine wpList_eql_agg rfl 41 _ _ rfl _ _ rfl rfl Tryz.eqGuardType41 true (EN _) ?_
    | refine wpList_eql_agg rfl 25 _ _ rfl _ _ rfl rfl Tryz.eqGuardType25 true (EQ _) ?_
    | fail)
  go_ret
  exact ⟨rfl, (H8.out.alloc H8.out.size _).alloc (by have := H8.out.size; simp; omega) _⟩
end Go.Proofs.YtghpkbgfpagpgaaGreatDoor
