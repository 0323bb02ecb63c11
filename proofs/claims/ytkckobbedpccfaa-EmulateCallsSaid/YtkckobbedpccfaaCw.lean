/-
  The walk of EmulateCalls.
-/
import Derived.Test.YtkckobbedpccfaaRa
namespace Go.Proofs.Ytkckobbedpccfaa
open Go.RowKit
set_option linter.unusedVariables false
set_option maxRecDepth 100000
theorem inf24 : (Try.prog.info? 24).map (·.size) = some 3 := by kernel_rfl
theorem eqg24 : Try.prog.eqGuardType Try.prog.depth 24 = false := by kernel_rfl
theorem eqg27 : Try.prog.eqGuardType Try.prog.depth 27 = false := by kernel_rfl
/-- what stands through the walk -/
structure CW (w d : World) (A : Nat) (c v g : Int) (X : Nat → Int) (pc m : Int) : Prop where
  tr : d.heap[w.heap.size]? = some (.cells #[.int .i64 c, .int .u64 v, .int .u64 g] 24 (0, 0))
  rg : d.heap[w.heap.size + 1]? = some (.cells (regC X pc m) 27 (0, 0))
  ar : d.heap[A]? = some (.cells (argA X) 28 (0, 0))
  bl : Below w.heap.size w d
theorem CW.below {w d d' : World} {A : Nat} {c v g : Int} {X : Nat → Int} {pc m : Int} (h : CW w d A c v g X pc m) (hb : Below d.heap.size d d') : CW w d' A c v g X pc m := ⟨keepB h.tr hb, keepB h.rg hb, keepB h.ar hb, h.bl.trans (hb.mono h.bl.size)⟩
theorem below_drew' (w : World) : Below w.heap.size w w.drew := (Below.refl _ _).drew
theorem argA_at (X : Nat → Int) (j : Nat) (h : j < 4) : (argA X)[j]? = some (.int .u64 (X (11 + j))) := by
  match j, h with
  | 0, _ | 1, _ | 2, _ | 3, _ => rfl
  | k + 4, h => omega
set_option maxHeartbeats 3200000 in
theorem callsWalk (c v g : Int) (X : Nat → Int) (pc m u : Int) (w : World) : Calls Try.prog 3 #[.agg #[.int .i64 c, .int .u64 v, .int .u64 g], .agg (regC X pc m), .int .u64 u] w fun e w' => e = .returned (.bool true) ∧ Below w.heap.size w w' := by
  obtain ⟨x, hx⟩ : ∃ x, (w.alloc (.cells #[.int .i64 c, .int .u64 v, .int .u64 g] 24)).alloc (.cells (regC X pc m) 27) = x := ⟨_, rfl⟩
  obtain ⟨b0, a0, a1, zx⟩ := two_at hx
  have C1 := call_any X pc m x
  unfold argA at C1
  have HA0 : Hid (_) := a0
  have HA1 : Hid (_) := a1
  have HB0 : Hid (_) := b0
  clear a0 a1 b0 zx
  go_enter Try.func3, Try.ntmps3
  go_wp2_with (first
    | (refine wpList_load_row rfl 27 _ rfl (w.heap.size + 1) rfl 27 (regC X pc m) (0, 0) _ HA1.out Try.underlying27 rfl inf25 ?_)
    | fail)
  clear hx
  refine C1.mono ?_
  rintro r y ⟨rfl, b1⟩
  clear C1
  obtain ⟨y2, hy2⟩ : ∃ y2, y.alloc (.cells #[.int .u64 (X 11), .int .u64 (X 12), .int .u64 (X 13), .int .u64 (X 14)] 28) = y2 := ⟨_, rfl⟩
  have by2 : Below y.heap.size y y2 := by rw [← hy2]; exact below_box _ _
  have HT : Hid (y2.heap[w.heap.size]? = some (.cells #[.int .i64 c, .int .u64 v, .int .u64 g] 24 (0, 0))) := keepB ((b1.block _ (lt_of_heap HA0.out)).trans HA0.out) by2
  have HR : Hid (y2.heap[w.heap.size + 1]? = some (.cells (regC X pc m) 27 (0, 0))) := keepB ((b1.block _ (lt_of_heap HA1.out)).trans HA1.out) by2
  have HA : Hid (y2.heap[y.heap.size]? = some (.cells #[.int .u64 (X 11), .int .u64 (X 12), .int .u64 (X 13), .int .u64 (X 14)] 28 (0, 0))) := by rw [← hy2]; exact heap_alloc_at _ _
  have HB : Hid (Below w.heap.size w y2) := HB0.out.trans ((b1.trans (by2.mono b1.size)).mono HB0.out.size)
  clear by2 b1 HA0 HA1 HB0
  go_upto_region 2 with fail
  clear hy2
  generalize y.heap.size = A at *
  have q10 : y2.cell? ⟨w.heap.size + 1, 10, none⟩ = some (.int .u64 (X 10)) := (cell_at HR.out 10).trans rfl
  have l2 := lt_of_heap HR.out
  have l1 := lt_of_heap HT.out
  have hne := above_here y2
  have hab : ∀ (s : Above y2) b o, b < y2.heap.size → s.wld.cell? ⟨b, o, none⟩ = y2.cell? ⟨b, o, none⟩ := fun s b o h => s.bel.cell (p := ⟨b, o, none⟩) h
  have hsz : ∀ (s : Above y2) b, b < y2.heap.size → b < s.wld.heap.size := fun s b h => Nat.lt_of_lt_of_le h s.bel.size
  have E1 := fun s : Above y2 => fault_any c v g s.wld
  have E2 := fun s : Above y2 => rfault_any c v g s.wld
  have HTR : Hid (∀ s : Above y2, s.wld.rangeAt w.heap.size 0 (#[.int .i64 c, .int .u64 v, .int .u64 g] : Array Value).toList) := fun s => range_of (keepB HT.out s.bel)
  have ET : ∀ W : World, (Op.equalIn 10000 24 (.agg #[.int .i64 (faultF c), .int .u64 v, .int .u64 0]) (.agg #[.int .i64 (faultF c), .int .u64 v, .int .u64 0])).run Try.prog W = .ok true W := fun W => by rw [eq_trap]; simp
  generalize faultF c = f at *
  refine wp_region_above (by kernel_rfl) (by kernel_rfl) ?_
  repeat (first
    | go_big_quiet_skip
    | (go_big_quiet_want; refine quiet_load 24 _ rfl w.heap.size 0 rfl (#[.int .i64 c, .int .u64 v, .int .u64 g] : Array Value).toList _ (fun w' ⟨s, hs⟩ => by rw [hs]; exact HTR.out s) Try.underlying24 rfl inf24 ?_; simp only [Act.put, List.setIfInBounds_toArray, List.set_cons_zero, List.set_cons_succ]; go_big_quiet_on)
    | (go_big_quiet_want; refine quiet_neq 24 _ _ rfl #[.int .i64 f, .int .u64 v, .int .u64 0] #[.int .i64 f, .int .u64 v, .int .u64 0] rfl rfl eqg24 true ET ?_; simp only [Act.put, Bool.not_true, List.setIfInBounds_toArray, List.set_cons_zero, List.set_cons_succ]; go_big_quiet_on)
    | (go_big_quiet_want; go_big_quiet_op; go_big_quiet_on)
    | (go_big_quiet_want; go_big_quiet_op; apply Exists.intro; refine ⟨fun s => ?_, ?_⟩; exact above_call s (E1 s); go_big_quiet_on)
    | (go_big_quiet_want; go_big_quiet_op; apply Exists.intro; refine ⟨fun s => ?_, ?_⟩; exact above_call s (E2 s); go_big_quiet_on))
  refine wpQuiet_nil ?_
  rintro _ ⟨s, rfl⟩
  have HC : Hid (CW w s.wld A c v g X pc m) := ⟨keepB HT.out s.bel, keepB HR.out s.bel, keepB HA.out s.bel, HB.out.trans (s.bel.mono HB.out.size)⟩
  clear HT HR HA HB HTR ET E1 E2 hab hsz hne q10 l1 l2
  generalize s.wld = d at *
  go_wp2_with fail
  go_loopw [9] (fun p wr => ∃ j : Nat, j ≤ 4 ∧ p = .int .i64 j ∧ Hid (CW w wr A c v g X pc m)) (fun p _ => 4 - (intOf p).toNat)
  case atStart => exact ⟨0, by omega, rfl, HC⟩
  case round =>
    obtain ⟨j, hj, rfl, HJ⟩ := hrel
    clear HC
    by_cases hj4 : j < 4
    · have hj4' : (j : Int) < 4 := by omega
      have hj0 : (0 : Int) ≤ j := by omega
      have cA : wr.cell? ⟨A, j, none⟩ = some (.int .u64 (X (11 + j))) := (cell_at HJ.out.ar j).trans (argA_at X j hj4)
      have cR : wr.cell? ⟨w.heap.size + 1, 11 + j, none⟩ = some (.int .u64 (X (11 + j))) := (cell_at HJ.out.rg (11 + j)).trans (regC_at X pc m (11 + j) (by omega))
      have lA := lt_of_heap HJ.out.ar
      have lR := lt_of_heap HJ.out.rg
      generalize X (11 + j) = x9 at cA cR
      have HF : Hid (CW w wr.drew A c v g X pc m) := HJ.out.below (below_drew' _)
      go_wp2_with fail
      go_region
      go_wp2_with fail
      go_roundw
      case rel => exact ⟨j + 1, by omega, by go_num, HF⟩
      case measure => simp [intOf]; omega
    · obtain rfl : j = 4 := by omega
      go_wp2_with fail
      obtain ⟨z, hz⟩ : ∃ z, wr.alloc (.cells #[.int .i64 0, .int .i64 1, .int .i64 14, .int .i64 50] 3) = z := ⟨_, rfl⟩
      have bz : Below wr.heap.size wr z := by rw [← hz]; exact below_box _ _
      have hz2 : z.heap[wr.heap.size]? = some (.cells #[.int .i64 0, .int .i64 1, .int .i64 14, .int .i64 50] 3 (0, 0)) := by rw [← hz]; exact heap_alloc_at _ _
      have HZ : Hid (CW w z A c v g X pc m ∧ z.heap[wr.heap.size]? = some (.cells #[.int .i64 0, .int .i64 1, .int .i64 14, .int .i64 50] 3 (0, 0))) := ⟨HJ.out.below bz, hz2⟩
      clear bz hz2 HJ
      generalize wr.heap.size = S at *
      go_loopw [44] (fun p wz => ∃ k : Nat, k ≤ 4 ∧ p = .int .i64 k ∧ Hid (CW w wz A c v g X pc m ∧ wz.heap[S]? = some (.cells #[.int .i64 0, .int .i64 1, .int .i64 14, .int .i64 50] 3 (0, 0)))) (fun p _ => 4 - (intOf p).toNat)
      case atStart =>
        rw [hz]
        exact ⟨0, by omega, rfl, HZ⟩
      case round =>
        obtain ⟨k, hk, rfl, HK⟩ := hrel
        clear HZ hz
        by_cases hk4 : k < 4
        · have hk4' : (k : Int) < 4 := by omega
          have hk0 : (0 : Int) ≤ k := by omega
          obtain ⟨e, he⟩ : ∃ e : Int, (#[.int .i64 0, .int .i64 1, .int .i64 14, .int .i64 50] : Array Value)[k]? = some (.int .i64 e) := by
            match k, hk4 with
            | 0, _ => exact ⟨0, rfl⟩
            | 1, _ => exact ⟨1, rfl⟩
            | 2, _ => exact ⟨14, rfl⟩
            | 3, _ => exact ⟨50, rfl⟩
          have cS : wr.cell? ⟨S, k, none⟩ = some (.int .i64 e) := (cell_at HK.out.2 k).trans he
          have lS := lt_of_heap HK.out.2
          clear he
          go_upto_region 12 with fail
          have hne := above_here wr
          have hab : ∀ (s : Above wr) b o, b < wr.heap.size → s.wld.cell? ⟨b, o, none⟩ = wr.cell? ⟨b, o, none⟩ := fun s b o h => s.bel.cell (p := ⟨b, o, none⟩) h
          have hsz : ∀ (s : Above wr) b, b < wr.heap.size → b < s.wld.heap.size := fun s b h => Nat.lt_of_lt_of_le h s.bel.size
          have E1 := fun s : Above wr => answer_any X pc m e u s.wld
          have E2 := fun s : Above wr => ranswer_any X pc m e u s.wld
          have HRR : Hid (∀ s : Above wr, s.wld.rangeAt (w.heap.size + 1) 0 (regC X pc m).toList) := fun s => range_of (keepB HK.out.1.rg s.bel)
          have ER := eq_regs (regC (ansX X e u) (nx pc) m) (ansX X e u) (nx pc) m (fun n hn => regC_at _ _ _ n hn) rfl rfl
          generalize regC (ansX X e u) (nx pc) m = rc at *
          refine wp_region_above (by kernel_rfl) (by kernel_rfl) ?_
          repeat (first
            | go_big_quiet_skip
            | (go_big_quiet_want; refine quiet_load 27 _ rfl (w.heap.size + 1) 0 rfl (regC X pc m).toList _ (fun w' ⟨s, hs⟩ => by rw [hs]; exact HRR.out s) Try.underlying27 rfl inf25 ?_; simp only [Act.put, Array.toArray_toList, List.setIfInBounds_toArray, List.set_cons_zero, List.set_cons_succ]; go_big_quiet_on)
            | (go_big_quiet_want; refine quiet_neq 27 _ _ rfl rc rc rfl rfl eqg27 true ER ?_; simp only [Act.put, Bool.not_true, List.setIfInBounds_toArray, List.set_cons_zero, List.set_cons_succ]; go_big_quiet_on)
            | (go_big_quiet_want; go_big_quiet_op; go_big_quiet_on)
            | (go_big_quiet_want; go_big_quiet_op; apply Exists.intro; refine ⟨fun s => ?_, ?_⟩; exact above_call s (E1 s); go_big_quiet_on)
            | (go_big_quiet_want; go_big_quiet_op; apply Exists.intro; refine ⟨fun s => ?_, ?_⟩; exact above_call s (E2 s); go_big_quiet_on))
          refine wpQuiet_nil ?_
          rintro _ ⟨s, rfl⟩
          have HF : Hid (CW w s.wld A c v g X pc m ∧ s.wld.heap[S]? = some (.cells #[.int .i64 0, .int .i64 1, .int .i64 14, .int .i64 50] 3 (0, 0))) := ⟨HK.out.1.below s.bel, keepB HK.out.2 s.bel⟩
          clear HK HRR ER E1 E2 hab hsz hne cS lS
          go_wp2_with fail
          go_roundw
          case rel => exact ⟨k + 1, by omega, by go_num, HF⟩
          case measure => simp [intOf]; omega
        · obtain rfl : k = 4 := by omega
          go_wp2_with fail
          go_ret
          exact ⟨rfl, HK.out.1.bl⟩
end Go.Proofs.Ytkckobbedpccfaa
