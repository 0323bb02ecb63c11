/-
  What Read and Step tell of nobody, and the law HartNobody.
-/
import Derived.Test.YtghpkbgfpagpgaaGreatDoorBo2
namespace Go.Proofs.YtghpkbgfpagpgaaGreatDoor
open Go.RowKit
set_option linter.unusedVariables false
set_option maxRecDepth 20000

/-- a file that no call made: nil, or a plain one -/
def NoF (w : World) (v : Value) : Prop := v = .pointer none ∨ ∃ F, v = .pointer (some ⟨F, 0, none⟩) ∧ w.cell? ⟨F, 0, none⟩ = some (.bool false)
theorem made_no (v : Value) (w : World) (h : NoF w v) : Calls Tryz.prog 30 #[v] w fun e w' => e = .returned (.bool false) ∧ w' = w := by
  rcases h with rfl | ⟨F, rfl, hc⟩
  · go_enter Tryz.func30, Tryz.ntmps30
    go_wp2
    go_ret
    exact ⟨rfl, rfl⟩
  · have hl := World.block_lt_of_cell? w ⟨F, 0, none⟩ hc
    go_enter Tryz.func30, Tryz.ntmps30
    go_wp2
    go_ret
    exact ⟨rfl, rfl⟩
theorem reach_no (v : Value) (n m : Int) (w : World) (h : NoF w v) : Calls Tryz.prog 61 #[v, .int .i64 n, .int .i64 m] w fun e w' => e = .returned (.int .i64 1) ∧ w' = w := by
  have C := made_no v w h
  clear h
  go_enter Tryz.func61, Tryz.ntmps61
  go_wp2_with fail
  refine C.mono ?_
  rintro e w ⟨rfl, rfl⟩
  go_wp2_with fail
  go_ret
  exact ⟨rfl, rfl⟩
theorem read_no (v : Value) (n m : Int) (w : World) (h : NoF w v) : Calls Tryz.prog 42 #[v, .int .i64 n, .int .i64 m] w fun e w' => e = .returned (.tuple #[.int .u64 0, .int .i64 1]) ∧ w' = w := by
  have C := reach_no v n m w h
  clear h
  go_enter Tryz.func42, Tryz.ntmps42
  go_wp2_with fail
  refine C.mono ?_
  rintro e w ⟨rfl, rfl⟩
  go_wp2_with fail
  go_ret2
  exact ⟨rfl, rfl⟩
/-- what a read tells -/
def readN (R : Nat → Int) (n m : Int) : Int := if C.reachP n m = 0 then R n.toNat else 0
theorem read_ff (F : Nat) (R : Nat → Int) (n m : Int) (w : World) (h : C.FF w F R) : Calls Tryz.prog 42 #[.pointer (some ⟨F, 0, none⟩), .int .i64 n, .int .i64 m] w fun e w' => e = .returned (.tuple #[.int .u64 (readN R n m), .int .i64 (C.reachP n m)]) ∧ w' = w := by
  have CR := C.reach_ff F R n m w h
  have hl := h.lt
  by_cases hr : C.reachP n m = 0
  · have hn : 0 ≤ n ∧ n < 12 := by
      unfold C.reachP C.regP at hr
      split at hr
      · split at hr
        · rename_i h; simpa using h
        · omega
      · omega
    obtain ⟨N, rfl⟩ : ∃ N : Nat, n = N := ⟨n.toNat, by omega⟩
    have c := h.c N (by omega)
    have e1 : readN R N m = R N := by unfold readN; rw [if_pos hr]; simp
    rw [e1, hr]
    rw [hr] at CR
    clear h hr e1
    go_enter Tryz.func42, Tryz.ntmps42
    go_wp2_with fail
    refine CR.mono ?_
    rintro e w ⟨rfl, rfl⟩
    go_wp2_with fail
    go_ret2
    exact ⟨rfl, rfl⟩
  · have e1 : readN R n m = 0 := by unfold readN; rw [if_neg hr]
    rw [e1]
    generalize C.reachP n m = z at *
    clear h e1
    go_enter Tryz.func42, Tryz.ntmps42
    go_wp2_with fail
    refine CR.mono ?_
    rintro e w ⟨rfl, rfl⟩
    go_wp2_with fail
    go_ret2
    exact ⟨rfl, rfl⟩
theorem isMade_no (v : Value) (w : World) (h : NoF w v) : Calls Tryz.prog 26 #[v] w fun e w' => e = .returned (.bool false) ∧ w' = w := by
  have C := read_no v 0 1 w h
  clear h
  go_enter Tryz.func26, Tryz.ntmps26
  go_wp2_with fail
  refine C.mono ?_
  rintro e w ⟨rfl, rfl⟩
  go_wp2_with fail
  go_ret
  exact ⟨rfl, rfl⟩
theorem isMade_ff (F : Nat) (R : Nat → Int) (w : World) (h : C.FF w F R) : Calls Tryz.prog 26 #[.pointer (some ⟨F, 0, none⟩)] w fun e w' => e = .returned (.bool true) ∧ w' = w := by
  have CR := read_ff F R 0 1 w h
  have e1 : C.reachP 0 1 = 0 := by decide
  rw [e1] at CR
  clear h
  go_enter Tryz.func26, Tryz.ntmps26
  go_wp2_with fail
  refine CR.mono ?_
  rintro e w ⟨rfl, rfl⟩
  go_wp2_with fail
  go_ret
  exact ⟨rfl, rfl⟩

/-- a result -/
def resV (k c v g : Int) (fe ti : Bool) : Value := .agg #[.int .i64 k, .int .i64 c, .int .u64 v, .int .u64 g, .bool fe, .bool ti]
theorem below_res {B : Nat} {W w : World} (h : Below B W w) (hB : B ≤ w.heap.size) (o1 o2 : Obj) : Below B W ((w.alloc o1).alloc o2) := (h.alloc hB o1).alloc (by simp; omega) o2
theorem step_no_regs (f b : Value) (w : World) : Calls Tryz.prog 10 #[.pointer none, f, b] w fun e w' => e = .returned (.tuple #[resV 0 0 0 0 false false, .int .i64 1]) ∧ Below w.heap.size w w' := by
  unfold resV
  go_enter Tryz.func10, Tryz.ntmps10
  go_wp2
  refine bodyPost_ret (v := _) ?h1 rfl ⟨rfl, ?_⟩
  case h1 => simp [results, Tryz.results10, go_sem]
  exact below_res (Below.refl _ _) (Nat.le_refl _) _ _
theorem step_no_file (r : Nat) (f b : Value) (w : World) (h : NoF w f) : Calls Tryz.prog 10 #[.pointer (some ⟨r, 0, none⟩), f, b] w fun e w' => e = .returned (.tuple #[resV 0 0 0 0 false false, .int .i64 1]) ∧ Below w.heap.size w w' := by
  have hb : Below w.heap.size w ((w.alloc (.cells #[.int .i64 0, .int .i64 0, .int .u64 0, .int .u64 0, .bool false, .bool false] 41)).alloc (.cells #[.int .i64 0] 42)) := below_res (Below.refl _ _) (Nat.le_refl _) _ _
  have h' : NoF ((w.alloc (.cells #[.int .i64 0, .int .i64 0, .int .u64 0, .int .u64 0, .bool false, .bool false] 41)).alloc (.cells #[.int .i64 0] 42)) f := by
    rcases h with h | ⟨F, e, hc⟩
    · exact .inl h
    · exact .inr ⟨F, e, ((bcell hb).1 F 0 (World.block_lt_of_cell? w ⟨F, 0, none⟩ hc)).trans hc⟩
  have C1 := isMade_no f _ h'
  clear h h' hb
  unfold resV
  go_enter Tryz.func10, Tryz.ntmps10
  go_wp2_with fail
  refine C1.mono ?_
  rintro e w' ⟨rfl, hw⟩
  subst hw
  go_wp2_with fail
  refine bodyPost_ret (v := _) ?h1 rfl ⟨rfl, ?_⟩
  case h1 => simp [results, Tryz.results10, go_sem]
  exact below_res (Below.refl _ _) (Nat.le_refl _) _ _
theorem step_no_bus (r F : Nat) (R : Nat → Int) (w : World) (h : C.FF w F R) : Calls Tryz.prog 10 #[.pointer (some ⟨r, 0, none⟩), .pointer (some ⟨F, 0, none⟩), .nilIface] w fun e w' => e = .returned (.tuple #[resV 0 0 0 0 false false, .int .i64 1]) ∧ Below w.heap.size w w' := by
  have hb : Below w.heap.size w ((w.alloc (.cells #[.int .i64 0, .int .i64 0, .int .u64 0, .int .u64 0, .bool false, .bool false] 41)).alloc (.cells #[.int .i64 0] 42)) := below_res (Below.refl _ _) (Nat.le_refl _) _ _
  have C1 := isMade_ff F R _ (h.below hb)
  clear h hb
  unfold resV
  go_enter Tryz.func10, Tryz.ntmps10
  go_wp2_with fail
  refine C1.mono ?_
  rintro e w' ⟨rfl, hw⟩
  subst hw
  go_wp2_with fail
  refine bodyPost_ret (v := _) ?h1 rfl ⟨rfl, ?_⟩
  case h1 => simp [results, Tryz.results10, go_sem]
  exact below_res (Below.refl _ _) (Nat.le_refl _) _ _
end Go.Proofs.YtghpkbgfpagpgaaGreatDoor
