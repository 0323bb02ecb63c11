/-
  What the document's New, Has, Set and Tick do.
-/
import Derived.Test.YtdmegoglcnggoaaRa
import Derived.Test.YtdmegoglcnggoaaNw
namespace Go.Proofs.Ytdmegoglcnggoaa
open Go.RowKit
set_option linter.unusedVariables false
set_option maxRecDepth 20000

/-- there is no such core -/
def NoHas (r : Nat) (core : Int) (w : World) : Prop := Calls Try.prog 20 #[.pointer (some ⟨r, 0, none⟩), .int .i64 core] w fun e w' => e = .returned (.bool false) ∧ w' = w
def IsHas (r i : Nat) (w : World) : Prop := Calls Try.prog 20 #[.pointer (some ⟨r, 0, none⟩), .int .i64 i] w fun e w' => e = .returned (.bool true) ∧ w' = w
theorem rnew_bad (n : Int) (h : n < 1 ∨ 8 < n) (w : World) : Calls Try.prog 9 #[.int .i64 n] w fun e w' => e = .returned (.tuple #[.pointer none, .int .i64 2]) ∧ w' = w := by
  rcases h with h | h
  · go_enter Try.func9, Try.ntmps9
    go_wp2
    go_ret2
    exact ⟨rfl, rfl⟩
  · have h' : ¬ n < 1 := by omega
    go_enter Try.func9, Try.ntmps9
    go_wp2
    go_ret2
    exact ⟨rfl, rfl⟩
def z51 : Value := .agg #[.slice none 0 0, .int .u64 0, .int .u64 0, .bool false]
theorem info51 : ∃ i, Try.prog.info? 51 = some i ∧ i.zero = some z51 ∧ i.size = 4 ∧ i.bytes = 48 := by
  have h : (Try.prog.info? 51).map (fun i => (i.zero, i.size, i.bytes)) = some (some z51, 4, 48) := by kernel_rfl
  obtain ⟨i, hi, hb⟩ := Option.map_eq_some_iff.1 h
  simp only [Prod.mk.injEq] at hb
  exact ⟨i, hi, hb.1, hb.2.1, hb.2.2⟩
/-- the cells of n new cores -/
def zs51 (n : Nat) : Array Value := madeCells z51.cells (n * 4)
theorem run_make51 (n : Nat) (hn : n ≤ 8) (w : World) : (Instr.makeSlice 52 (.int .i64 (n : Int)) (.int .i64 (n : Int))).run Try.prog w = .ok (.slice (some ⟨w.heap.size, 0, none⟩) n n) (w.alloc (.cells (zs51 n) 51)) := by
  obtain ⟨i0, hi, hz0, hz1, hz2⟩ := info51
  have hr := run_make (P := Try.prog) w 52 51 i0 z51 Try.underlying52 hi hz0 .i64 .i64 n n (by omega) (Int.le_refl _) (by rw [hz2]; omega) (by omega)
  simp only [Int.toNat_natCast] at hr
  rw [hr, hz1]
  rfl
theorem zs51_at (n i : Nat) (hi : i < n) : (zs51 n)[i * 4]? = some (.slice none 0 0) ∧ (zs51 n)[i * 4 + 1]? = some (.int .u64 0) ∧ (zs51 n)[i * 4 + 2]? = some (.int .u64 0) ∧ (zs51 n)[i * 4 + 3]? = some (.bool false) := by
  have e : z51.cells.size = 4 := rfl
  refine ⟨?_, ?_, ?_, ?_⟩
  · have : i * 4 < n * 4 := by omega
    simp [zs51, madeCells, e, this, Nat.mul_mod_left]
    rfl
  · have : i * 4 + 1 < n * 4 := by omega
    simp [zs51, madeCells, e, this, Nat.mul_add_mod_self_right]
    rfl
  · have : i * 4 + 2 < n * 4 := by omega
    simp [zs51, madeCells, e, this, Nat.mul_add_mod_self_right]
    rfl
  · have : i * 4 + 3 < n * 4 := by omega
    simp [zs51, madeCells, e, this, Nat.mul_add_mod_self_right]
    rfl
theorem rnew_ok (B n : Nat) (h1 : 1 ≤ n) (h8 : n ≤ 8) (w : World) (hB : B ≤ w.heap.size) : Calls Try.prog 9 #[.int .i64 n] w fun e w' => ∃ r d V, e = .returned (.tuple #[.pointer (some ⟨r, 0, none⟩), .int .i64 0]) ∧ RW B w' r d n V (fun _ => l0) ∧ Below w.heap.size w w' := by
  have k1 : ¬ ((n : Int) < 1) := by omega
  have k2 : ¬ ((8 : Int) < (n : Int)) := by omega
  have hms := run_make51 n h8
  have HF : Hid (RW B ((w.alloc (.cells (zs51 n) 51)).alloc (.cells #[.slice (some ⟨w.heap.size, 0, none⟩) n n] 54)) (w.heap.size + 1) w.heap.size n (fun _ => .slice none 0 0) (fun _ => l0) ∧ Below w.heap.size w ((w.alloc (.cells (zs51 n) 51)).alloc (.cells #[.slice (some ⟨w.heap.size, 0, none⟩) n n] 54))) := by
    refine ⟨⟨?_, ⟨zs51 n, ?_, by simp [zs51, size_madeCells], fun i hi => zs51_at n i hi⟩, fun i hi => .inl ⟨rfl, rfl⟩, fun i j k _ _ h => by (cases h), h1, h8, fun i hi => by simp [LOk, l0], by omega, hB⟩, ((Below.refl _ _).alloc (Nat.le_refl _) _).alloc (by simp) _⟩
    · have := heap_alloc_at (w.alloc (.cells (zs51 n) 51)) (.cells #[.slice (some ⟨w.heap.size, 0, none⟩) n n] 54)
      simpa using this
    · rw [heap_alloc_past _ _ (by simp)]
      exact heap_alloc_at w _
  go_enter Try.func9, Try.ntmps9
  go_wp2
  go_ret2
  exact ⟨_, rfl, ⟨_, _, HF.out.1⟩, HF.out.2⟩
section
variable {B : Nat} {w w' : World} {r d n : Nat} {V : Nat → Value} {S : Nat → Ln}
theorem has_ok (h : RW B w r d n V S) {i : Nat} (hi : i < n) : IsHas r i w := by
  have c := h.cc
  have hl := h.lt
  have hi' : (i : Int) < (n : Int) := by omega
  clear h
  unfold IsHas
  go_enter Try.func20, Try.ntmps20
  go_wp2
  go_ret
  exact ⟨rfl, rfl⟩
theorem has_bad (h : RW B w r d n V S) {core : Int} (hi : core < 0 ∨ (n : Int) ≤ core) : NoHas r core w := by
  have c := h.cc
  have hl := h.lt
  clear h
  unfold NoHas
  rcases hi with hi | hi
  · have hi' : ¬ (0 ≤ core) := by omega
    go_enter Try.func20, Try.ntmps20
    go_wp2
    go_ret
    exact ⟨rfl, rfl⟩
  · have hi' : ¬ (core < (n : Int)) := by omega
    have hi2 : 0 ≤ core := by omega
    go_enter Try.func20, Try.ntmps20
    go_wp2
    go_ret
    exact ⟨rfl, rfl⟩
theorem rsend_bad {core : Int} (h : NoHas r core w) (x : Int) : Calls Try.prog 12 #[.pointer (some ⟨r, 0, none⟩), .int .i64 core, .int .i64 x] w fun e w' => e = .returned (.int .i64 2) ∧ w' = w := by
  have H : Hid (NoHas r core w) := h
  clear h
  go_enter Try.func12, Try.ntmps12
  go_wp2_with fail
  refine Calls.mono H.out ?_
  rintro e w ⟨rfl, rfl⟩
  go_wp2_with fail
  go_ret
  exact ⟨rfl, rfl⟩
theorem rtake_bad {core : Int} (h : NoHas r core w) : Calls Try.prog 14 #[.pointer (some ⟨r, 0, none⟩), .int .i64 core] w fun e w' => e = .returned (.tuple #[.int .i64 0, .bool false]) ∧ w' = w := by
  have H : Hid (NoHas r core w) := h
  clear h
  go_enter Try.func14, Try.ntmps14
  go_wp2_with fail
  refine Calls.mono H.out ?_
  rintro e w ⟨rfl, rfl⟩
  go_wp2_with fail
  go_ret2
  exact ⟨rfl, rfl⟩
theorem rset_bad {core : Int} (h : NoHas r core w) (x : Int) : Calls Try.prog 16 #[.pointer (some ⟨r, 0, none⟩), .int .i64 core, .int .u64 x] w fun e w' => e = .returned (.int .i64 2) ∧ w' = w := by
  have H : Hid (NoHas r core w) := h
  clear h
  go_enter Try.func16, Try.ntmps16
  go_wp2_with fail
  refine Calls.mono H.out ?_
  rintro e w ⟨rfl, rfl⟩
  go_wp2_with fail
  go_ret
  exact ⟨rfl, rfl⟩
theorem rtick_bad {core : Int} (h : NoHas r core w) (x : Int) : Calls Try.prog 18 #[.pointer (some ⟨r, 0, none⟩), .int .i64 core, .int .u64 x] w fun e w' => e = .returned (.tuple #[.bool false, .int .i64 2]) ∧ w' = w := by
  have H : Hid (NoHas r core w) := h
  clear h
  go_enter Try.func18, Try.ntmps18
  go_wp2_with fail
  refine Calls.mono H.out ?_
  rintro e w ⟨rfl, rfl⟩
  go_wp2_with fail
  go_ret2
  exact ⟨rfl, rfl⟩
theorem rset_ok (h : RW B w r d n V S) {i : Nat} (hi : i < n) (x : Int) : Calls Try.prog 16 #[.pointer (some ⟨r, 0, none⟩), .int .i64 i, .int .u64 x] w fun e w' => e = .returned (.int .i64 0) ∧ RW B w' r d n V (upd S i ⟨(S i).q, (S i).ck, x, true⟩) ∧ Trn (RS d n V) w w' := by
  have H : Hid (IsHas r i w) := has_ok h hi
  have c := h.cc
  have hl := h.lt
  have hne := h.ne
  have hne' := h.ne.symm
  have hi' : (i : Int) < (n : Int) := by omega
  obtain ⟨c0, c1, c2, c3⟩ := h.ri hi
  have hb := h.dlt
  have hf2 := h.f (i * 4 + 2)
  have hf3 := h.f (i * 4 + 3)
  have h1 := h.setc hi (j := 2) (by omega) (by omega) (.int .u64 x) ⟨(S i).q, (S i).ck, x, (S i).on⟩ (h.rg i hi) rfl rfl rfl rfl
  have h2 := h1.1.setc hi (j := 3) (by omega) (by omega) (.bool true) ⟨(S i).q, (S i).ck, x, true⟩ (h.rg i hi) (by rw [upd_self]) (by rw [upd_self]; rfl) (by rw [upd_self]; rfl) rfl
  rw [upd_upd] at h2
  have cc := h1.1.cc
  have HF : Hid (RW B ((w.setCell ⟨d, i * 4 + 2, none⟩ (.int .u64 x)).setCell ⟨d, i * 4 + 3, none⟩ (.bool true)) r d n V (upd S i ⟨(S i).q, (S i).ck, x, true⟩) ∧ Trn (RS d n V) w ((w.setCell ⟨d, i * 4 + 2, none⟩ (.int .u64 x)).setCell ⟨d, i * 4 + 3, none⟩ (.bool true))) := ⟨h2.1, h1.2.trans h2.2⟩
  clear h h1 h2
  go_enter Try.func16, Try.ntmps16
  go_wp2_with fail
  refine Calls.mono H.out ?_
  rintro e w ⟨rfl, rfl⟩
  go_wp2_with fail
  go_ret
  exact ⟨rfl, HF.out⟩
end
end Go.Proofs.Ytdmegoglcnggoaa
