/-
  What the document's New does.
-/
import Derived.Test.YtioanbdmkiphfaaDoorRl
namespace Go.Proofs.YtioanbdmkiphfaaDoor
open Go.RowKit
set_option linter.unusedVariables false
set_option maxRecDepth 20000

theorem inf3 : ∃ i, Tryd.prog.info? 3 = some i ∧ i.zero = some (.int .i64 0) ∧ i.size = 1 ∧ i.bytes = 8 := by
  have h : (Tryd.prog.info? 3).map (fun i => (i.zero, i.size, i.bytes)) = some (some (.int .i64 0), 1, 8) := by kernel_rfl
  obtain ⟨i, hi, hb⟩ := Option.map_eq_some_iff.1 h
  simp only [Prod.mk.injEq] at hb
  exact ⟨i, hi, hb.1, hb.2.1, hb.2.2⟩
theorem inf22 : ∃ i, Tryd.prog.info? 22 = some i ∧ i.zero = some (.int .u64 0) ∧ i.size = 1 ∧ i.bytes = 8 := by
  have h : (Tryd.prog.info? 22).map (fun i => (i.zero, i.size, i.bytes)) = some (some (.int .u64 0), 1, 8) := by kernel_rfl
  obtain ⟨i, hi, hb⟩ := Option.map_eq_some_iff.1 h
  simp only [Prod.mk.injEq] at hb
  exact ⟨i, hi, hb.1, hb.2.1, hb.2.2⟩
/-- n zeros -/
def zrow (q : IntKind) (n : Nat) : Array Value := madeCells (Value.int q 0).cells (n * 1)
theorem zrow_at (q : IntKind) (n i : Nat) (hi : i < n) : (zrow q n)[i]? = some (.int q 0) := by
  have e : (Value.int q 0).cells.size = 1 := rfl
  simp [zrow, madeCells, e, hi, Nat.mod_one]
  rfl
theorem zrow_size (q : IntKind) (n : Nat) : (zrow q n).size = n := by simp [zrow, madeCells]
theorem make3 (n : Nat) (hn : n ≤ 8) (w : World) : (Instr.makeSlice 51 (.int .i64 (n : Int)) (.int .i64 (n : Int))).run Tryd.prog w = .ok (.slice (some ⟨w.heap.size, 0, none⟩) n n) (w.alloc (.cells (zrow .i64 n) 3)) := by
  obtain ⟨i0, hi, hz0, hz1, hz2⟩ := inf3
  have hr := run_make (P := Tryd.prog) w 51 3 i0 (.int .i64 0) Tryd.underlying51 hi hz0 .i64 .i64 n n (by omega) (Int.le_refl _) (by rw [hz2]; omega) (by omega)
  simp only [Int.toNat_natCast] at hr
  rw [hr, hz1]
  rfl
theorem make22 (n : Nat) (hn : n ≤ 8) (w : World) : (Instr.makeSlice 52 (.int .i64 (n : Int)) (.int .i64 (n : Int))).run Tryd.prog w = .ok (.slice (some ⟨w.heap.size, 0, none⟩) n n) (w.alloc (.cells (zrow .u64 n) 22)) := by
  obtain ⟨i0, hi, hz0, hz1, hz2⟩ := inf22
  have hr := run_make (P := Tryd.prog) w 52 22 i0 (.int .u64 0) Tryd.underlying52 hi hz0 .i64 .i64 n n (by omega) (Int.le_refl _) (by rw [hz2]; omega) (by omega)
  simp only [Int.toNat_natCast] at hr
  rw [hr, hz1]
  rfl
theorem rnew_cores (b : Nat) (t c : Int) (w : World) (hc : ¬ (1 ≤ c ∧ c ≤ 8)) :
    Calls Tryd.prog 12 #[.pointer (some ⟨b, 0, none⟩), .int .u64 t, .int .i64 c] w fun e w' => e = .returned (.tuple #[.pointer none, .int .i64 2]) ∧ w' = w := by
  by_cases h1 : c < 1
  · clear hc
    go_enter Tryd.func12, Tryd.ntmps12
    go_wp2
    go_ret2
    exact ⟨rfl, rfl⟩
  · have h2 : 8 < c := by omega
    clear hc
    go_enter Tryd.func12, Tryd.ntmps12
    go_wp2
    go_ret2
    exact ⟨rfl, rfl⟩
theorem rnew_align (b : Nat) (t c : Int) (w : World) (hc : 1 ≤ c ∧ c ≤ 8) (ht : 0 ≤ t) (h8 : ¬ t % 8 = 0) :
    Calls Tryd.prog 12 #[.pointer (some ⟨b, 0, none⟩), .int .u64 t, .int .i64 c] w fun e w' => e = .returned (.tuple #[.pointer none, .int .i64 11]) ∧ w' = w := by
  obtain ⟨h1, h2⟩ := hc
  go_enter Tryd.func12, Tryd.ntmps12
  go_wp2
  go_ret2
  exact ⟨rfl, rfl⟩
theorem rnew_bound (b g : Nat) (zs : List Int) (t c : Int) (w : World) (hm : RM w b g zs) (hl : 256 ≤ zs.length) (hc : 1 ≤ c ∧ c ≤ 8) (ht : 0 ≤ t) (h8 : t % 8 = 0) (hb : ¬ t + 16 ≤ zs.length) :
    Calls Tryd.prog 12 #[.pointer (some ⟨b, 0, none⟩), .int .u64 t, .int .i64 c] w fun e w' => e = .returned (.tuple #[.pointer none, .int .i64 12]) ∧ w' = w := by
  obtain ⟨h1, h2⟩ := hc
  have c0 := hm.cell0
  have hlb := hm.blt
  have hlen := hm.len
  have hb' : (zs.length : Int) - 16 < t := by omega
  clear hm hb
  go_enter Tryd.func12, Tryd.ntmps12
  go_wp2
  go_ret2
  exact ⟨rfl, rfl⟩
/-- two stores of 0 into zeros -/
theorem store_zeros (m : Nat) (t : Int) (ht : 0 ≤ t) (h8 : t % 8 = 0) (h : t + 8 ≤ m) : storeV (List.replicate m 0) t 8 0 = List.replicate m 0 := by
  unfold storeV
  split
  · have hb : (bytesOf 0 (8 : Int).toNat).length = 8 := bytesOf_len 0 8
    apply eq_of_getD
    · rw [length_splice _ _ _ (by rw [hb]; simp; omega)]
    · intro i hi
      rw [splice_getD _ _ _ _ (by rw [hb]; simp; omega), zeros_getD]
      split
      · rename_i hh
        rw [hb] at hh
        rw [bytesOf_getD _ _ _ (by simp; omega)]
        simp [byteAt]
      · rfl
  · rfl
theorem rk_made (b g m : Nat) (t : Int) (n : Nat) (w w2 : World) (s u : Nat) (o1 o2 : Obj) (ho : o1 = .cells (zrow .i64 n) 3 ∧ o2 = .cells (zrow .u64 n) 22 ∧ s = w2.heap.size ∧ u = w2.heap.size + 1 ∨ o1 = .cells (zrow .u64 n) 22 ∧ o2 = .cells (zrow .i64 n) 3 ∧ s = w2.heap.size + 1 ∧ u = w2.heap.size)
    (hm : RM w2 b g (List.replicate m 0)) (hg : w.grownBy w2 (some g)) (h1 : 1 ≤ n) (h2 : n ≤ 8) (ht : 0 ≤ t) (h8 : t % 8 = 0) (hb : t + 16 ≤ m) :
    RK (((w2.alloc o1).alloc o2).alloc (.cells #[.pointer (some ⟨b, 0, none⟩), .int .u64 t, .slice (some ⟨s, 0, none⟩) n n, .slice (some ⟨u, 0, none⟩) n n] 54)).drew (w2.heap.size + 1 + 1) b g s u (List.replicate m 0) t n (fun _ => 0) (fun _ => 0) ∧ w.heap.size ≤ s ∧ w.heap.size ≤ u ∧
      w.grownBy (((w2.alloc o1).alloc o2).alloc (.cells #[.pointer (some ⟨b, 0, none⟩), .int .u64 t, .slice (some ⟨s, 0, none⟩) n n, .slice (some ⟨u, 0, none⟩) n n] 54)).drew (some g) := by
  have hs := hg.size
  have e1 := heap_alloc_at w2 o1
  have e2 := heap_alloc_at (w2.alloc o1) o2
  have e3 := heap_alloc_at ((w2.alloc o1).alloc o2) (.cells #[.pointer (some ⟨b, 0, none⟩), .int .u64 t, .slice (some ⟨s, 0, none⟩) n n, .slice (some ⟨u, 0, none⟩) n n] 54)
  simp only [World.size_alloc] at e2 e3
  have e1' := (heap_alloc_past ((w2.alloc o1).alloc o2) (.cells #[.pointer (some ⟨b, 0, none⟩), .int .u64 t, .slice (some ⟨s, 0, none⟩) n n, .slice (some ⟨u, 0, none⟩) n n] 54) (k := w2.heap.size) (by simp; omega)).trans ((heap_alloc_past (w2.alloc o1) o2 (k := w2.heap.size) (by simp)).trans e1)
  have e2' := (heap_alloc_past ((w2.alloc o1).alloc o2) (.cells #[.pointer (some ⟨b, 0, none⟩), .int .u64 t, .slice (some ⟨s, 0, none⟩) n n, .slice (some ⟨u, 0, none⟩) n n] 54) (k := w2.heap.size + 1) (by simp)).trans e2
  have hbel : Below w2.heap.size w2 (((w2.alloc o1).alloc o2).alloc (.cells #[.pointer (some ⟨b, 0, none⟩), .int .u64 t, .slice (some ⟨s, 0, none⟩) n n, .slice (some ⟨u, 0, none⟩) n n] 54)).drew := ((((Below.refl _ _).alloc (Nat.le_refl _) _).alloc (by simp) _).alloc (by simp; omega) _).drew
  have z : ∀ (q : IntKind) (c : Nat), c < n → (zrow q n)[c]? = some (.int q 0) := fun q c hc => zrow_at q n c hc
  have gr := grown_trans hg (grown_some hbel (some g))
  rcases ho with ⟨rfl, rfl, rfl, rfl⟩ | ⟨rfl, rfl, rfl, rfl⟩
  · exact ⟨⟨e3, ⟨_, e1', zrow_size _ _, z _⟩, ⟨_, e2', zrow_size _ _, z _⟩, hm.below hbel, h1, h2, ht, h8, by simpa using hb⟩, hs, by omega, gr⟩
  · exact ⟨⟨e3, ⟨_, e2', zrow_size _ _, z _⟩, ⟨_, e1', zrow_size _ _, z _⟩, hm.below hbel, h1, h2, ht, h8, by simpa using hb⟩, by omega, hs, gr⟩
/-- what it tells, and leaves -/
def RNew (w : World) (b g m : Nat) (t : Int) (n : Nat) (e : Ending) (w' : World) : Prop := ∃ q s u, e = .returned (.tuple #[.pointer (some ⟨q, 0, none⟩), .int .i64 0]) ∧ RK w' q b g s u (List.replicate m 0) t n (fun _ => 0) (fun _ => 0) ∧ w.heap.size ≤ s ∧ w.heap.size ≤ u ∧ w.grownBy w' (some g)
set_option maxHeartbeats 1000000 in
theorem rnew_ok (b g m : Nat) (t : Int) (n : Nat) (w : World) (hm : RM w b g (List.replicate m 0)) (hl : 256 ≤ m) (h1 : 1 ≤ n) (h2 : n ≤ 8) (ht : 0 ≤ t) (h8 : t % 8 = 0) (hb : t + 16 ≤ m) :
    Calls Tryd.prog 12 #[.pointer (some ⟨b, 0, none⟩), .int .u64 t, .int .i64 n] w fun e w' => RNew w b g m t n e w' := by
  have c0 := hm.cell0
  have hlb := hm.blt
  have hlen := hm.len
  simp only [List.length_replicate] at c0 hlen
  have hb' : ¬ (m : Int) - 16 < t := by omega
  have h1' : ¬ (n : Int) < 1 := by omega
  have h2' : ¬ (8 : Int) < (n : Int) := by omega
  have C1 := rmstore_any b g _ t 8 0 w hm ht (by omega) (by decide) (by decide) (by decide)
  rw [store_zeros m t ht h8 (by omega)] at C1
  have ms3 := make3 n h2
  have ms22 := make22 n h2
  clear hm
  go_enter Tryd.func12, Tryd.ntmps12
  go_wp2_with fail
  refine C1.mono ?_
  rintro e w1 ⟨rfl, hm1, hg1⟩
  have C2 := rmstore_any b g _ (t + 8) 8 0 w1 hm1 (by omega) (by omega) (by decide) (by decide) (by decide)
  rw [store_zeros m (t + 8) (by omega) (by omega) (by omega)] at C2
  have HG1 : Hid (w.grownBy w1 (some g)) := hg1
  clear C1 hm1 hg1
  go_wp2_with fail
  refine C2.mono ?_
  rintro e w2 ⟨rfl, hm2, hg2⟩
  have HM2 : Hid (RM w2 b g (List.replicate m 0)) := hm2
  have HG2 : Hid (w.grownBy w2 (some g)) := grown_trans HG1.out hg2
  clear C2 hm2 hg2 HG1
  go_wp2_with fail
  go_region
  · have HF := rk_made b g m t n w w2 w2.heap.size (w2.heap.size + 1) (.cells (zrow .i64 n) 3) (.cells (zrow .u64 n) 22) (.inl ⟨rfl, rfl, rfl, rfl⟩) HM2.out HG2.out h1 h2 ht h8 hb
    have HH : Hid (_) := HF
    clear HM2 HG2 HF
    go_wp2_with fail
    go_ret2
    exact ⟨_, _, _, rfl, HH.out.1, HH.out.2.1, HH.out.2.2.1, HH.out.2.2.2⟩
  · have HF := rk_made b g m t n w w2 (w2.heap.size + 1) w2.heap.size (.cells (zrow .u64 n) 22) (.cells (zrow .i64 n) 3) (.inr ⟨rfl, rfl, rfl, rfl⟩) HM2.out HG2.out h1 h2 ht h8 hb
    have HH : Hid (_) := HF
    clear HM2 HG2 HF
    go_wp2_with fail
    go_ret2
    exact ⟨_, _, _, rfl, HH.out.1, HH.out.2.1, HH.out.2.2.1, HH.out.2.2.2⟩
end Go.Proofs.YtioanbdmkiphfaaDoor
