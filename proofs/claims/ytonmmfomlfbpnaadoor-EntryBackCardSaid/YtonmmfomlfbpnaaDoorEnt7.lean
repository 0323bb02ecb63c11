/-
  What the document's Unpack tells: its contract.
-/
import Derived.Test.YtonmmfomlfbpnaaDoorEnt6
namespace Go.Proofs.YtonmmfomlfbpnaaDoor
open Go.RowKit
set_option linter.unusedVariables false

theorem flag_one (n : Int) (k : Nat) (m : Int) (hm : m = n / 2 ^ k) : (m % 2 == 1) = flagP n k := by
  subst hm
  unfold flagP
  rw [Bool.eq_iff_iff]
  simp
  omega
theorem flag_zero (n : Int) (h : flagP n 0 = false) : (n % 2 == 0) = true := by
  have := b2_flag n 0
  rw [h] at this
  simp [b2] at this ⊢
  omega
theorem flag_odd (n : Int) (h : flagP n 0 = true) : (n % 2 == 0) = false := by
  have := b2_flag n 0
  rw [h] at this
  simp [b2] at this ⊢
  omega

theorem runpack_zero (n : Int) (h0 : 0 ≤ n) (h1 : n < 18446744073709551616) (hz : flagP n 0 = false) (W : World) :
    Calls Tryd.prog 14 #[.int .u64 n] W fun e W' => e = .returned (.tuple #[ent false false false false false false false 0, .int .i64 0]) ∧ Below W.heap.size W W' := by
  have e0 := flag_zero n hz
  clear hz
  unfold ent
  go_enter Tryd.func14, Tryd.ntmps14
  go_wp2
  exact bodyPost_ret (v := .tuple #[.agg #[.bool false, .bool false, .bool false, .bool false, .bool false, .bool false, .bool false, .int .i64 0], .int .i64 0]) (by simp [results, Tryd.results14, go_sem]) rfl ⟨rfl, (Below.refl _ _).alloc (Nat.le_refl _) _⟩

set_option maxHeartbeats 1600000 in
theorem runpack_bad (n : Int) (h0 : 0 ≤ n) (h1 : n < 18446744073709551616) (hz : flagP n 0 = true) (hp : isP n = false) (W : World) :
    Calls Tryd.prog 14 #[.int .u64 n] W fun e W' => e = .returned (.tuple #[ent false false false false false false false 0, .int .i64 10]) ∧ Below W.heap.size W W' := by
  have C2 := rpack_any (flagP n 0) (flagP n 1) (flagP n 2) (flagP n 3) (flagP n 4) (flagP n 5) (flagP n 6) (frameP n)
  unfold isP at hp
  unfold packN packE at C2
  have e0 := flag_odd n hz
  have f1 := flag_one n 1 (n / 2) (by simp)
  have f2 := flag_one n 2 (n / 4) (by simp)
  have f3 := flag_one n 3 (n / 8) (by simp)
  have f4 := flag_one n 4 (n / 16) (by simp)
  have f5 := flag_one n 5 (n / 32) (by simp)
  have f6 := flag_one n 6 (n / 64) (by simp)
  have wf : wrap64 (n / 1024 % 65536) = n / 1024 % 65536 := IntWalk.wrap64_in _ ⟨by omega, by omega⟩
  have ff : n / 1024 % 65536 = frameP n := rfl
  rw [hz] at C2 hp
  generalize flagP n 1 = g1 at *
  generalize flagP n 2 = g2 at *
  generalize flagP n 3 = g3 at *
  generalize flagP n 4 = g4 at *
  generalize flagP n 5 = g5 at *
  generalize flagP n 6 = g6 at *
  generalize frameP n = fr at *
  rw [ff] at wf
  clear hz
  generalize numP true g1 g2 g3 g4 g5 g6 fr = nn at *
  cases hm : mayP true g1 g2 g3 g4 g5 g6 fr
  · rw [hm] at C2
    simp only [Bool.false_eq_true, if_false] at C2
    clear hp hm
    unfold ent at *
    go_enter Tryd.func14, Tryd.ntmps14
    go_wp2_with fail
    refine (C2 _).mono ?_
    rintro e w2 ⟨rfl, hb2⟩
    have HB2 : Hid (Below W.heap.size W w2) := (((Below.refl _ _).alloc (Nat.le_refl _) _).alloc (by simp) _).trans (hb2.mono (by simp; omega))
    obtain ⟨hc2, hf2⟩ := bcell hb2
    simp only [World.size_alloc] at hc2 hf2
    clear hb2 C2
    go_wp2_with fail
    have hc3 : ∀ o, w2.cell? ⟨W.heap.size, o, none⟩ = _ := fun o => hc2 _ o (by omega)
    exact bodyPost_ret (v := .tuple #[.agg #[.bool false, .bool false, .bool false, .bool false, .bool false, .bool false, .bool false, .int .i64 0], .int .i64 10]) (by simp [results, Tryd.results14, go_sem, hc3]) rfl ⟨rfl, below_set8 HB2.out (Nat.le_refl _) _ _ _ _ _ _ _ _⟩
  · rw [hm] at C2
    simp only [if_true] at C2
    have hne : (nn != n) = true := by simpa [hm] using hp
    clear hp hm
    unfold ent at *
    go_enter Tryd.func14, Tryd.ntmps14
    go_wp2_with fail
    refine (C2 _).mono ?_
    rintro e w2 ⟨rfl, hb2⟩
    have HB2 : Hid (Below W.heap.size W w2) := (((Below.refl _ _).alloc (Nat.le_refl _) _).alloc (by simp) _).trans (hb2.mono (by simp; omega))
    obtain ⟨hc2, hf2⟩ := bcell hb2
    simp only [World.size_alloc] at hc2 hf2
    clear hb2 C2
    go_wp2_with fail
    have hc3 : ∀ o, w2.cell? ⟨W.heap.size, o, none⟩ = _ := fun o => hc2 _ o (by omega)
    exact bodyPost_ret (v := .tuple #[.agg #[.bool false, .bool false, .bool false, .bool false, .bool false, .bool false, .bool false, .int .i64 0], .int .i64 10]) (by simp [results, Tryd.results14, go_sem, hc3]) rfl ⟨rfl, below_set8 HB2.out (Nat.le_refl _) _ _ _ _ _ _ _ _⟩

set_option maxHeartbeats 1600000 in
theorem runpack_good (n : Int) (h0 : 0 ≤ n) (h1 : n < 18446744073709551616) (hz : flagP n 0 = true) (hp : isP n = true) (W : World) :
    Calls Tryd.prog 14 #[.int .u64 n] W fun e W' => e = .returned (.tuple #[seenV n, .int .i64 0]) ∧ Below W.heap.size W W' := by
  have C2 := rpack_any (flagP n 0) (flagP n 1) (flagP n 2) (flagP n 3) (flagP n 4) (flagP n 5) (flagP n 6) (frameP n)
  unfold isP at hp
  unfold seenV
  unfold packN packE at C2
  simp only [Bool.and_eq_true, decide_eq_true_eq] at hp
  rw [hp.1, hp.2] at C2
  simp only [if_true] at C2
  clear hp
  have e0 := flag_odd n hz
  have f1 := flag_one n 1 (n / 2) (by simp)
  have f2 := flag_one n 2 (n / 4) (by simp)
  have f3 := flag_one n 3 (n / 8) (by simp)
  have f4 := flag_one n 4 (n / 16) (by simp)
  have f5 := flag_one n 5 (n / 32) (by simp)
  have f6 := flag_one n 6 (n / 64) (by simp)
  have wf : wrap64 (n / 1024 % 65536) = n / 1024 % 65536 := IntWalk.wrap64_in _ ⟨by omega, by omega⟩
  have ff : n / 1024 % 65536 = frameP n := rfl
  rw [hz] at C2 ⊢
  generalize flagP n 1 = g1 at *
  generalize flagP n 2 = g2 at *
  generalize flagP n 3 = g3 at *
  generalize flagP n 4 = g4 at *
  generalize flagP n 5 = g5 at *
  generalize flagP n 6 = g6 at *
  generalize frameP n = fr at *
  rw [ff] at wf
  clear hz
  unfold ent at *
  go_enter Tryd.func14, Tryd.ntmps14
  go_wp2_with fail
  refine (C2 _).mono ?_
  rintro e w2 ⟨rfl, hb2⟩
  have HB2 : Hid (Below W.heap.size W w2) := (((Below.refl _ _).alloc (Nat.le_refl _) _).alloc (by simp) _).trans (hb2.mono (by simp; omega))
  obtain ⟨hc2, hf2⟩ := bcell hb2
  simp only [World.size_alloc] at hc2 hf2
  clear hb2 C2
  go_wp2_with fail
  have hc3 : ∀ o, w2.cell? ⟨W.heap.size, o, none⟩ = _ := fun o => hc2 _ o (by omega)
  exact bodyPost_ret (v := .tuple #[.agg #[.bool true, .bool g1, .bool g2, .bool g3, .bool g4, .bool g5, .bool g6, .int .i64 fr], .int .i64 0]) (by simp [results, Tryd.results14, go_sem, hc3]) rfl ⟨rfl, below_set8 HB2.out (Nat.le_refl _) _ _ _ _ _ _ _ _⟩

theorem runpack_any (n : Int) (h0 : 0 ≤ n) (h1 : n < 18446744073709551616) (W : World) :
    Calls Tryd.prog 14 #[.int .u64 n] W fun e W' => e = .returned (.tuple #[unpackV n, .int .i64 (unpackE n)]) ∧ Below W.heap.size W W' := by
  cases hz : flagP n 0
  · obtain ⟨e1, e2⟩ := wp_zero n hz
    rw [e1, e2]
    exact runpack_zero n h0 h1 hz W
  · cases hp : isP n
    · obtain ⟨e1, e2⟩ := wp_bad n hp hz
      rw [e1, e2]
      exact runpack_bad n h0 h1 hz hp W
    · obtain ⟨e1, e2⟩ := wp_good n hp hz
      rw [e1, e2]
      exact runpack_good n h0 h1 hz hp W
end Go.Proofs.YtonmmfomlfbpnaaDoor
