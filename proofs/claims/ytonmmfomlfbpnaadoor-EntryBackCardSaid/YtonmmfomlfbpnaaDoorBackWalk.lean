/-
  The law EntryBack: its walk.
-/
import Derived.Test.YtonmmfomlfbpnaaDoorUnpacksWalk
namespace Go.Proofs.YtonmmfomlfbpnaaDoor
open Go.RowKit
set_option linter.unusedVariables false

theorem unpack_pack {v r w x u s d : Bool} {f : Int} (hm : mayP v r w x u s d f = true) :
    unpackV (numP v r w x u s d f) = ent v r w x u s d f ∧ unpackE (numP v r w x u s d f) = 0 := by
  obtain ⟨hf0, hf1⟩ := may_frame hm
  obtain ⟨e0, e1, e2, e3, e4, e5, e6, e7⟩ := flag_num v r w x u s d f hf0 hf1
  cases v
  · obtain ⟨z1, z2⟩ := wp_zero _ e0
    rw [z1, z2]
    simp [mayP] at hm
    obtain ⟨⟨⟨⟨⟨⟨rfl, rfl⟩, rfl⟩, rfl⟩, rfl⟩, rfl⟩, rfl⟩ := hm
    exact ⟨rfl, rfl⟩
  · have hp : isP (numP true r w x u s d f) = true := by
      unfold isP
      rw [e0, e1, e2, e3, e4, e5, e6, e7, hm]
      simp
    obtain ⟨z1, z2⟩ := wp_good _ hp e0
    rw [z1, z2]
    unfold seenV
    rw [e0, e1, e2, e3, e4, e5, e6, e7]
    exact ⟨rfl, rfl⟩

theorem pack_one (W : World) (hT : BT W) : Calls Tryd.prog 6 #[ent true true true false false false false 3] W fun e W' => e = .returned (.tuple #[.int .u64 3079, .int .i64 0]) ∧ Below W.heap.size W W' :=
  pack_any true true true false false false false 3 W hT

/-- what stands behind the entry's part: an address -/
theorem join_split (n : Int) (h0 : 0 ≤ n) (h : n < 262144) (W : World) :
    Calls Tryd.prog 17 #[.int .i64 (n / 8192), .int .i64 (n / 256 % 32), .int .i64 (n % 256)] W fun e W' => e = .returned (.tuple #[.int .u64 n, .int .i64 0]) ∧ W' = W := by
  have C := join_any (n / 8192) (n / 256 % 32) (n % 256) W
  have hj : joinB (n / 8192) (n / 256 % 32) (n % 256) = true := by
    unfold joinB
    simp
    omega
  have e1 : joinN (n / 8192) (n / 256 % 32) (n % 256) = n := by
    unfold joinN
    rw [hj]
    simp
    omega
  have e2 : joinE (n / 8192) (n / 256 % 32) (n % 256) = 0 := by
    unfold joinE
    rw [hj]
    rfl
  rwa [e1, e2] at C

set_option maxHeartbeats 3200000 in
theorem back_no (v r w x u s d : Bool) (f n : Int) (h0 : 0 ≤ n) (h1 : n < 18446744073709551616) (hm : mayP v r w x u s d f = false) (W : World) (hT : BT W) :
    Calls Tryd.prog 5 #[ent v r w x u s d f, .int .u64 n] W fun e W' => e = .returned (.bool true) ∧ Below W.heap.size W W' := by
  have C0 := pack_one
  have C1 := pack_any v r w x u s d f
  unfold packN packE at C1
  rw [hm] at C1
  simp only [Bool.false_eq_true, if_false] at C1
  clear hm
  have C3 := split_any n h0 h1
  unfold splitV at C3
  have HT : Hid (BT W) := hT
  clear hT
  by_cases h : n < 262144
  · have C4 := join_split n h0 h
    simp only [h, if_true] at C3
    generalize n / 8192 = q0 at *
    generalize n / 256 % 32 = q1 at *
    generalize n % 256 = q2 at *
    unfold ent at *
    go_enter Tryd.func5, Tryd.ntmps5
    go_wp2_with fail
    refine (C0 _ (HT.out.below ((Below.refl _ _).alloc (Nat.le_refl _) _))).mono ?_
    rintro e w1 ⟨rfl, hb1⟩
    have HB1 : Hid (Below W.heap.size W w1) := ((Below.refl _ _).alloc (Nat.le_refl _) _).trans (hb1.mono (by simp))
    have hs1 : W.heap.size < w1.heap.size := by have := hb1.size; simp at this; omega
    obtain ⟨hc1, hf1⟩ := bcell hb1
    simp only [World.size_alloc] at hc1 hf1
    clear hb1 C0
    go_wp2_with fail
    refine (C1 _ (HT.out.below HB1.out)).mono ?_
    rintro e w2 ⟨rfl, hb2⟩
    have HB2 : Hid (Below W.heap.size W w2) := HB1.out.trans (hb2.mono (by omega))
    clear hb2 C1 HB1 hc1 hf1
    go_wp2_with fail
    refine (C3 _).mono ?_
    rintro e w3 ⟨rfl, rfl⟩
    clear C3
    go_wp2_with fail
    refine (C4 _).mono ?_
    rintro e w3 ⟨rfl, rfl⟩
    clear C4
    go_wp2_with fail
    go_ret
    exact ⟨rfl, HB2.out⟩
  · simp only [h, if_false] at C3
    have h2 : 262144 ≤ n := by omega
    clear h
    unfold ent at *
    go_enter Tryd.func5, Tryd.ntmps5
    go_wp2_with fail
    refine (C0 _ (HT.out.below ((Below.refl _ _).alloc (Nat.le_refl _) _))).mono ?_
    rintro e w1 ⟨rfl, hb1⟩
    have HB1 : Hid (Below W.heap.size W w1) := ((Below.refl _ _).alloc (Nat.le_refl _) _).trans (hb1.mono (by simp))
    have hs1 : W.heap.size < w1.heap.size := by have := hb1.size; simp at this; omega
    obtain ⟨hc1, hf1⟩ := bcell hb1
    simp only [World.size_alloc] at hc1 hf1
    clear hb1 C0
    go_wp2_with fail
    refine (C1 _ (HT.out.below HB1.out)).mono ?_
    rintro e w2 ⟨rfl, hb2⟩
    have HB2 : Hid (Below W.heap.size W w2) := HB1.out.trans (hb2.mono (by omega))
    clear hb2 C1 HB1 hc1 hf1
    go_wp2_with fail
    refine (C3 _).mono ?_
    rintro e w3 ⟨rfl, rfl⟩
    clear C3
    go_wp2_with fail
    go_ret
    exact ⟨rfl, HB2.out⟩

set_option maxHeartbeats 3200000 in
theorem back_yes (v r w x u s d : Bool) (f n : Int) (h0 : 0 ≤ n) (h1 : n < 18446744073709551616) (hm : mayP v r w x u s d f = true) (W : World) (hT : BT W) :
    Calls Tryd.prog 5 #[ent v r w x u s d f, .int .u64 n] W fun e W' => e = .returned (.bool true) ∧ Below W.heap.size W W' := by
  have C0 := pack_one
  have C1 := pack_any v r w x u s d f
  obtain ⟨hf0, hf1⟩ := may_frame hm
  have hr := num_range (v := v) (r := r) (w := w) (x := x) (u := u) (s := s) (d := d) hf0 hf1
  have C2 := unpack_any (numP v r w x u s d f) hr.1 (by omega)
  obtain ⟨u1, u2⟩ := unpack_pack hm
  rw [u1, u2] at C2
  unfold packN packE at C1
  rw [hm] at C1
  simp only [if_true] at C1
  clear hm u1 u2 hr hf0 hf1
  generalize numP v r w x u s d f = nn at *
  have C3 := split_any n h0 h1
  unfold splitV at C3
  have HT : Hid (BT W) := hT
  clear hT
  by_cases h : n < 262144
  · have C4 := join_split n h0 h
    simp only [h, if_true] at C3
    generalize n / 8192 = q0 at *
    generalize n / 256 % 32 = q1 at *
    generalize n % 256 = q2 at *
    unfold ent at *
    go_enter Tryd.func5, Tryd.ntmps5
    go_wp2_with fail
    refine (C0 _ (HT.out.below ((Below.refl _ _).alloc (Nat.le_refl _) _))).mono ?_
    rintro e w1 ⟨rfl, hb1⟩
    have HB1 : Hid (Below W.heap.size W w1) := ((Below.refl _ _).alloc (Nat.le_refl _) _).trans (hb1.mono (by simp))
    have HC1 : Hid (Below (W.heap.size + 1) _ w1) := (by simpa [World.size_alloc] using hb1 : Below (W.heap.size + 1) _ w1)
    have hs1 : W.heap.size < w1.heap.size := by have := hb1.size; simp at this; omega
    obtain ⟨hc1, hf1⟩ := bcell hb1
    simp only [World.size_alloc] at hc1 hf1
    clear hb1 C0
    go_wp2_with fail
    refine (C1 _ (HT.out.below HB1.out)).mono ?_
    rintro e w2 ⟨rfl, hb2⟩
    have HB2 : Hid (Below W.heap.size W w2) := HB1.out.trans (hb2.mono (by omega))
    have HC2 : Hid (Below (W.heap.size + 1) _ w2) := HC1.out.trans (hb2.mono (by omega))
    have hs2 : W.heap.size < w2.heap.size := by have := hb2.size; omega
    clear hb2 C1 HB1 hc1 hf1 HC1
    go_wp2_with fail
    refine (C2 _ (HT.out.below HB2.out)).mono ?_
    rintro e w3 ⟨rfl, hb3⟩
    have HB3 : Hid (Below W.heap.size W w3) := HB2.out.trans (hb3.mono (by omega))
    have HC3 : Hid (Below (W.heap.size + 1) _ w3) := HC2.out.trans (hb3.mono (by omega))
    have hs3 : W.heap.size < w3.heap.size := by have := hb3.size; omega
    obtain ⟨hc3, hf3⟩ := bcell HC3.out
    clear hb3 C2 HB2 HC2
    go_wp2_with fail
    refine (C3 _).mono ?_
    rintro e w4 ⟨rfl, rfl⟩
    clear C3
    go_wp2_with fail
    refine (C4 _).mono ?_
    rintro e w4 ⟨rfl, rfl⟩
    clear C4
    go_wp2_with fail
    go_ret
    exact ⟨rfl, HB3.out.alloc (by omega) _⟩
  · simp only [h, if_false] at C3
    have h2 : 262144 ≤ n := by omega
    clear h
    unfold ent at *
    go_enter Tryd.func5, Tryd.ntmps5
    go_wp2_with fail
    refine (C0 _ (HT.out.below ((Below.refl _ _).alloc (Nat.le_refl _) _))).mono ?_
    rintro e w1 ⟨rfl, hb1⟩
    have HB1 : Hid (Below W.heap.size W w1) := ((Below.refl _ _).alloc (Nat.le_refl _) _).trans (hb1.mono (by simp))
    have HC1 : Hid (Below (W.heap.size + 1) _ w1) := (by simpa [World.size_alloc] using hb1 : Below (W.heap.size + 1) _ w1)
    have hs1 : W.heap.size < w1.heap.size := by have := hb1.size; simp at this; omega
    obtain ⟨hc1, hf1⟩ := bcell hb1
    simp only [World.size_alloc] at hc1 hf1
    clear hb1 C0
    go_wp2_with fail
    refine (C1 _ (HT.out.below HB1.out)).mono ?_
    rintro e w2 ⟨rfl, hb2⟩
    have HB2 : Hid (Below W.heap.size W w2) := HB1.out.trans (hb2.mono (by omega))
    have HC2 : Hid (Below (W.heap.size + 1) _ w2) := HC1.out.trans (hb2.mono (by omega))
    have hs2 : W.heap.size < w2.heap.size := by have := hb2.size; omega
    clear hb2 C1 HB1 hc1 hf1 HC1
    go_wp2_with fail
    refine (C2 _ (HT.out.below HB2.out)).mono ?_
    rintro e w3 ⟨rfl, hb3⟩
    have HB3 : Hid (Below W.heap.size W w3) := HB2.out.trans (hb3.mono (by omega))
    have HC3 : Hid (Below (W.heap.size + 1) _ w3) := HC2.out.trans (hb3.mono (by omega))
    have hs3 : W.heap.size < w3.heap.size := by have := hb3.size; omega
    obtain ⟨hc3, hf3⟩ := bcell HC3.out
    clear hb3 C2 HB2 HC2
    go_wp2_with fail
    refine (C3 _).mono ?_
    rintro e w4 ⟨rfl, rfl⟩
    clear C3
    go_wp2_with fail
    go_ret
    exact ⟨rfl, HB3.out.alloc (by omega) _⟩

theorem back_walk (v r w x u s d : Bool) (f n : Int) (w1 : (Lit.int .u64 n).wf = true) (W : World) (hT : BT W) :
    Calls Tryd.prog 5 #[ent v r w x u s d f, .int .u64 n] W fun e W' => e = .returned (.bool true) ∧ Below W.heap.size W W' := by
  obtain ⟨h0, h1⟩ := u64_range w1
  cases hm : mayP v r w x u s d f
  · exact back_no v r w x u s d f n h0 h1 hm W hT
  · exact back_yes v r w x u s d f n h0 h1 hm W hT
end Go.Proofs.YtonmmfomlfbpnaaDoor
