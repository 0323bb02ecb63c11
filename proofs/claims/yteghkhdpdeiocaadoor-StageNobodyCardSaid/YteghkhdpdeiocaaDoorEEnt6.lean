/-
  What Unpack and the document's Unpack tell: their contracts, over the table of bits as it is laid.
-/
import Derived.Test.YteghkhdpdeiocaaDoorEEnt4
namespace Go.Proofs.YteghkhdpdeiocaaDoor.E
open Go.RowKit
set_option linter.unusedVariables false
set_option maxRecDepth 100000

/-- what Unpack tells -/
def unpackV [Bits] (n : Int) : Value := if flagP n 0 && isP n then seenV n else ent false false false false false false false 0
def unpackE [Bits] (n : Int) : Int := if flagP n 0 && !isP n then 10 else 0

theorem wp_zero [Bits] (n : Int) (h : flagP n 0 = false) : unpackV n = ent false false false false false false false 0 ∧ unpackE n = 0 := by simp [unpackV, unpackE, h]
theorem wp_bad [Bits] (n : Int) (h : isP n = false) (h0 : flagP n 0 = true) : unpackV n = ent false false false false false false false 0 ∧ unpackE n = 10 := by simp [unpackV, unpackE, h, h0]
theorem wp_good [Bits] (n : Int) (h : isP n = true) (h0 : flagP n 0 = true) : unpackV n = seenV n ∧ unpackE n = 0 := by simp [unpackV, unpackE, h, h0]

set_option maxHeartbeats 1600000 in
theorem unpack_zero [Bits] (n : Int) (h0 : 0 ≤ n) (h1 : n < 18446744073709551616) (hz : flagP n 0 = false) (W : World) (hT : BT W) :
    Calls Tryd.prog 61 #[.int .u64 n] W fun e W' => e = .returned (.tuple #[ent false false false false false false false 0, .int .i64 0]) ∧ Below W.heap.size W W' := by
  have C1 := seen_any n h0 h1
  have HT : Hid (BT W) := hT
  clear hT
  unfold seenV at C1
  rw [hz] at C1
  generalize flagP n 1 = g1 at *
  generalize flagP n 2 = g2 at *
  generalize flagP n 3 = g3 at *
  generalize flagP n 4 = g4 at *
  generalize flagP n 5 = g5 at *
  generalize flagP n 6 = g6 at *
  generalize frameP n = fr at *
  clear hz h0 h1
  unfold ent at *
  go_enter Tryd.func61, Tryd.ntmps61
  go_wp2_with fail
  refine (C1 _ (HT.out.below ((Below.refl _ _).alloc (Nat.le_refl _) _))).mono ?_
  rintro e w1 ⟨rfl, hb1⟩
  have HB1 : Hid (Below W.heap.size W w1) := ((Below.refl _ _).alloc (Nat.le_refl _) _).trans (hb1.mono (by simp))
  obtain ⟨hc1, hf1⟩ := bcell hb1
  simp only [World.size_alloc] at hc1 hf1
  have hs1 : W.heap.size < w1.heap.size := by have := hb1.size; simp at this; omega
  clear hb1 C1
  go_wp2_with fail
  exact bodyPost_ret (v := .tuple #[.agg #[.bool false, .bool false, .bool false, .bool false, .bool false, .bool false, .bool false, .int .i64 0], .int .i64 0]) (by simp [results, Tryd.results61, go_sem, hc1, hs1]) rfl ⟨rfl, (below_set8 HB1.out (Nat.le_refl _) _ _ _ _ _ _ _ _).alloc (by simp; omega) _⟩

set_option maxHeartbeats 1600000 in
theorem unpack_bad [Bits] (n : Int) (h0 : 0 ≤ n) (h1 : n < 18446744073709551616) (hz : flagP n 0 = true) (hp : isP n = false) (W : World) (hT : BT W) :
    Calls Tryd.prog 61 #[.int .u64 n] W fun e W' => e = .returned (.tuple #[ent false false false false false false false 0, .int .i64 10]) ∧ Below W.heap.size W W' := by
  have C1 := seen_any n h0 h1
  have C2 := pack_any (flagP n 0) (flagP n 1) (flagP n 2) (flagP n 3) (flagP n 4) (flagP n 5) (flagP n 6) (frameP n)
  have HT : Hid (BT W) := hT
  clear hT
  unfold isP at hp
  unfold seenV at C1
  unfold packN packE at C2
  rw [hz] at C1 C2 hp
  generalize flagP n 1 = g1 at *
  generalize flagP n 2 = g2 at *
  generalize flagP n 3 = g3 at *
  generalize flagP n 4 = g4 at *
  generalize flagP n 5 = g5 at *
  generalize flagP n 6 = g6 at *
  generalize frameP n = fr at *
  clear hz
  generalize numP true g1 g2 g3 g4 g5 g6 fr = nn at *
  cases hm : mayP true g1 g2 g3 g4 g5 g6 fr
  · rw [hm] at C2
    simp only [Bool.false_eq_true, if_false] at C2
    clear hp hm h0 h1
    unfold ent at *
    go_enter Tryd.func61, Tryd.ntmps61
    go_wp2_with fail
    refine (C1 _ (HT.out.below ((Below.refl _ _).alloc (Nat.le_refl _) _))).mono ?_
    rintro e w1 ⟨rfl, hb1⟩
    have HB1 : Hid (Below W.heap.size W w1) := ((Below.refl _ _).alloc (Nat.le_refl _) _).trans (hb1.mono (by simp))
    have HC1 : Hid (Below (W.heap.size + 1) _ w1) := (by simpa [World.size_alloc] using hb1 : Below (W.heap.size + 1) _ w1)
    obtain ⟨hc1, hf1⟩ := bcell hb1
    simp only [World.size_alloc] at hc1 hf1
    have hs1 : W.heap.size < w1.heap.size := by have := hb1.size; simp at this; omega
    clear hb1 C1
    go_wp2_with fail
    refine (C2 _ (HT.out.below (HB1.out.alloc (by omega) _))).mono ?_
    rintro e w2 ⟨rfl, hb2⟩
    have HB2 : Hid (Below W.heap.size W w2) := (HB1.out.alloc (by omega) _).trans (hb2.mono (by simp; omega))
    have HC2 : Hid (Below (W.heap.size + 1) _ w2) := (HC1.out.alloc (by omega) _).trans (hb2.mono (by simp; omega))
    obtain ⟨hc2, hf2⟩ := bcell HC2.out
    clear hb2 C2 hc1 hf1 HB1 HC1
    go_wp2_with fail
    exact bodyPost_ret (v := .tuple #[.agg #[.bool false, .bool false, .bool false, .bool false, .bool false, .bool false, .bool false, .int .i64 0], .int .i64 10]) (by simp [results, Tryd.results61, go_sem, hc2]) rfl ⟨rfl, below_set8 HB2.out (Nat.le_refl _) _ _ _ _ _ _ _ _⟩
  · rw [hm] at C2
    simp only [if_true] at C2
    have hne : (nn != n) = true := by simpa [hm] using hp
    clear hp hm h0 h1
    unfold ent at *
    go_enter Tryd.func61, Tryd.ntmps61
    go_wp2_with fail
    refine (C1 _ (HT.out.below ((Below.refl _ _).alloc (Nat.le_refl _) _))).mono ?_
    rintro e w1 ⟨rfl, hb1⟩
    have HB1 : Hid (Below W.heap.size W w1) := ((Below.refl _ _).alloc (Nat.le_refl _) _).trans (hb1.mono (by simp))
    have HC1 : Hid (Below (W.heap.size + 1) _ w1) := (by simpa [World.size_alloc] using hb1 : Below (W.heap.size + 1) _ w1)
    obtain ⟨hc1, hf1⟩ := bcell hb1
    simp only [World.size_alloc] at hc1 hf1
    have hs1 : W.heap.size < w1.heap.size := by have := hb1.size; simp at this; omega
    clear hb1 C1
    go_wp2_with fail
    refine (C2 _ (HT.out.below (HB1.out.alloc (by omega) _))).mono ?_
    rintro e w2 ⟨rfl, hb2⟩
    have HB2 : Hid (Below W.heap.size W w2) := (HB1.out.alloc (by omega) _).trans (hb2.mono (by simp; omega))
    have HC2 : Hid (Below (W.heap.size + 1) _ w2) := (HC1.out.alloc (by omega) _).trans (hb2.mono (by simp; omega))
    obtain ⟨hc2, hf2⟩ := bcell HC2.out
    clear hb2 C2 hc1 hf1 HB1 HC1
    go_wp2_with fail
    exact bodyPost_ret (v := .tuple #[.agg #[.bool false, .bool false, .bool false, .bool false, .bool false, .bool false, .bool false, .int .i64 0], .int .i64 10]) (by simp [results, Tryd.results61, go_sem, hc2]) rfl ⟨rfl, below_set8 HB2.out (Nat.le_refl _) _ _ _ _ _ _ _ _⟩

set_option maxHeartbeats 1600000 in
theorem unpack_good [Bits] (n : Int) (h0 : 0 ≤ n) (h1 : n < 18446744073709551616) (hz : flagP n 0 = true) (hp : isP n = true) (W : World) (hT : BT W) :
    Calls Tryd.prog 61 #[.int .u64 n] W fun e W' => e = .returned (.tuple #[seenV n, .int .i64 0]) ∧ Below W.heap.size W W' := by
  have C1 := seen_any n h0 h1
  have C2 := pack_any (flagP n 0) (flagP n 1) (flagP n 2) (flagP n 3) (flagP n 4) (flagP n 5) (flagP n 6) (frameP n)
  have HT : Hid (BT W) := hT
  clear hT
  unfold isP at hp
  unfold seenV at *
  unfold packN packE at C2
  simp only [Bool.and_eq_true, decide_eq_true_eq] at hp
  rw [hp.1, hp.2] at C2
  simp only [if_true] at C2
  clear hp
  rw [hz] at *
  generalize flagP n 1 = g1 at *
  generalize flagP n 2 = g2 at *
  generalize flagP n 3 = g3 at *
  generalize flagP n 4 = g4 at *
  generalize flagP n 5 = g5 at *
  generalize flagP n 6 = g6 at *
  generalize frameP n = fr at *
  clear hz h0 h1
  unfold ent at *
  go_enter Tryd.func61, Tryd.ntmps61
  go_wp2_with fail
  refine (C1 _ (HT.out.below ((Below.refl _ _).alloc (Nat.le_refl _) _))).mono ?_
  rintro e w1 ⟨rfl, hb1⟩
  have HB1 : Hid (Below W.heap.size W w1) := ((Below.refl _ _).alloc (Nat.le_refl _) _).trans (hb1.mono (by simp))
  have HC1 : Hid (Below (W.heap.size + 1) _ w1) := (by simpa [World.size_alloc] using hb1 : Below (W.heap.size + 1) _ w1)
  obtain ⟨hc1, hf1⟩ := bcell hb1
  simp only [World.size_alloc] at hc1 hf1
  have hs1 : W.heap.size < w1.heap.size := by have := hb1.size; simp at this; omega
  clear hb1 C1
  go_wp2_with fail
  refine (C2 _ (HT.out.below (HB1.out.alloc (by omega) _))).mono ?_
  rintro e w2 ⟨rfl, hb2⟩
  have HB2 : Hid (Below W.heap.size W w2) := (HB1.out.alloc (by omega) _).trans (hb2.mono (by simp; omega))
  have HC2 : Hid (Below (W.heap.size + 1) _ w2) := (HC1.out.alloc (by omega) _).trans (hb2.mono (by simp; omega))
  obtain ⟨hc2, hf2⟩ := bcell HC2.out
  obtain ⟨hc3, hf3⟩ := bcell hb2
  simp only [World.size_alloc] at hc3 hf3
  clear hb2 C2 hc1 hf1 HB1 HC1
  go_wp2_with fail
  exact bodyPost_ret (v := .tuple #[.agg #[.bool true, .bool g1, .bool g2, .bool g3, .bool g4, .bool g5, .bool g6, .int .i64 fr], .int .i64 0]) (by simp [results, Tryd.results61, go_sem, hc2]) rfl ⟨rfl, below_set8 HB2.out (Nat.le_refl _) _ _ _ _ _ _ _ _⟩

theorem unpack_any [Bits] (n : Int) (h0 : 0 ≤ n) (h1 : n < 18446744073709551616) (W : World) (hT : BT W) :
    Calls Tryd.prog 61 #[.int .u64 n] W fun e W' => e = .returned (.tuple #[unpackV n, .int .i64 (unpackE n)]) ∧ Below W.heap.size W W' := by
  cases hz : flagP n 0
  · obtain ⟨e1, e2⟩ := wp_zero n hz
    rw [e1, e2]
    exact unpack_zero n h0 h1 hz W hT
  · cases hp : isP n
    · obtain ⟨e1, e2⟩ := wp_bad n hp hz
      rw [e1, e2]
      exact unpack_bad n h0 h1 hz hp W hT
    · obtain ⟨e1, e2⟩ := wp_good n hp hz
      rw [e1, e2]
      exact unpack_good n h0 h1 hz hp W hT
end Go.Proofs.YteghkhdpdeiocaaDoor.E
