/-
  What Unpack and the document's Unpack tell: their contracts, over the table of bits as it is laid.
  What Split, Join, names and the document's Split, Join and Allows tell: their contracts.
  What the small functions of package walk tell: their contracts.
  What a page comes to on the page under it: the contract of both.
-/
import Derived.Test.YtkckobbedpccfaaGreatDoorQE1
import Derived.Test.YtkckobbedpccfaaGreatDoorQE
import Derived.Defers
import Derived.Recover
namespace Go.Proofs.YtkckobbedpccfaaGreatDoor.E
open Go.RowKit
set_option linter.unusedVariables false

/-- what Unpack tells -/
def unpackV [Bits] (n : Int) : Value := if flagP n 0 && isP n then seenV n else ent false false false false false false false 0
def unpackE [Bits] (n : Int) : Int := if flagP n 0 && !isP n then 10 else 0

theorem wp_zero [Bits] (n : Int) (h : flagP n 0 = false) : unpackV n = ent false false false false false false false 0 ∧ unpackE n = 0 := by simp [unpackV, unpackE, h]
theorem wp_bad [Bits] (n : Int) (h : isP n = false) (h0 : flagP n 0 = true) : unpackV n = ent false false false false false false false 0 ∧ unpackE n = 10 := by simp [unpackV, unpackE, h, h0]
theorem wp_good [Bits] (n : Int) (h : isP n = true) (h0 : flagP n 0 = true) : unpackV n = seenV n ∧ unpackE n = 0 := by simp [unpackV, unpackE, h, h0]

set_option maxHeartbeats 1600000 in
theorem unpack_zero [Bits] (n : Int) (h0 : 0 ≤ n) (h1 : n < 18446744073709551616) (hz : flagP n 0 = false) (W : World) (hT : BT W) :
    Calls Tryz.prog 189 #[.int .u64 n] W fun e W' => e = .returned (.tuple #[ent false false false false false false false 0, .int .i64 0]) ∧ Below W.heap.size W W' := by
  have C1 := seen_any n h0 h1
  have HT : Hid (BT W) := hT
  clear hT
  unfold seenV at C1
  rw [hz] at C1
  generalize flagP n 1 = g1 at *
  generalize flagP n 2 = g2 at *
  generalize flagP n 3 = g3 at *
  generalize flagP n 4 = g4 at *
  generalize flagP n 5 = g5 at *
  generalize flagP n 6 = g6 at *
  generalize frameP n = fr at *
  clear hz h0 h1
  unfold ent at *
  go_enter Tryz.func189, Tryz.ntmps189
  go_wp2_with fail
  refine (C1 _ (HT.out.below ((Below.refl _ _).alloc (Nat.le_refl _) _))).mono ?_
  rintro e w1 ⟨rfl, hb1⟩
  have HB1 : Hid (Below W.heap.size W w1) := ((Below.refl _ _).alloc (Nat.le_refl _) _).trans (hb1.mono (by simp))
  obtain ⟨hc1, hf1⟩ := bcell hb1
  simp only [World.size_alloc] at hc1 hf1
  have hs1 : W.heap.size < w1.heap.size := by have := hb1.size; simp at this; omega
  clear hb1 C1
  go_wp2_with fail
  exact bodyPost_ret (v := .tuple #[.agg #[.bool false, .bool false, .bool false, .bool false, .bool false, .bool false, .bool false, .int .i64 0], .int .i64 0]) (by simp [results, Tryz.results189, go_sem, hc1, hs1]) rfl ⟨rfl, (below_set8 HB1.out (Nat.le_refl _) _ _ _ _ _ _ _ _).alloc (by simp; omega) _⟩

set_option maxHeartbeats 1600000 in
theorem unpack_bad [Bits] (n : Int) (h0 : 0 ≤ n) (h1 : n < 18446744073709551616) (hz : flagP n 0 = true) (hp : isP n = false) (W : World) (hT : BT W) :
    Calls Tryz.prog 189 #[.int .u64 n] W fun e W' => e = .returned (.tuple #[ent false false false false false false false 0, .int .i64 10]) ∧ Below W.heap.size W W' := by
  have C1 := seen_any n h0 h1
  have C2 := pack_any (flagP n 0) (flagP n 1) (flagP n 2) (flagP n 3) (flagP n 4) (flagP n 5) (flagP n 6) (frameP n)
  have HT : Hid (BT W) := hT
  clear hT
  unfold isP at hp
  unfold seenV at C1
  unfold packN packE at C2
  rw [hz] at C1 C2 hp
  generalize flagP n 1 = g1 at *
  generalize flagP n 2 = g2 at *
  generalize flagP n 3 = g3 at *
  generalize flagP n 4 = g4 at *
  generalize flagP n 5 = g5 at *
  generalize flagP n 6 = g6 at *
  generalize frameP n = fr at *
  clear hz
  generalize numP true g1 g2 g3 g4 g5 g6 fr = nn at *
  cases hm : mayP true g1 g2 g3 g4 g5 g6 fr
  · rw [hm] at C2
    simp only [Bool.false_eq_true, if_false] at C2
    clear hp hm h0 h1
    unfold ent at *
    go_enter Tryz.func189, Tryz.ntmps189
    go_wp2_with fail
    refine (C1 _ (HT.out.below ((Below.refl _ _).alloc (Nat.le_refl _) _))).mono ?_
    rintro e w1 ⟨rfl, hb1⟩
    have HB1 : Hid (Below W.heap.size W w1) := ((Below.refl _ _).alloc (Nat.le_refl _) _).trans (hb1.mono (by simp))
    have HC1 : Hid (Below (W.heap.size + 1) _ w1) := (by simpa [World.size_alloc] using hb1 : Below (W.heap.size + 1) _ w1)
    obtain ⟨hc1, hf1⟩ := bcell hb1
    simp only [World.size_alloc] at hc1 hf1
    have hs1 : W.heap.size < w1.heap.size := by have := hb1.size; simp at this; omega
    clear hb1 C1
    go_wp2_with fail
    refine (C2 _ (HT.out.below (HB1.out.alloc (by omega) _))).mono ?_
    rintro e w2 ⟨rfl, hb2⟩
    have HB2 : Hid (Below W.heap.size W w2) := (HB1.out.alloc (by omega) _).trans (hb2.mono (by simp; omega))
    have HC2 : Hid (Below (W.heap.size + 1) _ w2) := (HC1.out.alloc (by omega) _).trans (hb2.mono (by simp; omega))
    obtain ⟨hc2, hf2⟩ := bcell HC2.out
    clear hb2 C2 hc1 hf1 HB1 HC1
    go_wp2_with fail
    exact bodyPost_ret (v := .tuple #[.agg #[.bool false, .bool false, .bool false, .bool false, .bool false, .bool false, .bool false, .int .i64 0], .int .i64 10]) (by simp [results, Tryz.results189, go_sem, hc2]) rfl ⟨rfl, below_set8 HB2.out (Nat.le_refl _) _ _ _ _ _ _ _ _⟩
  · rw [hm] at C2
    simp only [if_true] at C2
    have hne : (nn != n) = true := by simpa [hm] using hp
    clear hp hm h0 h1
    unfold ent at *
    go_enter Tryz.func189, Tryz.ntmps189
    go_wp2_with fail
    refine (C1 _ (HT.out.below ((Below.refl _ _).alloc (Nat.le_refl _) _))).mono ?_
    rintro e w1 ⟨rfl, hb1⟩
    have HB1 : Hid (Below W.heap.size W w1) := ((Below.refl _ _).alloc (Nat.le_refl _) _).trans (hb1.mono (by simp))
    have HC1 : Hid (Below (W.heap.size + 1) _ w1) := (by simpa [World.size_alloc] using hb1 : Below (W.heap.size + 1) _ w1)
    obtain ⟨hc1, hf1⟩ := bcell hb1
    simp only [World.size_alloc] at hc1 hf1
    have hs1 : W.heap.size < w1.heap.size := by have := hb1.size; simp at this; omega
    clear hb1 C1
    go_wp2_with fail
    refine (C2 _ (HT.out.below (HB1.out.alloc (by omega) _))).mono ?_
    rintro e w2 ⟨rfl, hb2⟩
    have HB2 : Hid (Below W.heap.size W w2) := (HB1.out.alloc (by omega) _).trans (hb2.mono (by simp; omega))
    have HC2 : Hid (Below (W.heap.size + 1) _ w2) := (HC1.out.alloc (by omega) _).trans (hb2.mono (by simp; omega))
    obtain ⟨hc2, hf2⟩ := bcell HC2.out
    clear hb2 C2 hc1 hf1 HB1 HC1
    go_wp2_with fail
    exact bodyPost_ret (v := .tuple #[.agg #[.bool false, .bool false, .bool false, .bool false, .bool false, .bool false, .bool false, .int .i64 0], .int .i64 10]) (by simp [results, Tryz.results189, go_sem, hc2]) rfl ⟨rfl, below_set8 HB2.out (Nat.le_refl _) _ _ _ _ _ _ _ _⟩

set_option maxHeartbeats 1600000 in
theorem unpack_good [Bits] (n : Int) (h0 : 0 ≤ n) (h1 : n < 18446744073709551616) (hz : flagP n 0 = true) (hp : isP n = true) (W : World) (hT : BT W) :
    Calls Tryz.prog 189 #[.int .u64 n] W fun e W' => e = .returned (.tuple #[seenV n, .int .i64 0]) ∧ Below W.heap.size W W' := by
  have C1 := seen_any n h0 h1
  have C2 := pack_any (flagP n 0) (flagP n 1) (flagP n 2) (flagP n 3) (flagP n 4) (flagP n 5) (flagP n 6) (frameP n)
  have HT : Hid (BT W) := hT
  clear hT
  unfold isP at hp
  unfold seenV at *
  unfold packN packE at C2
  simp only [Bool.and_eq_true, decide_eq_true_eq] at hp
  rw [hp.1, hp.2] at C2
  simp only [if_true] at C2
  clear hp
  rw [hz] at *
  generalize flagP n 1 = g1 at *
  generalize flagP n 2 = g2 at *
  generalize flagP n 3 = g3 at *
  generalize flagP n 4 = g4 at *
  generalize flagP n 5 = g5 at *
  generalize flagP n 6 = g6 at *
  generalize frameP n = fr at *
  clear hz h0 h1
  unfold ent at *
  go_enter Tryz.func189, Tryz.ntmps189
  go_wp2_with fail
  refine (C1 _ (HT.out.below ((Below.refl _ _).alloc (Nat.le_refl _) _))).mono ?_
  rintro e w1 ⟨rfl, hb1⟩
  have HB1 : Hid (Below W.heap.size W w1) := ((Below.refl _ _).alloc (Nat.le_refl _) _).trans (hb1.mono (by simp))
  have HC1 : Hid (Below (W.heap.size + 1) _ w1) := (by simpa [World.size_alloc] using hb1 : Below (W.heap.size + 1) _ w1)
  obtain ⟨hc1, hf1⟩ := bcell hb1
  simp only [World.size_alloc] at hc1 hf1
  have hs1 : W.heap.size < w1.heap.size := by have := hb1.size; simp at this; omega
  clear hb1 C1
  go_wp2_with fail
  refine (C2 _ (HT.out.below (HB1.out.alloc (by omega) _))).mono ?_
  rintro e w2 ⟨rfl, hb2⟩
  have HB2 : Hid (Below W.heap.size W w2) := (HB1.out.alloc (by omega) _).trans (hb2.mono (by simp; omega))
  have HC2 : Hid (Below (W.heap.size + 1) _ w2) := (HC1.out.alloc (by omega) _).trans (hb2.mono (by simp; omega))
  obtain ⟨hc2, hf2⟩ := bcell HC2.out
  obtain ⟨hc3, hf3⟩ := bcell hb2
  simp only [World.size_alloc] at hc3 hf3
  clear hb2 C2 hc1 hf1 HB1 HC1
  go_wp2_with fail
  exact bodyPost_ret (v := .tuple #[.agg #[.bool true, .bool g1, .bool g2, .bool g3, .bool g4, .bool g5, .bool g6, .int .i64 fr], .int .i64 0]) (by simp [results, Tryz.results189, go_sem, hc2]) rfl ⟨rfl, below_set8 HB2.out (Nat.le_refl _) _ _ _ _ _ _ _ _⟩

theorem unpack_any [Bits] (n : Int) (h0 : 0 ≤ n) (h1 : n < 18446744073709551616) (W : World) (hT : BT W) :
    Calls Tryz.prog 189 #[.int .u64 n] W fun e W' => e = .returned (.tuple #[unpackV n, .int .i64 (unpackE n)]) ∧ Below W.heap.size W W' := by
  cases hz : flagP n 0
  · obtain ⟨e1, e2⟩ := wp_zero n hz
    rw [e1, e2]
    exact unpack_zero n h0 h1 hz W hT
  · cases hp : isP n
    · obtain ⟨e1, e2⟩ := wp_bad n hp hz
      rw [e1, e2]
      exact unpack_bad n h0 h1 hz hp W hT
    · obtain ⟨e1, e2⟩ := wp_good n hp hz
      rw [e1, e2]
      exact unpack_good n h0 h1 hz hp W hT
end Go.Proofs.YtkckobbedpccfaaGreatDoor.E
namespace Go.Proofs.YtkckobbedpccfaaGreatDoor.E
open Go.RowKit
set_option linter.unusedVariables false

/-- an address's parts -/
def splitV (n : Int) : Value := if n < 262144 then .tuple #[.int .i64 (n / 8192), .int .i64 (n / 256 % 32), .int .i64 (n % 256), .bool true] else .tuple #[.int .i64 0, .int .i64 0, .int .i64 0, .bool false]
theorem split_any (n : Int) (h0 : 0 ≤ n) (h1 : n < 18446744073709551616) (W : World) :
    Calls Tryz.prog 184 #[.int .u64 n] W fun e W' => e = .returned (splitV n) ∧ W' = W := by
  by_cases h : n < 262144
  · have e : splitV n = .tuple #[.int .i64 (n / 8192), .int .i64 (n / 256 % 32), .int .i64 (n % 256), .bool true] := by unfold splitV; rw [if_pos h]
    rw [e]
    clear e
    have e0 : (n / 262144 == 0) = true := beq_iff_eq.2 (by omega)
    have e1 : wrap64 (n / 8192) = n / 8192 := IntWalk.wrap64_in _ ⟨by omega, by omega⟩
    have e2 : wrap64 (n / 256 % 32) = n / 256 % 32 := IntWalk.wrap64_in _ ⟨by omega, by omega⟩
    have e3 : wrap64 (n % 256) = n % 256 := IntWalk.wrap64_in _ ⟨by omega, by omega⟩
    go_enter Tryz.func184, Tryz.ntmps184
    go_wp2
    exact bodyPost_ret (v := .tuple #[.int .i64 (n / 8192), .int .i64 (n / 256 % 32), .int .i64 (n % 256), .bool true]) (by simp [results, Tryz.results184, go_sem]) rfl ⟨rfl, rfl⟩
  · have e : splitV n = .tuple #[.int .i64 0, .int .i64 0, .int .i64 0, .bool false] := by unfold splitV; rw [if_neg h]
    rw [e]
    clear e
    have e0 : (n / 262144 == 0) = false := beq_eq_false_iff_ne.2 (by omega)
    go_enter Tryz.func184, Tryz.ntmps184
    go_wp2
    exact bodyPost_ret (v := .tuple #[.int .i64 0, .int .i64 0, .int .i64 0, .bool false]) (by simp [results, Tryz.results184, go_sem]) rfl ⟨rfl, rfl⟩

end Go.Proofs.YtkckobbedpccfaaGreatDoor.E
namespace Go.Proofs.YtkckobbedpccfaaGreatDoor.E
open Go.RowKit
set_option linter.unusedVariables false
set_option maxRecDepth 100000

/-- an entry -/
structure En where
  v : Bool
  r : Bool
  w : Bool
  x : Bool
  u : Bool
  s : Bool
  d : Bool
  f : Int
def En.val (e : En) : Value := ent e.v e.r e.w e.x e.u e.s e.d e.f
def En.zero : En := ⟨false, false, false, false, false, false, false, 0⟩
/-- the entry of a number, all 0 if there is none -/
def enOf [Bits] (n : Int) : En := if flagP n 0 && isP n then ⟨flagP n 0, flagP n 1, flagP n 2, flagP n 3, flagP n 4, flagP n 5, flagP n 6, frameP n⟩ else En.zero
theorem unpackV_en [Bits] (n : Int) : unpackV n = (enOf n).val := by
  unfold unpackV enOf
  split <;> rfl

def trapV (c v g : Int) : Value := .agg #[.int .i64 c, .int .u64 v, .int .u64 g]
def askV (t a : Int) (u : Bool) : Value := .agg #[.int .u64 t, .int .i64 a, .bool u]
def foundV (f : Int) (r w x u : Bool) (l : Int) : Value := .agg #[.int .i64 f, .bool r, .bool w, .bool x, .bool u, .int .i64 l]
/-- the fault of an access -/
def faultP (a f l s : Int) : Int := if a = 0 then f else if a = 2 then s else l
/-- the address of a table's entry -/
def atP (f p : Int) : Int := IntKind.u64.wrap (IntKind.u64.wrap (f * 256) + p * 8)

theorem fault_any (t a : Int) (u : Bool) (f l s : Int) (W : World) :
    Calls Tryz.prog 183 #[askV t a u, .int .i64 f, .int .i64 l, .int .i64 s] W fun e W' => e = .returned (.int .i64 (faultP a f l s)) ∧ Below W.heap.size W W' := by
  unfold askV
  go_enter Tryz.func183, Tryz.ntmps183
  go_wp2
  all_goals
    go_ret
    refine ⟨ret_int ?_, (Below.refl _ _).alloc (Nat.le_refl _) _⟩
    unfold faultP
    simp_all

theorem entryAt_any (f p : Int) (h0 : 0 ≤ f) (h1 : f < 9223372036854775808) (hp : 0 ≤ p) (hp' : p < 32) (W : World) :
    Calls Tryz.prog 179 #[.int .i64 f, .int .i64 p] W fun e W' => e = .returned (.tuple #[.int .u64 (atP f p), .bool (decide (f ≤ 72057594037927935))]) ∧ W' = W := by
  have w1 : IntKind.u64.wrap f = f := wraps_u64 _ (by omega) (by omega)
  have w2 : IntKind.u64.wrap p = p := wraps_u64 _ (by omega) (by omega)
  have w3 : IntKind.u64.wrap (p * 8) = p * 8 := wraps_u64 _ (by omega) (by omega)
  unfold atP
  go_enter Tryz.func179, Tryz.ntmps179
  go_wp2
  go_ret2
  exact ⟨rfl, rfl⟩

theorem catch_idle (W : World) : CallsD Tryz.prog 192 #[] .returning W fun e u' w' => e = .returned (.tuple #[]) ∧ u' = .returning ∧ w' = W := by
  refine callsD_of_wpS Tryz.func192 rfl fun c₀ cs hu => ?_
  apply wpS_region
  simp [wpOpsS, go_sem, recoverD, hu, Tryz.ntmps192]
  cases c₀
  simp_all [bodyPostS, results, Tryz.results192]

theorem load_method (b : Nat) (w : World) : (method 387 44 (.pointer (some ⟨b, 0, none⟩)) "Load").run Tryz.prog w = .ok (9, .pointer (some ⟨b, 0, none⟩)) w := by kernel_rfl
theorem number_mm (b g : Nat) (zs : List Int) (t : Int) (W : World) (hz : SZ W) (h : MM W b g zs) (ht : 0 ≤ t) (ht' : t < 18446744073709551616) :
    Calls Tryz.prog 188 #[.iface 44 (.pointer (some ⟨b, 0, none⟩)), .int .u64 t] W fun e W' => e = .returned (.tuple #[.int .u64 (loadV zs t 8), .bool (decide (numE zs.length t 8 = 0))]) ∧ Below W.heap.size W W' := by
  have L := mload_mm b g zs t 8 W hz h ht ht' (by decide)
  generalize loadV zs t 8 = x at *
  generalize numE zs.length t 8 = y at *
  have hm := load_method b
  go_enter_defers Tryz.func188, Tryz.ntmps188
  go_wp2_with fail
  refine L.mono ?_
  rintro e w1 ⟨rfl, hb1⟩
  go_wp2_with fail
  refine leaves_cons (f := 192) (args := #[]) (by simp) (by simp [go_sem]) ?_
  refine (catch_idle _).mono ?_
  rintro e u' w'' ⟨rfl, rfl, rfl⟩
  simp [Leaves, settle, results, Tryz.results188, go_sem]
  exact ⟨rfl, hb1⟩

theorem below_set3 {B : Nat} {W w : World} (h : Below B W w) {b : Nat} (hb : B ≤ b) (v0 v1 v2 : Value) :
    Below B W (((w.setCell ⟨b, 0, none⟩ v0).setCell ⟨b, 1, none⟩ v1).setCell ⟨b, 2, none⟩ v2) := ((h.setCell hb _).setCell hb _).setCell hb _

theorem refused_any (t a : Int) (u : Bool) (W : World) :
    Calls Tryz.prog 185 #[askV t a u] W fun e W' => e = .returned (trapV (faultP a 12 13 15) t 0) ∧ Below W.heap.size W W' := by
  obtain ⟨WW, HW⟩ : ∃ WW, Hid (WW = (W.alloc (.cells #[.int .u64 t, .int .i64 a, .bool u] 232)).alloc (.cells #[.int .i64 0, .int .u64 0, .int .u64 0] 55)) := ⟨_, rfl⟩
  have hb0 : Below W.heap.size W WW := by rw [HW.out]; exact ((Below.refl _ _).alloc (Nat.le_refl _) _).alloc (by simp) _
  have hsz : WW.heap.size = W.heap.size + 2 := by rw [HW.out]; simp
  have hcs : ∀ (s : Above WW) k, s.wld.cell? ⟨W.heap.size, k, none⟩ = _ := fun s k => (s.bel.cell (p := ⟨W.heap.size, k, none⟩) (by show W.heap.size < _; omega)).trans (by rw [HW.out])
  have hcell : ∀ (s : Above WW) k, s.wld.cell? ⟨W.heap.size + 1, k, none⟩ = _ := fun s k => (s.bel.cell (p := ⟨W.heap.size + 1, k, none⟩) (by show W.heap.size + 1 < _; omega)).trans (by rw [HW.out])
  have hfro : ∀ (s : Above WW) k, s.wld.frozen? ⟨W.heap.size + 1, k, none⟩ = _ := fun s k => (s.bel.frozen (p := ⟨W.heap.size + 1, k, none⟩) (by show W.heap.size + 1 < _; omega)).trans (by rw [HW.out])
  have C := fun s : Above WW => fault_any t a u 12 13 15 s.wld
  have hne := above_here WW
  unfold trapV askV at *
  generalize faultP a 12 13 15 = x at *
  go_enter Tryz.func185, Tryz.ntmps185
  go_wp2_with fail
  rw [← HW.out]
  refine wp_region_last_lit (by simp) (fun w' => ∃ s : Above WW, w' = s.wld) (by kernel_rfl) (by kernel_rfl) rfl rfl (by kernel_rfl) (by kernel_rfl) ⟨⟨_, (Below.refl _ _).drew⟩, rfl⟩ ?_
  simp only [List.dropLast, List.getLast]
  repeat (first
    | go_big_quiet_skip
    | (go_big_quiet_want; go_big_quiet_op; go_big_quiet_on))
  (go_big_quiet_want; go_big_quiet_op; apply Exists.intro; refine ⟨fun s => ?_, ?_⟩; exact above_call s (C s); go_big_quiet_on)
  repeat (first
    | go_big_quiet_skip
    | (go_big_quiet_want; go_big_quiet_op; go_big_quiet_on))
  refine wpQuiet_nil ?_
  rintro _ ⟨s, rfl⟩
  clear C
  go_wp2_with fail
  have hbase : Below W.heap.size W s.wld := hb0.trans (s.bel.mono (by omega))
  exact bodyPost_ret (v := .agg #[.int .i64 x, .int .u64 t, .int .u64 0]) (by simp [results, Tryz.results185, go_sem, hcell]) rfl ⟨rfl, below_set3 hbase (by omega) _ _ _⟩

theorem beyond_any (t a q : Int) (u : Bool) (W : World) :
    Calls Tryz.prog 174 #[askV t a u, .int .u64 q] W fun e W' => e = .returned (trapV (faultP a 20 21 23) t q) ∧ Below W.heap.size W W' := by
  obtain ⟨WW, HW⟩ : ∃ WW, Hid (WW = (W.alloc (.cells #[.int .u64 t, .int .i64 a, .bool u] 232)).alloc (.cells #[.int .i64 0, .int .u64 0, .int .u64 0] 55)) := ⟨_, rfl⟩
  have hb0 : Below W.heap.size W WW := by rw [HW.out]; exact ((Below.refl _ _).alloc (Nat.le_refl _) _).alloc (by simp) _
  have hsz : WW.heap.size = W.heap.size + 2 := by rw [HW.out]; simp
  have hcs : ∀ (s : Above WW) k, s.wld.cell? ⟨W.heap.size, k, none⟩ = _ := fun s k => (s.bel.cell (p := ⟨W.heap.size, k, none⟩) (by show W.heap.size < _; omega)).trans (by rw [HW.out])
  have hcell : ∀ (s : Above WW) k, s.wld.cell? ⟨W.heap.size + 1, k, none⟩ = _ := fun s k => (s.bel.cell (p := ⟨W.heap.size + 1, k, none⟩) (by show W.heap.size + 1 < _; omega)).trans (by rw [HW.out])
  have hfro : ∀ (s : Above WW) k, s.wld.frozen? ⟨W.heap.size + 1, k, none⟩ = _ := fun s k => (s.bel.frozen (p := ⟨W.heap.size + 1, k, none⟩) (by show W.heap.size + 1 < _; omega)).trans (by rw [HW.out])
  have C := fun s : Above WW => fault_any t a u 20 21 23 s.wld
  have hne := above_here WW
  unfold trapV askV at *
  generalize faultP a 20 21 23 = x at *
  go_enter Tryz.func174, Tryz.ntmps174
  go_wp2_with fail
  rw [← HW.out]
  refine wp_region_last_lit (by simp) (fun w' => ∃ s : Above WW, w' = s.wld) (by kernel_rfl) (by kernel_rfl) rfl rfl (by kernel_rfl) (by kernel_rfl) ⟨⟨_, (Below.refl _ _).drew⟩, rfl⟩ ?_
  simp only [List.dropLast, List.getLast]
  repeat (first
    | go_big_quiet_skip
    | (go_big_quiet_want; go_big_quiet_op; go_big_quiet_on))
  (go_big_quiet_want; go_big_quiet_op; apply Exists.intro; refine ⟨fun s => ?_, ?_⟩; exact above_call s (C s); go_big_quiet_on)
  repeat (first
    | go_big_quiet_skip
    | (go_big_quiet_want; go_big_quiet_op; go_big_quiet_on))
  refine wpQuiet_nil ?_
  rintro _ ⟨s, rfl⟩
  clear C
  go_wp2_with fail
  have hbase : Below W.heap.size W s.wld := hb0.trans (s.bel.mono (by omega))
  exact bodyPost_ret (v := .agg #[.int .i64 x, .int .u64 t, .int .u64 q]) (by simp [results, Tryz.results174, go_sem, hcell]) rfl ⟨rfl, below_set3 hbase (by omega) _ _ _⟩

theorem found_any (e : En) (l : Int) (W : World) :
    Calls Tryz.prog 181 #[e.val, .int .i64 l] W fun o W' => o = .returned (foundV e.f e.r e.w e.x e.u l) ∧ Below W.heap.size W W' := by
  obtain ⟨v, r, w, x, u, s, d, f⟩ := e
  unfold En.val ent foundV
  go_enter Tryz.func181, Tryz.ntmps181
  go_wp2
  exact bodyPost_ret (v := .agg #[.int .i64 f, .bool r, .bool w, .bool x, .bool u, .int .i64 l]) (by simp [results, Tryz.results181, go_sem]) rfl ⟨rfl, ((Below.refl _ _).alloc (Nat.le_refl _) _).alloc (by simp) _⟩
end Go.Proofs.YtkckobbedpccfaaGreatDoor.E
namespace Go.Proofs.YtkckobbedpccfaaGreatDoor.E
open Go.RowKit
set_option linter.unusedVariables false

set_option maxHeartbeats 1600000 in
theorem both_any (f f' l l' : Int) (r w x u r' w' x' u' : Bool) (W : World) :
    Calls Tryz.prog 175 #[foundV f r w x u l, foundV f' r' w' x' u' l'] W fun o W' => o = .returned (foundV f' (r && r') (w && w') (x && x') u (wrap64 (l + l'))) ∧ Below W.heap.size W W' := by
  unfold foundV
  cases r <;> cases w <;> cases x
  all_goals
    simp only [Bool.true_and, Bool.false_and]
    go_enter Tryz.func175, Tryz.ntmps175
    go_wp2
    refine bodyPost_ret (v := _) ?h1 rfl ⟨rfl, ?h2⟩
    case h2 => exact (((Below.refl _ _).alloc (Nat.le_refl _) _).alloc (by simp) _).alloc (by simp; omega) _
    case h1 => simp [results, Tryz.results175, go_sem]
end Go.Proofs.YtkckobbedpccfaaGreatDoor.E
