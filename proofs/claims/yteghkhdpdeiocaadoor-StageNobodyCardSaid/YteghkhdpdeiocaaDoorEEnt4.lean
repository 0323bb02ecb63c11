/-
  What seen and its closure, Unpack and the document's Unpack tell: their contracts, over the table of bits as it is laid.
-/
import Derived.Test.YteghkhdpdeiocaaDoorEEnt3
import Derived.Test.YteghkhdpdeiocaaDoorELast
namespace Go.Proofs.YteghkhdpdeiocaaDoor.E
open Go.RowKit
set_option linter.unusedVariables false
set_option maxRecDepth 100000

theorem below_set8 {B : Nat} {W w : World} (h : Below B W w) {b : Nat} (hb : B ≤ b) (v0 v1 v2 v3 v4 v5 v6 v7 : Value) :
    Below B W ((((((((w.setCell ⟨b, 0, none⟩ v0).setCell ⟨b, 1, none⟩ v1).setCell ⟨b, 2, none⟩ v2).setCell ⟨b, 3, none⟩ v3).setCell ⟨b, 4, none⟩ v4).setCell ⟨b, 5, none⟩ v5).setCell ⟨b, 6, none⟩ v6).setCell ⟨b, 7, none⟩ v7) :=
  (((((((h.setCell hb _).setCell hb _).setCell hb _).setCell hb _).setCell hb _).setCell hb _).setCell hb _).setCell hb _

theorem below_drewN (W : World) : ∀ n, Below W.heap.size W (W.drewN n)
  | 0 => Below.refl _ _
  | n + 1 => (below_drewN W n).drew

theorem bit_at [Bits] (n : Int) (k : Nat) (hk : k ≤ 6) (h0 : 0 ≤ n) (h1 : n < 18446744073709551616) (b : Nat) (W : World) (hT : BT W) (hc : W.cell? ⟨b, 0, none⟩ = some (.int .u64 n)) :
    Calls Tryd.prog 101 #[.int .i64 (k : Int), .pointer (some ⟨b, 0, none⟩)] W fun e W' => e = .returned (.bool (flagP n k)) ∧ Below W.heap.size W W' := by
  obtain ⟨c0, c1, c2, c3, c4, c5, c6, hp⟩ := hT
  have HF : Hid (∀ x : Int, x = n / 2 ^ min (Bits.b k).toNat 64 → (bits .and .u64 x 1 != 0) = flagP n k) := by
    intro x hx
    have hq : 0 ≤ x ∧ x < 18446744073709551616 := by
      subst hx
      exact ⟨Int.ediv_nonneg h0 (Int.pow_nonneg (by decide)), by have := Int.ediv_le_self (2 ^ min (Bits.b k).toNat 64) h0; omega⟩
    rw [and_one x hq.1 hq.2, hx]
    unfold flagP
    rw [Bool.eq_iff_iff]
    simp
  have lo := Bits.lo k
  obtain rfl | rfl | rfl | rfl | rfl | rfl | rfl : k = 0 ∨ k = 1 ∨ k = 2 ∨ k = 3 ∨ k = 4 ∨ k = 5 ∨ k = 6 := by omega
  all_goals
    go_enter Tryd.func101, Tryd.ntmps101
    go_wp2_with fail
    go_quiet (fail)
    go_wp2_with fail
    go_ret
    exact ⟨ret_bool (HF.out _ (by simp)), below_drewN _ _⟩

/-- what stands in a number, as a value -/
def seenV [Bits] (n : Int) : Value := ent (flagP n 0) (flagP n 1) (flagP n 2) (flagP n 3) (flagP n 4) (flagP n 5) (flagP n 6) (frameP n)

set_option maxHeartbeats 3200000 in
theorem seen_any [Bits] (n : Int) (h0 : 0 ≤ n) (h1 : n < 18446744073709551616) (W : World) (hT : BT W) :
    Calls Tryd.prog 85 #[.int .u64 n] W fun e W' => e = .returned (seenV n) ∧ Below W.heap.size W W' := by
  obtain ⟨WW, HW⟩ : ∃ WW, Hid (WW = (W.alloc (.cells #[.int .u64 n] 75)).alloc (.cells #[.bool false, .bool false, .bool false, .bool false, .bool false, .bool false, .bool false, .int .i64 0] 78)) := ⟨_, rfl⟩
  have hb0 : Below W.heap.size W WW := by rw [HW.out]; exact ((Below.refl _ _).alloc (Nat.le_refl _) _).alloc (by simp) _
  have hsz : WW.heap.size = W.heap.size + 2 := by rw [HW.out]; simp
  have hTW : BT WW := hT.below hb0
  have hTs : ∀ s : Above WW, BT s.wld := fun s => hTW.below s.bel
  have hcs : ∀ s : Above WW, s.wld.cell? ⟨W.heap.size, 0, none⟩ = some (.int .u64 n) := fun s => (s.bel.cell (p := ⟨W.heap.size, 0, none⟩) (by show W.heap.size < _; omega)).trans (by rw [HW.out]; simp [go_sem])
  have C0 := fun s : Above WW => bit_at n 0 (by decide) h0 h1 W.heap.size s.wld (hTs s) (hcs s)
  have C1 := fun s : Above WW => bit_at n 1 (by decide) h0 h1 W.heap.size s.wld (hTs s) (hcs s)
  have C2 := fun s : Above WW => bit_at n 2 (by decide) h0 h1 W.heap.size s.wld (hTs s) (hcs s)
  have C3 := fun s : Above WW => bit_at n 3 (by decide) h0 h1 W.heap.size s.wld (hTs s) (hcs s)
  have C4 := fun s : Above WW => bit_at n 4 (by decide) h0 h1 W.heap.size s.wld (hTs s) (hcs s)
  have C5 := fun s : Above WW => bit_at n 5 (by decide) h0 h1 W.heap.size s.wld (hTs s) (hcs s)
  have C6 := fun s : Above WW => bit_at n 6 (by decide) h0 h1 W.heap.size s.wld (hTs s) (hcs s)
  have wf : wrap64 (n / 1024 % 65536) = n / 1024 % 65536 := IntWalk.wrap64_in _ ⟨by omega, by omega⟩
  have hne := above_here WW
  unfold seenV ent frameP
  generalize flagP n 0 = g0 at *
  generalize flagP n 1 = g1 at *
  generalize flagP n 2 = g2 at *
  generalize flagP n 3 = g3 at *
  generalize flagP n 4 = g4 at *
  generalize flagP n 5 = g5 at *
  generalize flagP n 6 = g6 at *
  have hcell : ∀ (s : Above WW) k, s.wld.cell? ⟨W.heap.size + 1, k, none⟩ = _ := fun s k => (s.bel.cell (p := ⟨W.heap.size + 1, k, none⟩) (by show W.heap.size + 1 < _; omega)).trans (by rw [HW.out])
  have hfro : ∀ (s : Above WW) k, s.wld.frozen? ⟨W.heap.size + 1, k, none⟩ = _ := fun s k => (s.bel.frozen (p := ⟨W.heap.size + 1, k, none⟩) (by show W.heap.size + 1 < _; omega)).trans (by rw [HW.out])
  go_enter Tryd.func85, Tryd.ntmps85
  go_wp2_with fail
  rw [← HW.out]
  refine wp_region_last_lit (by simp) (fun w' => ∃ s : Above WW, w' = s.wld) (by kernel_rfl) (by kernel_rfl) rfl rfl (by kernel_rfl) (by kernel_rfl) ⟨⟨_, (Below.refl _ _).drew⟩, rfl⟩ ?_
  simp only [List.dropLast, List.getLast]
  repeat (first
    | go_big_quiet_skip
    | (go_big_quiet_want; go_big_quiet_op; go_big_quiet_on))
  (go_big_quiet_want; go_big_quiet_op; apply Exists.intro; refine ⟨fun s => ?_, ?_⟩; exact above_call s (C0 s); go_big_quiet_on)
  repeat (first
    | go_big_quiet_skip
    | (go_big_quiet_want; go_big_quiet_op; go_big_quiet_on))
  (go_big_quiet_want; go_big_quiet_op; apply Exists.intro; refine ⟨fun s => ?_, ?_⟩; exact above_call s (C1 s); go_big_quiet_on)
  repeat (first
    | go_big_quiet_skip
    | (go_big_quiet_want; go_big_quiet_op; go_big_quiet_on))
  (go_big_quiet_want; go_big_quiet_op; apply Exists.intro; refine ⟨fun s => ?_, ?_⟩; exact above_call s (C2 s); go_big_quiet_on)
  repeat (first
    | go_big_quiet_skip
    | (go_big_quiet_want; go_big_quiet_op; go_big_quiet_on))
  (go_big_quiet_want; go_big_quiet_op; apply Exists.intro; refine ⟨fun s => ?_, ?_⟩; exact above_call s (C3 s); go_big_quiet_on)
  repeat (first
    | go_big_quiet_skip
    | (go_big_quiet_want; go_big_quiet_op; go_big_quiet_on))
  (go_big_quiet_want; go_big_quiet_op; apply Exists.intro; refine ⟨fun s => ?_, ?_⟩; exact above_call s (C4 s); go_big_quiet_on)
  repeat (first
    | go_big_quiet_skip
    | (go_big_quiet_want; go_big_quiet_op; go_big_quiet_on))
  (go_big_quiet_want; go_big_quiet_op; apply Exists.intro; refine ⟨fun s => ?_, ?_⟩; exact above_call s (C5 s); go_big_quiet_on)
  repeat (first
    | go_big_quiet_skip
    | (go_big_quiet_want; go_big_quiet_op; go_big_quiet_on))
  (go_big_quiet_want; go_big_quiet_op; apply Exists.intro; refine ⟨fun s => ?_, ?_⟩; exact above_call s (C6 s); go_big_quiet_on)
  repeat (first
    | go_big_quiet_skip
    | (go_big_quiet_want; go_big_quiet_op; go_big_quiet_on))
  refine wpQuiet_nil ?_
  rintro _ ⟨s, rfl⟩
  clear C0 C1 C2 C3 C4 C5 C6 hTs hTW hcs
  go_wp2_with fail
  have hbase : Below W.heap.size W s.wld := hb0.trans (s.bel.mono (by omega))
  exact bodyPost_ret (v := .agg #[.bool g0, .bool g1, .bool g2, .bool g3, .bool g4, .bool g5, .bool g6, .int .i64 (n / 1024 % 65536)]) (by simp [results, Tryd.results85, go_sem, hcell]) rfl ⟨rfl, below_set8 hbase (by omega) _ _ _ _ _ _ _ _⟩
end Go.Proofs.YteghkhdpdeiocaaDoor.E
