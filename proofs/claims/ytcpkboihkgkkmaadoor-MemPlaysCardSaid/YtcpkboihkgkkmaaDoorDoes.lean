/-
  What one call on both memories does: the contract of does.
-/
import Derived.Test.YtcpkboihkgkkmaaDoorRef2
import Derived.Deep.RegionHeld
namespace Go.Proofs.YtcpkboihkgkkmaaDoor
open Go.RowKit
set_option linter.unusedVariables false

/-- both memories, the table of sizes, and the call that is done: its cells in block A -/
structure DW (w0 w : World) (b g c h bo go : Nat) (os : List Int) (A : Nat) (zs ys : List Int) (k t n v : Int) (s : Value) : Prop where
  mm : MM w b g zs
  rm : RM w c h ys
  cl : MM w bo go os
  sz : SZ w
  below : Below w0.heap.size w0 w
  a0 : w.cell? ⟨A, 0, none⟩ = some (.int .i64 k)
  a1 : w.cell? ⟨A, 1, none⟩ = some (.int .u64 t)
  a2 : w.cell? ⟨A, 2, none⟩ = some (.int .i64 n)
  a3 : w.cell? ⟨A, 3, none⟩ = some (.int .u64 v)
  a4 : w.cell? ⟨A, 4, none⟩ = some s
  nAg : A ≠ g
  nAh : A ≠ h
  gh : g ≠ h
  gc : g ≠ c
  bh : b ≠ h
  lg : w0.heap.size ≤ g
  lh : w0.heap.size ≤ h
  o1 : bo ≠ g
  o2 : go ≠ g
  o3 : bo ≠ h
  o4 : go ≠ h
section
variable {w0 w w' : World} {b g c h bo go A : Nat} {os zs ys : List Int} {k t n v : Int} {s : Value}
theorem DW.lt (D : DW w0 w b g c h bo go os A zs ys k t n v s) : A < w.heap.size := World.block_lt_of_cell? w ⟨A, 0, none⟩ D.a0
theorem DW.next (D : DW w0 w b g c h bo go os A zs ys k t n v s) (hk : Below w.heap.size w w') : DW w0 w' b g c h bo go os A zs ys k t n v s := by
  have hc := (bcell hk).1
  have lt := D.lt
  exact ⟨D.mm.below hk, D.rm.below hk, D.cl.below hk, SZ.below D.sz hk, D.below.trans (hk.mono D.below.size), (hc _ _ lt).trans D.a0, (hc _ _ lt).trans D.a1, (hc _ _ lt).trans D.a2, (hc _ _ lt).trans D.a3, (hc _ _ lt).trans D.a4, D.nAg, D.nAh, D.gh, D.gc, D.bh, D.lg, D.lh, D.o1, D.o2, D.o3, D.o4⟩
theorem DW.pos (D : DW w0 w b g c h bo go os A zs ys k t n v s) : 0 < g ∧ 0 < h := by
  constructor
  · rcases Nat.eq_zero_or_pos g with h0 | h'
    · have e1 := D.sz.c0
      have hm := D.mm
      rw [h0] at hm
      rw [hm.rowAt 0 hm.pos] at e1
      simp at e1
    · exact h'
  · rcases Nat.eq_zero_or_pos h with h0 | h'
    · have e1 := D.sz.c0
      have hm := D.rm
      rw [h0] at hm
      rw [hm.rowAt 0 hm.pos] at e1
      simp at e1
    · exact h'
theorem DW.wroteM {zs' : List Int} (D : DW w0 w b g c h bo go os A zs ys k t n v s) (hm : MM w' b g zs') (hk : w.grownBy w' (some g)) : DW w0 w' b g c h bo go os A zs' ys k t n v s := by
  have hc : ∀ o, w'.cell? ⟨A, o, none⟩ = w.cell? ⟨A, o, none⟩ := fun o => World.cell?_of_block (a := ⟨A, o, none⟩) (hk.block A D.lt (by simp; exact D.nAg))
  have n1 := D.gh
  have n2 := D.gc
  have n3 := D.o1
  have n4 := D.o2
  exact ⟨hm, D.rm.kept hk (by simp; omega) (by simp; omega), D.cl.kept hk (by simp; omega) (by simp; omega), SZ.kept D.sz D.pos.1 hk, D.below.grown hk D.below.size (by intro k e; cases e; exact D.lg), (hc _).trans D.a0, (hc _).trans D.a1, (hc _).trans D.a2, (hc _).trans D.a3, (hc _).trans D.a4, D.nAg, D.nAh, D.gh, D.gc, D.bh, D.lg, D.lh, D.o1, D.o2, D.o3, D.o4⟩
theorem DW.wroteR {ys' : List Int} (D : DW w0 w b g c h bo go os A zs ys k t n v s) (hm : RM w' c h ys') (hk : w.grownBy w' (some h)) : DW w0 w' b g c h bo go os A zs ys' k t n v s := by
  have hc : ∀ o, w'.cell? ⟨A, o, none⟩ = w.cell? ⟨A, o, none⟩ := fun o => World.cell?_of_block (a := ⟨A, o, none⟩) (hk.block A D.lt (by simp; exact D.nAh))
  have n1 := D.gh
  have n2 := D.bh
  have n3 := D.o3
  have n4 := D.o4
  exact ⟨D.mm.kept hk (by simp; omega) (by simp; omega), hm, D.cl.kept hk (by simp; omega) (by simp; omega), SZ.kept D.sz D.pos.2 hk, D.below.grown hk D.below.size (by intro k e; cases e; exact D.lh), (hc _).trans D.a0, (hc _).trans D.a1, (hc _).trans D.a2, (hc _).trans D.a3, (hc _).trans D.a4, D.nAg, D.nAh, D.gh, D.gc, D.bh, D.lg, D.lh, D.o1, D.o2, D.o3, D.o4⟩
theorem DW.drew (D : DW w0 w b g c h bo go os A zs ys k t n v s) : DW w0 w.drew b g c h bo go os A zs ys k t n v s :=
  D.next (Below.refl _ _).drew
theorem load_m (D : DW w0 w b g c h bo go os A zs ys k t n v s) (ht : 0 ≤ t) (ht' : t < 18446744073709551616) (hn' : n < 9223372036854775808) :
    Calls Tryd.prog 16 #[.pointer (some ⟨b, 0, none⟩), .int .u64 t, .int .i64 n] w fun e w' => e = .returned (.tuple #[.int .u64 (loadV zs t n), .int .i64 (numE zs.length t n)]) ∧ DW w0 w' b g c h bo go os A zs ys k t n v s :=
  (mload_mm b g zs t n w D.sz D.mm ht ht' hn').mono fun _ _ ⟨he, hb⟩ => ⟨he, D.next hb⟩
theorem load_r (D : DW w0 w b g c h bo go os A zs ys k t n v s) (ht : 0 ≤ t) (ht' : t < 18446744073709551616) (hn' : n < 9223372036854775808) :
    Calls Tryd.prog 24 #[.pointer (some ⟨c, 0, none⟩), .int .u64 t, .int .i64 n] w fun e w' => e = .returned (.tuple #[.int .u64 (loadV ys t n), .int .i64 (numE ys.length t n)]) ∧ DW w0 w' b g c h bo go os A zs ys k t n v s :=
  (rmload_any c h ys t n w D.rm ht ht' hn').mono fun _ _ ⟨he, hb⟩ => ⟨he, by rw [hb]; exact D⟩
theorem store_m (D : DW w0 w b g c h bo go os A zs ys k t n v s) (ht : 0 ≤ t) (ht' : t < 18446744073709551616) (hn' : n < 9223372036854775808) (h0 : 0 ≤ v) (h1 : v < 18446744073709551616) :
    Calls Tryd.prog 17 #[.pointer (some ⟨b, 0, none⟩), .int .u64 t, .int .i64 n, .int .u64 v] w fun e w' => e = .returned (.int .i64 (numE zs.length t n)) ∧ DW w0 w' b g c h bo go os A (storeV zs t n v) ys k t n v s :=
  (mstore_mm b g zs t n v w D.sz D.mm ht ht' hn' h0 h1).mono fun _ _ ⟨he, hm, hk⟩ => ⟨he, D.wroteM hm hk⟩
theorem store_r (D : DW w0 w b g c h bo go os A zs ys k t n v s) (ht : 0 ≤ t) (ht' : t < 18446744073709551616) (hn' : n < 9223372036854775808) (h0 : 0 ≤ v) (h1 : v < 18446744073709551616) :
    Calls Tryd.prog 25 #[.pointer (some ⟨c, 0, none⟩), .int .u64 t, .int .i64 n, .int .u64 v] w fun e w' => e = .returned (.int .i64 (numE ys.length t n)) ∧ DW w0 w' b g c h bo go os A zs (storeV ys t n v) k t n v s :=
  (rmstore_any c h ys t n v w D.rm ht ht' hn' h0 h1).mono fun _ _ ⟨he, hm, hk⟩ => ⟨he, D.wroteR hm hk⟩
theorem clear_m (D : DW w0 w b g c h bo go os A zs ys k t n v s) :
    Calls Tryd.prog 19 #[.pointer (some ⟨b, 0, none⟩), .int .i64 n] w fun e w' => e = .returned (.int .i64 (clrE zs.length n)) ∧ DW w0 w' b g c h bo go os A (clearV zs n) ys k t n v s :=
  (mclear_mm b g zs n w D.mm).mono fun _ _ ⟨he, hm, hk⟩ => ⟨he, D.wroteM hm hk⟩
theorem clear_r (D : DW w0 w b g c h bo go os A zs ys k t n v s) :
    Calls Tryd.prog 28 #[.pointer (some ⟨c, 0, none⟩), .int .i64 n] w fun e w' => e = .returned (.int .i64 (clrE ys.length n)) ∧ DW w0 w' b g c h bo go os A zs (clearV ys n) k t n v s :=
  (rmclear_any c h ys n w D.rm).mono fun _ _ ⟨he, hm, hk⟩ => ⟨he, D.wroteR hm hk⟩
end

/-- what both memories are behind the call -/
structure Both (w0 w : World) (b g c h bo go : Nat) (os zs : List Int) : Prop where
  mm : MM w b g zs
  rm : RM w c h zs
  cl : MM w bo go os
  sz : SZ w
  below : Below w0.heap.size w0 w
theorem DW.both {w0 w : World} {b g c h bo go A : Nat} {os zs : List Int} {k t n v : Int} {s : Value} (D : DW w0 w b g c h bo go os A zs zs k t n v s) : Both w0 w b g c h bo go os zs := ⟨D.mm, D.rm, D.cl, D.sz, D.below⟩

theorem does_load (b g c h bo go : Nat) (os zs : List Int) (t n v : Int) (a : Option Addr) (m cap : Nat) (w0 w : World) (ht : 0 ≤ t) (ht' : t < 18446744073709551616) (hn' : n < 9223372036854775808)
    (D : DW w0 (w.alloc (.cells #[.int .i64 0, .int .u64 t, .int .i64 n, .int .u64 v, .slice a m cap] 38)) b g c h bo go os w.heap.size zs zs 0 t n v (.slice a m cap)) :
    Calls Tryd.prog 14 #[.pointer (some ⟨b, 0, none⟩), .pointer (some ⟨c, 0, none⟩), .agg #[.int .i64 0, .int .u64 t, .int .i64 n, .int .u64 v, .slice a m cap]] w fun e w' => e = .returned (.bool true) ∧ Both w0 w' b g c h bo go os zs := by
  have L1 := load_m D ht ht' hn'
  go_enter Tryd.func14, Tryd.ntmps14
  go_wp2_with fail
  refine L1.mono ?_
  rintro e x1 ⟨rfl, D1⟩
  have q1 := D1.a1
  have q2 := D1.a2
  have ql := D1.lt
  clear L1 D
  have L2 := load_r D1 ht ht' hn'
  generalize loadV zs t n = x at *
  generalize numE zs.length t n = y at *
  go_wp2_with fail
  refine L2.mono ?_
  rintro e x2 ⟨rfl, D2⟩
  go_wp2_with fail
  go_ret
  exact ⟨ret_bool (by simp), D2.both⟩

theorem stored_len (zs : List Int) (t n v : Int) (ht : 0 ≤ t) : (storeV zs t n v).length = zs.length := by
  unfold storeV
  by_cases h : numE zs.length t n = 0
  · obtain ⟨h1, h2, h3⟩ := numE_zero h
    rw [if_pos h]
    exact length_splice _ _ _ (by rw [bytesOf_len]; unfold isW at h1; omega)
  · rw [if_neg h]
theorem cleared_len (zs : List Int) (f : Int) : (clearV zs f).length = zs.length := by
  unfold clearV
  by_cases h : 0 ≤ f ∧ f < (zs.length : Int) / 256
  · rw [if_pos h]
    exact length_splice _ _ _ (by rw [List.length_replicate]; omega)
  · rw [if_neg h]
theorem put_len (zs ys : List Int) (t : Int) (ht : 0 ≤ t) : (putV zs t ys).length = zs.length := by
  unfold putV
  by_cases h : plcE zs.length t ys.length = 0
  · obtain ⟨h1, h2⟩ := plcE_zero h
    rw [if_pos h]
    exact length_splice _ _ _ (by omega)
  · rw [if_neg h]

set_option maxRecDepth 100000 in
set_option maxHeartbeats 1600000 in
theorem does_store (b g c h bo go : Nat) (os zs : List Int) (t n v : Int) (a : Option Addr) (m cap : Nat) (w0 w : World) (ht : 0 ≤ t) (ht' : t < 18446744073709551616) (hn' : n < 9223372036854775808) (h0 : 0 ≤ v) (h1 : v < 18446744073709551616)
    (D : DW w0 (w.alloc (.cells #[.int .i64 1, .int .u64 t, .int .i64 n, .int .u64 v, .slice a m cap] 38)) b g c h bo go os w.heap.size zs zs 1 t n v (.slice a m cap)) :
    Calls Tryd.prog 14 #[.pointer (some ⟨b, 0, none⟩), .pointer (some ⟨c, 0, none⟩), .agg #[.int .i64 1, .int .u64 t, .int .i64 n, .int .u64 v, .slice a m cap]] w fun e w' => e = .returned (.bool true) ∧ ∃ zs' : List Int, zs'.length = zs.length ∧ Both w0 w' b g c h bo go os zs' := by
  go_enter Tryd.func14, Tryd.ntmps14
  go_wp2_with fail
  go_region_held (fun w' => w'.cell? ⟨w.heap.size, 1, none⟩ = some (.int .u64 t) ∧ w'.cell? ⟨w.heap.size, 2, none⟩ = some (.int .i64 n) ∧ w'.cell? ⟨w.heap.size, 3, none⟩ = some (.int .u64 v)) (first | exact ⟨D.drew.a1, D.drew.a2, D.drew.a3⟩ | exact ⟨D1.a1, D1.a2, D1.a3⟩ | exact ⟨D2.a1, D2.a2, D2.a3⟩)
    (first
      | (go_at_call 17; first
          | (refine (store_m D.drew ht ht' hn' h0 h1).mono ?_; rintro e x1 ⟨rfl, D1⟩)
          | (refine (store_m D1 ht ht' hn' h0 h1).mono ?_; rintro e x2 ⟨rfl, D2⟩))
      | (go_at_call 25; first
          | (refine (store_r D.drew ht ht' hn' h0 h1).mono ?_; rintro e x1 ⟨rfl, D1⟩)
          | (refine (store_r D1 ht ht' hn' h0 h1).mono ?_; rintro e x2 ⟨rfl, D2⟩)))
  all_goals go_wp2_with fail
  go_ret
  exact ⟨rfl, _, stored_len zs t n v ht, D2.both⟩

set_option maxRecDepth 100000 in
set_option maxHeartbeats 1600000 in
theorem does_clear (b g c h bo go : Nat) (os zs : List Int) (t n v : Int) (a : Option Addr) (m cap : Nat) (w0 w : World)
    (D : DW w0 (w.alloc (.cells #[.int .i64 4, .int .u64 t, .int .i64 n, .int .u64 v, .slice a m cap] 38)) b g c h bo go os w.heap.size zs zs 4 t n v (.slice a m cap)) :
    Calls Tryd.prog 14 #[.pointer (some ⟨b, 0, none⟩), .pointer (some ⟨c, 0, none⟩), .agg #[.int .i64 4, .int .u64 t, .int .i64 n, .int .u64 v, .slice a m cap]] w fun e w' => e = .returned (.bool true) ∧ ∃ zs' : List Int, zs'.length = zs.length ∧ Both w0 w' b g c h bo go os zs' := by
  go_enter Tryd.func14, Tryd.ntmps14
  go_wp2_with fail
  go_region_held (fun w' => w'.cell? ⟨w.heap.size, 2, none⟩ = some (.int .i64 n)) (first | exact D.drew.a2 | exact D1.a2 | exact D2.a2)
    (first
      | (go_at_call 19; first
          | (refine (clear_m D.drew).mono ?_; rintro e x1 ⟨rfl, D1⟩)
          | (refine (clear_m D1).mono ?_; rintro e x2 ⟨rfl, D2⟩))
      | (go_at_call 28; first
          | (refine (clear_r D.drew).mono ?_; rintro e x1 ⟨rfl, D1⟩)
          | (refine (clear_r D1).mono ?_; rintro e x2 ⟨rfl, D2⟩)))
  all_goals go_wp2_with fail
  go_ret
  exact ⟨rfl, _, cleared_len zs n, D2.both⟩

theorem does_other (b g c h bo go : Nat) (os zs : List Int) (k t n v : Int) (a : Option Addr) (m cap : Nat) (w0 w : World) (hk : ¬ (0 ≤ k ∧ k ≤ 4))
    (D : DW w0 (w.alloc (.cells #[.int .i64 k, .int .u64 t, .int .i64 n, .int .u64 v, .slice a m cap] 38)) b g c h bo go os w.heap.size zs zs k t n v (.slice a m cap)) :
    Calls Tryd.prog 14 #[.pointer (some ⟨b, 0, none⟩), .pointer (some ⟨c, 0, none⟩), .agg #[.int .i64 k, .int .u64 t, .int .i64 n, .int .u64 v, .slice a m cap]] w fun e w' => e = .returned (.bool true) ∧ Both w0 w' b g c h bo go os zs := by
  have e0 : (k == 0) = false := by rw [beq_eq_false_iff_ne]; omega
  have e1 : (k == 1) = false := by rw [beq_eq_false_iff_ne]; omega
  have e2 : (k == 2) = false := by rw [beq_eq_false_iff_ne]; omega
  have e3 : (k == 3) = false := by rw [beq_eq_false_iff_ne]; omega
  have e4 : (k == 4) = false := by rw [beq_eq_false_iff_ne]; omega
  go_enter Tryd.func14, Tryd.ntmps14
  go_wp2_with fail
  go_ret
  exact ⟨rfl, D.both⟩

/-- a write into a new block changes nothing of both -/
theorem DW.other {w0 w w' : World} {b g c h bo go A q : Nat} {os zs : List Int} {k t n v : Int} {s : Value} (D : DW w0 w b g c h bo go os A zs zs k t n v s) (hk : w.grownBy w' (some q)) (n1 : q ≠ b) (n2 : q ≠ g) (n3 : q ≠ c) (n4 : q ≠ h) (n5 : q ≠ bo) (n6 : q ≠ go) (hq : w0.heap.size ≤ q) (hq0 : 0 < q) : Both w0 w' b g c h bo go os zs :=
  ⟨D.mm.kept hk (by simp; omega) (by simp; omega), D.rm.kept hk (by simp; omega) (by simp; omega), D.cl.kept hk (by simp; omega) (by simp; omega), SZ.kept D.sz hq0 hk, D.below.grown hk D.below.size (by intro k e; cases e; exact hq)⟩
theorem bytes_set {ys : List Int} (h : Bytes ys) (j : Nat) (z : Int) (h0 : 0 ≤ z) (h1 : z ≤ 255) : Bytes (ys.set j z) := by
  intro i
  have := h i
  simp only [List.getD, List.getElem?_set] at this ⊢
  split
  · split
    · simp; omega
    · simp
  · exact this

set_option maxRecDepth 100000 in
set_option maxHeartbeats 1600000 in
theorem does_bytes (b g c h bo go : Nat) (os zs : List Int) (t n v : Int) (a : Option Addr) (m cap : Nat) (w0 w : World) (ht : 0 ≤ t) (ht' : t < 18446744073709551616) (hn' : n < 9223372036854775808)
    (D : DW w0 (w.alloc (.cells #[.int .i64 2, .int .u64 t, .int .i64 n, .int .u64 v, .slice a m cap] 38)) b g c h bo go os w.heap.size zs zs 2 t n v (.slice a m cap)) :
    Calls Tryd.prog 14 #[.pointer (some ⟨b, 0, none⟩), .pointer (some ⟨c, 0, none⟩), .agg #[.int .i64 2, .int .u64 t, .int .i64 n, .int .u64 v, .slice a m cap]] w fun e w' => e = .returned (.bool true) ∧ Both w0 w' b g c h bo go os zs := by
  by_cases he : plcE zs.length t n = 0
  · obtain ⟨hn0, h3⟩ := plcE_zero he
    obtain ⟨T, rfl⟩ := Int.eq_ofNat_of_zero_le ht
    obtain ⟨N, rfl⟩ := Int.eq_ofNat_of_zero_le hn0
    have hle : T + N ≤ zs.length := by omega
    have B1 := mbytes_yes b g zs T N _ D.mm hle
    have hln := D.mm.len
    clear he
    go_enter Tryd.func14, Tryd.ntmps14
    go_wp2_with fail
    refine B1.mono ?_
    rintro e x1 ⟨gx, rfl, own1, k1⟩
    have D1 := D.next k1
    have lt0 := D.lt
    have l1 := D.mm.blt
    have l2 := D.mm.glt
    have l3 := D.rm.blt
    have l4 := D.rm.glt
    have l5 := D.cl.blt
    have l6 := D.cl.glt
    have lx := (own_heap own1).2.2
    have lw := D.below.size
    have lz := D.sz.pos
    clear B1 D k1
    have q1 := D1.a1
    have q2 := D1.a2
    have ql := D1.lt
    have B2 := rmbytes_yes c h zs T N _ D1.rm hle
    have HO1 : Hid (_) := own1
    clear own1
    go_wp2_with fail
    refine B2.mono ?_
    rintro e x2 ⟨vy, rfl, own2, k2⟩
    have D2 := D1.next k2
    have hB : Bytes ((zs.drop T).take N) := bytes_mid D2.mm.bytes T N
    obtain ⟨ay, cy, rfl, sy⟩ := own_sl own2 hB
    have o1 := own_below HO1.out k2
    have v1 := conv_sl N (SL.own o1 hB)
    have v2 := conv_sl cy sy
    have O1 : Hid (_) := o1
    clear B2 D1 own2 o1 HO1 q1 q2 ql sy k2
    have HSE : Hid (_) := str_eq ((zs.drop T).take N) ((zs.drop T).take N) hB hB
    generalize (zs.drop T).take N = L at *
    go_wp2_with fail
    clear v1 v2
    go_loopw [15] (fun i wq => ∃ j : Nat, j ≤ N ∧ i = .int .i64 j ∧ x2.grownBy wq (some gx) ∧ ∃ xs : List Int, xs.length = N ∧ Bytes xs ∧ wq.ownsRow (w.alloc (.cells #[.int .i64 2, .int .u64 T, .int .i64 N, .int .u64 v, .slice a m cap] 38)).heap.size 5 1 (.slice (some ⟨gx, 0, none⟩) N N) N (xs.map (Value.int .u8))) (fun i _ => N - (intOf i).toNat)
    case atStart => exact ⟨0, by omega, rfl, grown_refl _ _, L, by have := O1.out.1; simpa using this, hB, O1.out⟩
    case round =>
      obtain ⟨j, hj, rfl, hgr, xs, hyl, hyB, hyo⟩ := hrel
      by_cases hjl : j < N
      · have hce : wr.cell? ⟨gx, j, none⟩ = some (.int .u8 (xs.getD j 0)) := by
          rw [hyo.cellAt j (by omega)]
          simp [List.getElem?_eq_getElem (show j < xs.length by omega)]
        have hfr := hyo.frozenAt j
        have hbj := hyB j
        generalize xs.getD j 0 = z at *
        have ST := hyo.stored j (.int .u8 ((z + 1) % 256))
        rw [← List.map_set] at ST
        have HST : Hid (_) := ST
        have HGR : Hid (_) := hgr
        have HYB : Hid (Bytes (xs.set j ((z + 1) % 256))) := bytes_set hyB j _ (by omega) (by omega)
        clear ST hgr hyo hyB O1
        go_wp2
        go_roundw
        case rel => exact ⟨j + 1, by omega, by go_num, grown_trans HGR.out HST.out.2, _, by simpa using hyl, HYB.out, HST.out.1⟩
        case measure => simp [intOf]; omega
      · obtain rfl : j = N := by omega
        have FB : Both w0 wr b g c h bo go os zs := D2.other hgr (by omega) (by omega) (by omega) (by omega) (by omega) (by omega) (by omega) (by omega)
        clear hyo hgr
        go_wp2_with fail
        go_ret
        exact ⟨rfl, FB⟩
  · have B1 := mbytes_no b g zs t n _ D.mm ht ht' hn' he
    have B2 := fun (y : World) (Y : RM y c h zs) => rmbytes_no c h zs t n y Y ht hn' he
    clear he
    generalize plcE zs.length t n = x at *
    go_enter Tryd.func14, Tryd.ntmps14
    go_wp2_with fail
    refine B1.mono ?_
    rintro e x1 ⟨rfl, k1⟩
    have D1 := D.next k1
    clear B1 D k1
    have q1 := D1.a1
    have q2 := D1.a2
    have ql := D1.lt
    go_wp2_with fail
    refine (B2 _ D1.rm).mono ?_
    rintro e x2 ⟨rfl, rfl⟩
    have vz := conv_zero x2 none 0
    clear B2
    go_wp2_with fail
    go_loop [15] (fun t => t = .int .i64 0) (fun _ => 0)
    case atStart => rfl
    case round =>
      subst hrel
      go_wp2_with fail
      go_ret
      exact ⟨rfl, D1.both⟩

end Go.Proofs.YtcpkboihkgkkmaaDoor
