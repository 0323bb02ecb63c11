/-
  Memories that no call made have no bytes: the walk of MemNobody.
-/
import Derived.Test.YtcpkboihkgkkmaaDoorMem6
namespace Go.Proofs.YtcpkboihkgkkmaaDoor
open Go.RowKit
set_option linter.unusedVariables false

/-- the state between the rounds -/
structure NW (w0 w : World) (b g N L A : Nat) (zs : List Int) (k t n v : Int) (s : Value) : Prop where
  mm : MM w b g zs
  sz : SZ w
  below : Below w0.heap.size w0 w
  n0 : w.cell? ⟨N, 0, none⟩ = some (.slice none 0 0)
  l0 : w.cell? ⟨L, 0, none⟩ = some (.pointer none)
  l1 : w.cell? ⟨L, 1, none⟩ = some (.pointer (some ⟨N, 0, none⟩))
  a1 : w.cell? ⟨A, 1, none⟩ = some (.int .u64 t)
  a2 : w.cell? ⟨A, 2, none⟩ = some (.int .i64 n)
  a3 : w.cell? ⟨A, 3, none⟩ = some (.int .u64 v)
  a4 : w.cell? ⟨A, 4, none⟩ = some s
theorem NW.next {w0 w w' : World} {b g N L A : Nat} {zs : List Int} {k t n v : Int} {s : Value} (h : NW w0 w b g N L A zs k t n v s) (hk : Below w.heap.size w w') : NW w0 w' b g N L A zs k t n v s := by
  have hc := (bcell hk).1
  have lt : ∀ {B o u}, w.cell? ⟨B, o, none⟩ = some u → B < w.heap.size := fun {B o u} e => World.block_lt_of_cell? w ⟨B, o, none⟩ e
  exact ⟨h.mm.below hk, SZ.below h.sz hk, h.below.trans (hk.mono h.below.size), (hc _ _ (lt h.n0)).trans h.n0, (hc _ _ (lt h.l0)).trans h.l0, (hc _ _ (lt h.l1)).trans h.l1, (hc _ _ (lt h.a1)).trans h.a1, (hc _ _ (lt h.a2)).trans h.a2, (hc _ _ (lt h.a3)).trans h.a3, (hc _ _ (lt h.a4)).trans h.a4⟩
theorem NW.hv {w0 w : World} {b g N L A : Nat} {zs : List Int} {k t n v : Int} {s : Value} (h : NW w0 w b g N L A zs k t n v s) : HV w (.pointer (some ⟨N, 0, none⟩)) (.slice none 0 0) :=
  .inr ⟨N, rfl, World.block_lt_of_cell? w ⟨N, 0, none⟩ h.n0, h.n0⟩
theorem NW.hn {w0 w : World} {b g N L A : Nat} {zs : List Int} {k t n v : Int} {s : Value} (h : NW w0 w b g N L A zs k t n v s) : HV w (.pointer none) (.slice none 0 0) := HV.nil w

namespace memNobody
set_option maxRecDepth 100000 in
set_option maxHeartbeats 1600000 in
theorem walk (k t n v : Int) (a : Option Addr) (m c : Nat) (h0 : 0 ≤ v) (h1 : v < 18446744073709551616) (w : World) (hz : SZ w) :
    Calls Tryd.prog 4 #[.agg #[.int .i64 k, .int .u64 t, .int .i64 n, .int .u64 v, .slice a m c]] w fun e w' => e = .returned (.bool true) ∧ Below w.heap.size w w' := by
  have hbA : Below w.heap.size w (w.alloc (.cells #[.int .i64 k, .int .u64 t, .int .i64 n, .int .u64 v, .slice a m c] 38)) := (Below.refl _ _).alloc (Nat.le_refl _) _
  have zA := SZ.below hz hbA
  have k1 : (w.alloc (.cells #[.int .i64 k, .int .u64 t, .int .i64 n, .int .u64 v, .slice a m c] 38)).cell? ⟨w.heap.size, 1, none⟩ = some (.int .u64 t) := by simp
  have k2 : (w.alloc (.cells #[.int .i64 k, .int .u64 t, .int .i64 n, .int .u64 v, .slice a m c] 38)).cell? ⟨w.heap.size, 2, none⟩ = some (.int .i64 n) := by simp
  have k3 : (w.alloc (.cells #[.int .i64 k, .int .u64 t, .int .i64 n, .int .u64 v, .slice a m c] 38)).cell? ⟨w.heap.size, 3, none⟩ = some (.int .u64 v) := by simp
  have k4 : (w.alloc (.cells #[.int .i64 k, .int .u64 t, .int .i64 n, .int .u64 v, .slice a m c] 38)).cell? ⟨w.heap.size, 4, none⟩ = some (.slice a m c) := by simp
  have kl : w.heap.size < (w.alloc (.cells #[.int .i64 k, .int .u64 t, .int .i64 n, .int .u64 v, .slice a m c] 38)).heap.size := by simp
  have N1 := new_yes 1 (w.alloc (.cells #[.int .i64 k, .int .u64 t, .int .i64 n, .int .u64 v, .slice a m c] 38)) (by decide) (by decide)
  have HK : Hid (_) := And.intro k1 (And.intro k2 (And.intro k3 k4))
  clear k1 k2 k3 k4
  go_enter Tryd.func4, Tryd.ntmps4
  go_wp2_with fail
  refine N1.mono ?_
  rintro e x1 ⟨b, g, rfl, m1, lb, lg, c1⟩
  obtain ⟨k1, k2, k3, k4⟩ := HK.out
  have hc1 := (bcell c1).1
  have z1 := SZ.below zA c1
  have E0 : NW w ((x1.alloc (.cells #[.slice none 0 0] 45)).alloc (.cells #[.pointer none, .pointer (some ⟨x1.heap.size, 0, none⟩)] 23)) b g x1.heap.size (x1.heap.size + 1) w.heap.size (List.replicate (1 * 256) 0) k t n v (.slice a m c) := by
    have hb1 : Below x1.heap.size x1 (x1.alloc (.cells #[.slice none 0 0] 45)) := (Below.refl _ _).alloc (Nat.le_refl _) _
    have hb2 : Below x1.heap.size x1 ((x1.alloc (.cells #[.slice none 0 0] 45)).alloc (.cells #[.pointer none, .pointer (some ⟨x1.heap.size, 0, none⟩)] 23)) := hb1.alloc hb1.size _
    have hc2 := (bcell hb2).1
    have hs := c1.size
    have bx : Below w.heap.size w x1 := hbA.trans (c1.mono (by omega))
    have hlt : w.heap.size < x1.heap.size := by omega
    exact ⟨m1.below hb2, SZ.below z1 hb2, bx.trans (hb2.mono bx.size), by simp, by simp, by simp, (hc2 _ _ hlt).trans ((hc1 _ _ kl).trans k1), (hc2 _ _ hlt).trans ((hc1 _ _ kl).trans k2), (hc2 _ _ hlt).trans ((hc1 _ _ kl).trans k3), (hc2 _ _ hlt).trans ((hc1 _ _ kl).trans k4)⟩
  have hlen : (List.replicate (1 * 256) (0 : Int)).length = 256 := List.length_replicate
  generalize List.replicate (1 * 256) (0 : Int) = zs at *
  have hne : decide (([] : List Int) = zs) = false := decide_eq_false (fun h => by rw [← h] at hlen; simp at hlen)
  have hne' : decide (zs = ([] : List Int)) = false := decide_eq_false (fun h => by rw [h] at hlen; simp at hlen)
  clear k1 k2 k3 k4 HK hc1 z1 m1 lb lg c1 N1 zA hbA kl hlen
  go_wp2_with fail
  go_loopw [19] (fun i wr => ∃ j : Nat, j ≤ 2 ∧ i = .int .i64 j ∧ NW w wr b g x1.heap.size (x1.heap.size + 1) w.heap.size zs k t n v (.slice a m c)) (fun i _ => 2 - (intOf i).toNat)
  case atStart => exact ⟨0, by omega, rfl, E0⟩
  case round =>
    obtain ⟨j, hj, rfl, E⟩ := hrel
    clear E0
    obtain rfl | rfl | rfl : j = 0 ∨ j = 1 ∨ j = 2 := by omega
    · have l0 := E.l0
      have a1 := E.a1
      have a2 := E.a2
      have hv := E.hn
      go_wp2_with fail
      refine (mload_nobody _ t n _ hv).mono ?_
      rintro e y1 ⟨rfl, rfl⟩
      go_wp2_with fail
      refine (mbytes_nobody _ t n _ hv).mono ?_
      rintro e y2 ⟨rfl, rfl⟩
      have a3 := E.a3
      go_wp2_with fail
      refine (mstore_nobody _ t n v _ E.sz hv h0 h1).mono ?_
      rintro e y3 ⟨rfl, k3⟩
      have E3 := E.next k3
      clear l0 a1 a2 a3 hv E k3
      have hv := E3.hn
      have a1 := E3.a1
      have a2 := E3.a2
      have a4 := E3.a4
      go_wp2_with fail
      refine (mput_nobody _ t a m c _ hv).mono ?_
      rintro e y4 ⟨rfl, rfl⟩
      go_wp2_with fail
      refine (mclear_nobody _ n _ hv).mono ?_
      rintro e y5 ⟨rfl, rfl⟩
      go_wp2_with fail
      refine (frames_any _ none 0 0 _ (by omega) hv).mono ?_
      rintro e y6 ⟨rfl, rfl⟩
      go_wp2_with fail
      refine (clone_no _ _ hv).mono ?_
      rintro e y7 ⟨rfl, rfl⟩
      go_wp2_with fail
      refine (same_any _ _ none none 0 0 0 0 [] [] _ hv (HV.nil _) (SL.nil _ _) (SL.nil _ _)).mono ?_
      rintro e y8 ⟨rfl, rfl⟩
      rw [decide_eq_true rfl]
      go_wp2_with fail
      refine (same_any _ _ none _ 0 _ 0 _ [] zs _ hv E3.mm.hv (SL.nil _ _) E3.mm.slAll).mono ?_
      rintro e y9 ⟨rfl, rfl⟩
      rw [hne]
      go_wp2_with fail
      refine (same_any _ _ _ none _ 0 _ 0 zs [] _ E3.mm.hv hv E3.mm.slAll (SL.nil _ _)).mono ?_
      rintro e y10 ⟨rfl, rfl⟩
      rw [hne']
      go_wp2_with fail
      go_roundw
      case rel => exact ⟨1, by omega, by go_num, E3⟩
      case measure => simp [intOf]
    · have l0 := E.l1
      have a1 := E.a1
      have a2 := E.a2
      have hv := E.hv
      go_wp2_with fail
      refine (mload_nobody _ t n _ hv).mono ?_
      rintro e y1 ⟨rfl, rfl⟩
      go_wp2_with fail
      refine (mbytes_nobody _ t n _ hv).mono ?_
      rintro e y2 ⟨rfl, rfl⟩
      have a3 := E.a3
      go_wp2_with fail
      refine (mstore_nobody _ t n v _ E.sz hv h0 h1).mono ?_
      rintro e y3 ⟨rfl, k3⟩
      have E3 := E.next k3
      clear l0 a1 a2 a3 hv E k3
      have hv := E3.hv
      have a1 := E3.a1
      have a2 := E3.a2
      have a4 := E3.a4
      go_wp2_with fail
      refine (mput_nobody _ t a m c _ hv).mono ?_
      rintro e y4 ⟨rfl, rfl⟩
      go_wp2_with fail
      refine (mclear_nobody _ n _ hv).mono ?_
      rintro e y5 ⟨rfl, rfl⟩
      go_wp2_with fail
      refine (frames_any _ none 0 0 _ (by omega) hv).mono ?_
      rintro e y6 ⟨rfl, rfl⟩
      go_wp2_with fail
      refine (clone_no _ _ hv).mono ?_
      rintro e y7 ⟨rfl, rfl⟩
      go_wp2_with fail
      refine (same_any _ _ none none 0 0 0 0 [] [] _ hv (HV.nil _) (SL.nil _ _) (SL.nil _ _)).mono ?_
      rintro e y8 ⟨rfl, rfl⟩
      rw [decide_eq_true rfl]
      go_wp2_with fail
      refine (same_any _ _ none _ 0 _ 0 _ [] zs _ hv E3.mm.hv (SL.nil _ _) E3.mm.slAll).mono ?_
      rintro e y9 ⟨rfl, rfl⟩
      rw [hne]
      go_wp2_with fail
      refine (same_any _ _ _ none _ 0 _ 0 zs [] _ E3.mm.hv hv E3.mm.slAll (SL.nil _ _)).mono ?_
      rintro e y10 ⟨rfl, rfl⟩
      rw [hne']
      go_wp2_with fail
      go_roundw
      case rel => exact ⟨2, by omega, by go_num, E3⟩
      case measure => simp [intOf]
    · have bl := E.below
      go_wp2_with fail
      go_ret
      exact ⟨rfl, bl⟩
end memNobody
end Go.Proofs.YtcpkboihkgkkmaaDoor
