/-
  Caches that no call made keep nothing: the walk of CacheNobody.
-/
import Derived.Test.YtgafdbamlmaifaaBase
namespace Go.Proofs.Ytgafdbamlmaifaa
open Go.RowKit
set_option linter.unusedVariables false
set_option maxRecDepth 20000
namespace cacheNobody
/-- the state between the rounds -/
structure NS (w0 w : World) (A N L : Nat) (g k v : Int) : Prop where
  bel : Below w0.heap.size w0 w
  a1 : w.cell? ⟨A, 1, none⟩ = some (.int .i64 g)
  a2 : w.cell? ⟨A, 2, none⟩ = some (.int .u64 k)
  a4 : w.cell? ⟨A, 4, none⟩ = some (.int .i64 v)
  n1 : w.cell? ⟨N, 1, none⟩ = some (.map none)
  l0 : w.cell? ⟨L, 0, none⟩ = some (.pointer none)
  l1 : w.cell? ⟨L, 1, none⟩ = some (.pointer (some ⟨N, 0, none⟩))
theorem NS.next {w0 w w' : World} {A N L : Nat} {g k v : Int} (h : NS w0 w A N L g k v) (hk : Below w.heap.size w w') : NS w0 w' A N L g k v := by
  have hc := (bcell hk).1
  have lt : ∀ {B o u}, w.cell? ⟨B, o, none⟩ = some u → B < w.heap.size := fun {B o u} e => World.block_lt_of_cell? w ⟨B, o, none⟩ e
  exact ⟨h.bel.trans (hk.mono h.bel.size), (hc _ _ (lt h.a1)).trans h.a1, (hc _ _ (lt h.a2)).trans h.a2, (hc _ _ (lt h.a4)).trans h.a4, (hc _ _ (lt h.n1)).trans h.n1, (hc _ _ (lt h.l0)).trans h.l0, (hc _ _ (lt h.l1)).trans h.l1⟩
theorem NS.un {w0 w : World} {A N L : Nat} {g k v : Int} (h : NS w0 w A N L g k v) : UN w (.pointer (some ⟨N, 0, none⟩)) := .inr ⟨N, rfl, World.block_lt_of_cell? w ⟨N, 1, none⟩ h.n1, h.n1⟩

set_option maxHeartbeats 1600000 in
theorem walk (a0 g k q v : Int) (w : World) :
    Calls Try.prog 4 #[.agg #[.int .i64 a0, .int .i64 g, .int .u64 k, .int .u64 q, .int .i64 v]] w fun e w' => e = .returned (.bool true) ∧ Below w.heap.size w w' := by
  have E0 : NS w (((w.alloc (.cells #[.int .i64 a0, .int .i64 g, .int .u64 k, .int .u64 q, .int .i64 v] 33)).alloc (.cells #[.int .i64 0, .map none, .slice none 0 0] 48)).alloc (.cells #[.pointer none, .pointer (some ⟨w.heap.size + 1, 0, none⟩)] 23)) w.heap.size (w.heap.size + 1) (w.heap.size + 1 + 1) g k v :=
    ⟨(((Below.refl _ _).alloc (Nat.le_refl _) _).alloc (by simp) _).alloc (by simp; omega) _, by simp [go_sem], by simp [go_sem], by simp [go_sem], by simp [go_sem], by simp [go_sem], by simp [go_sem]⟩
  go_enter Try.func4, Try.ntmps4
  go_wp2_with fail
  go_loopw [11] (fun i wr => ∃ j : Nat, j ≤ 2 ∧ i = .int .i64 j ∧ NS w wr w.heap.size (w.heap.size + 1) (w.heap.size + 1 + 1) g k v) (fun i _ => 2 - (intOf i).toNat)
  case atStart => exact ⟨0, by omega, rfl, E0⟩
  case round =>
    obtain ⟨j, hj, rfl, E⟩ := hrel
    clear E0
    obtain ⟨p, hp, hl⟩ : ∃ p, (j < 2 → UN wr p) ∧ (j < 2 → wr.cell? ⟨w.heap.size + 1 + 1, j, none⟩ = some p) := by
      obtain rfl | rfl | rfl : j = 0 ∨ j = 1 ∨ j = 2 := by omega
      · exact ⟨_, fun _ => .inl rfl, fun _ => E.l0⟩
      · exact ⟨_, fun _ => E.un, fun _ => E.l1⟩
      · exact ⟨.pointer none, fun h => absurd h (by omega), fun h => absurd h (by omega)⟩
    by_cases h2 : j < 2
    · have hu := hp h2
      have hl := hl h2
      have h2' : (j : Int) < 2 := by omega
      have a1 := E.a1
      have a2 := E.a2
      have a4 := E.a4
      clear hp
      have HE : Hid (_) := E
      clear E
      have HU : Hid (_) := hu
      clear hu
      go_wp2_with fail
      refine (get_un p g k _ HU.out).mono ?_
      rintro e y1 ⟨rfl, rfl⟩
      go_wp2_with fail
      refine (put_un p g k v _ HU.out).mono ?_
      rintro e y1 ⟨rfl, rfl⟩
      go_wp2_with fail
      refine (drop_un p g k _ HU.out).mono ?_
      rintro e y1 ⟨rfl, rfl⟩
      go_wp2_with fail
      refine (dropGroup_un p g _ HU.out).mono ?_
      rintro e y1 ⟨rfl, hb⟩
      have HE1 : Hid (_) := HE.out.next hb
      have HU1 : Hid (_) := UN.below HU.out hb
      clear hb a1 a2 a4 HE HU
      go_wp2_with fail
      refine (len_un p _ HU1.out).mono ?_
      rintro e y1 ⟨rfl, rfl⟩
      go_wp2_with fail
      go_roundw
      case rel => exact ⟨j + 1, by omega, by go_num, HE1.out⟩
      case measure => simp [intOf]; omega
    · obtain rfl : j = 2 := by omega
      have bl := E.bel
      go_wp2_with fail
      go_ret
      exact ⟨rfl, bl⟩
end cacheNobody
end Go.Proofs.Ytgafdbamlmaifaa
