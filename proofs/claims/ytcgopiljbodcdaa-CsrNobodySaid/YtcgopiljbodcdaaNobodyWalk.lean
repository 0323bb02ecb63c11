/-
  Registers that no call made: what each call answers, and the walk of CsrNobody.
-/
import Derived.Test.YtcgopiljbodcdaaBase
namespace Go.Proofs.Ytcgopiljbodcdaa
open Go.RowKit
set_option linter.unusedVariables false
set_option maxRecDepth 20000

/-- registers that no call made: nil, or not made -/
def UN (w : World) (p : Value) : Prop := p = .pointer none ∨ ∃ b, p = .pointer (some ⟨b, 0, none⟩) ∧ b < w.heap.size ∧ w.cell? ⟨b, 0, none⟩ = some (.bool false)
theorem UN.below {w w' : World} {p : Value} (h : UN w p) (hk : Below w.heap.size w w') : UN w' p := by
  rcases h with h | ⟨b, rfl, hlt, hc⟩
  · exact .inl h
  · exact .inr ⟨b, rfl, Nat.lt_of_lt_of_le hlt hk.size, ((bcell hk).1 b 0 hlt).trans hc⟩
theorem made_un (p : Value) (w : World) (h : UN w p) : Calls Try.prog 20 #[p] w fun e w' => e = .returned (.bool false) ∧ w' = w := by
  rcases h with rfl | ⟨b, rfl, hlt, hc⟩
  all_goals
    go_enter Try.func20, Try.ntmps20
    go_wp2
    go_ret
    exact ⟨rfl, rfl⟩
theorem reach_un (p : Value) (n mode : Int) (w : World) (h : UN w p) : Calls Try.prog 19 #[p, .int .i64 n, .int .i64 mode] w fun e w' => e = .returned (.int .i64 1) ∧ w' = w := by
  go_enter Try.func19, Try.ntmps19
  go_wp2_with fail
  refine (made_un _ _ h).mono ?_
  rintro e w ⟨rfl, rfl⟩
  go_wp2_with fail
  go_ret
  exact ⟨rfl, rfl⟩
theorem read_un (p : Value) (n mode : Int) (w : World) (h : UN w p) : Calls Try.prog 7 #[p, .int .i64 n, .int .i64 mode] w fun e w' => e = .returned (.tuple #[.int .u64 0, .int .i64 1]) ∧ w' = w := by
  go_enter Try.func7, Try.ntmps7
  go_wp2_with fail
  refine (reach_un _ _ _ _ h).mono ?_
  rintro e w ⟨rfl, rfl⟩
  go_wp2_with fail
  go_ret2
  exact ⟨rfl, rfl⟩
theorem due_un (p : Value) (mode : Int) (w : World) (h : UN w p) : Calls Try.prog 8 #[p, .int .i64 mode] w fun e w' => e = .returned (.tuple #[.int .i64 0, .bool false]) ∧ w' = w := by
  go_enter Try.func8, Try.ntmps8
  go_wp2_with fail
  refine (made_un _ _ h).mono ?_
  rintro e w ⟨rfl, rfl⟩
  go_wp2_with fail
  go_ret2
  exact ⟨rfl, rfl⟩
theorem leave_un (p : Value) (w : World) (h : UN w p) : Calls Try.prog 10 #[p] w fun e w' => e = .returned (.tuple #[.int .u64 0, .int .i64 0]) ∧ w' = w := by
  go_enter Try.func10, Try.ntmps10
  go_wp2_with fail
  refine (made_un _ _ h).mono ?_
  rintro e w ⟨rfl, rfl⟩
  go_wp2_with fail
  go_ret2
  exact ⟨rfl, rfl⟩
theorem write_un (p : Value) (n mode v : Int) (w : World) (h : UN w p) : Calls Try.prog 11 #[p, .int .i64 n, .int .i64 mode, .int .u64 v] w fun e w' => e = .returned (.int .i64 1) ∧ w' = w := by
  go_enter Try.func11, Try.ntmps11
  go_wp2_with fail
  refine (reach_un _ _ _ _ h).mono ?_
  rintro e w ⟨rfl, rfl⟩
  go_wp2_with fail
  go_ret
  exact ⟨rfl, rfl⟩
theorem get_un (p : Value) (n : Int) (w : World) (h : UN w p) : Calls Try.prog 12 #[p, .int .i64 n] w fun e w' => e = .returned (.int .u64 0) ∧ w' = w := by
  go_enter Try.func12, Try.ntmps12
  go_wp2_with fail
  refine (made_un _ _ h).mono ?_
  rintro e w ⟨rfl, rfl⟩
  go_wp2_with fail
  go_ret
  exact ⟨rfl, rfl⟩
theorem set_un (p : Value) (n v : Int) (w : World) (h : UN w p) : Calls Try.prog 13 #[p, .int .i64 n, .int .u64 v] w fun e w' => e = .returned (.int .i64 1) ∧ w' = w := by
  go_enter Try.func13, Try.ntmps13
  go_wp2_with fail
  refine (made_un _ _ h).mono ?_
  rintro e w ⟨rfl, rfl⟩
  go_wp2_with fail
  go_ret
  exact ⟨rfl, rfl⟩
theorem line_un (p : Value) (n : Int) (on : Bool) (w : World) (h : UN w p) : Calls Try.prog 14 #[p, .int .i64 n, .bool on] w fun e w' => e = .returned (.int .i64 1) ∧ w' = w := by
  go_enter Try.func14, Try.ntmps14
  go_wp2_with fail
  refine (made_un _ _ h).mono ?_
  rintro e w ⟨rfl, rfl⟩
  go_wp2_with fail
  go_ret
  exact ⟨rfl, rfl⟩
theorem wakes_un (p : Value) (w : World) (h : UN w p) : Calls Try.prog 15 #[p] w fun e w' => e = .returned (.bool false) ∧ w' = w := by
  go_enter Try.func15, Try.ntmps15
  go_wp2_with fail
  refine (made_un _ _ h).mono ?_
  rintro e w ⟨rfl, rfl⟩
  go_wp2_with fail
  go_ret
  exact ⟨rfl, rfl⟩
theorem root_un (p : Value) (w : World) (h : UN w p) : Calls Try.prog 16 #[p] w fun e w' => e = .returned (.int .i64 (-1)) ∧ w' = w := by
  go_enter Try.func16, Try.ntmps16
  go_wp2_with fail
  refine (made_un _ _ h).mono ?_
  rintro e w ⟨rfl, rfl⟩
  go_wp2_with fail
  go_ret
  exact ⟨rfl, rfl⟩
theorem clone_un (p : Value) (w : World) (h : UN w p) : Calls Try.prog 17 #[p] w fun e w' => e = .returned (.pointer none) ∧ w' = w := by
  go_enter Try.func17, Try.ntmps17
  go_wp2_with fail
  refine (made_un _ _ h).mono ?_
  rintro e w ⟨rfl, rfl⟩
  go_wp2_with fail
  go_ret
  exact ⟨rfl, rfl⟩
theorem enter_un (p : Value) (c va gu pc mode : Int) (w : World) (h : UN w p) : Calls Try.prog 9 #[p, .agg #[.int .i64 c, .int .u64 va, .int .u64 gu], .int .u64 pc, .int .i64 mode] w fun e w' => e = .returned (.tuple #[.int .u64 0, .int .i64 0]) ∧ Below w.heap.size w w' := by
  have hb : Below w.heap.size w (w.alloc (.cells #[.int .i64 c, .int .u64 va, .int .u64 gu] 24)) := (Below.refl _ _).alloc (Nat.le_refl _) _
  have C := made_un p _ (h.below hb)
  clear h
  go_enter Try.func9, Try.ntmps9
  go_wp2_with fail
  refine C.mono ?_
  rintro e w1 ⟨rfl, hw⟩
  obtain rfl := hw.symm
  go_wp2_with fail
  go_ret2
  exact ⟨rfl, hb⟩
namespace csrNobody
/-- the state between the rounds -/
structure NS (w0 w : World) (A N L : Nat) (n m v c va gu : Int) (on : Bool) : Prop where
  bel : Below w0.heap.size w0 w
  a1 : w.cell? ⟨A, 1, none⟩ = some (.int .i64 n)
  a2 : w.cell? ⟨A, 2, none⟩ = some (.int .i64 m)
  a3 : w.cell? ⟨A, 3, none⟩ = some (.int .u64 v)
  a4 : w.cell? ⟨A, 4, none⟩ = some (.int .i64 c)
  a5 : w.cell? ⟨A, 5, none⟩ = some (.int .u64 va)
  a6 : w.cell? ⟨A, 6, none⟩ = some (.int .u64 gu)
  a7 : w.cell? ⟨A, 7, none⟩ = some (.bool on)
  n0 : w.cell? ⟨N, 0, none⟩ = some (.bool false)
  l0 : w.cell? ⟨L, 0, none⟩ = some (.pointer none)
  l1 : w.cell? ⟨L, 1, none⟩ = some (.pointer (some ⟨N, 0, none⟩))
theorem NS.next {w0 w w' : World} {A N L : Nat} {n m v c va gu : Int} {on : Bool} (h : NS w0 w A N L n m v c va gu on) (hk : Below w.heap.size w w') : NS w0 w' A N L n m v c va gu on := by
  have hc := (bcell hk).1
  have lt : ∀ {B o u}, w.cell? ⟨B, o, none⟩ = some u → B < w.heap.size := fun {B o u} e => World.block_lt_of_cell? w ⟨B, o, none⟩ e
  exact ⟨h.bel.trans (hk.mono h.bel.size), (hc _ _ (lt h.a1)).trans h.a1, (hc _ _ (lt h.a2)).trans h.a2, (hc _ _ (lt h.a3)).trans h.a3, (hc _ _ (lt h.a4)).trans h.a4, (hc _ _ (lt h.a5)).trans h.a5, (hc _ _ (lt h.a6)).trans h.a6, (hc _ _ (lt h.a7)).trans h.a7, (hc _ _ (lt h.n0)).trans h.n0, (hc _ _ (lt h.l0)).trans h.l0, (hc _ _ (lt h.l1)).trans h.l1⟩
theorem NS.un {w0 w : World} {A N L : Nat} {n m v c va gu : Int} {on : Bool} (h : NS w0 w A N L n m v c va gu on) : UN w (.pointer (some ⟨N, 0, none⟩)) := .inr ⟨N, rfl, World.block_lt_of_cell? w ⟨N, 0, none⟩ h.n0, h.n0⟩

set_option maxHeartbeats 1600000 in
theorem walk (k n m v c va gu : Int) (on : Bool) (w : World) :
    Calls Try.prog 3 #[.agg #[.int .i64 k, .int .i64 n, .int .i64 m, .int .u64 v, .int .i64 c, .int .u64 va, .int .u64 gu, .bool on]] w fun e w' => e = .returned (.bool true) ∧ Below w.heap.size w w' := by
  have E0 : NS w (((w.alloc (.cells #[.int .i64 k, .int .i64 n, .int .i64 m, .int .u64 v, .int .i64 c, .int .u64 va, .int .u64 gu, .bool on] 26)).alloc (.cells #[.bool false, .int .u64 0, .int .u64 0, .int .u64 0, .int .u64 0, .int .u64 0, .int .u64 0, .int .u64 0, .int .u64 0, .int .u64 0, .int .u64 0, .int .u64 0, .int .u64 0] 30)).alloc (.cells #[.pointer none, .pointer (some ⟨w.heap.size + 1, 0, none⟩)] 27)) w.heap.size (w.heap.size + 1) (w.heap.size + 1 + 1) n m v c va gu on :=
    ⟨(((Below.refl _ _).alloc (Nat.le_refl _) _).alloc (by simp) _).alloc (by simp; omega) _, by simp [go_sem], by simp [go_sem], by simp [go_sem], by simp [go_sem], by simp [go_sem], by simp [go_sem], by simp [go_sem], by simp [go_sem], by simp [go_sem], by simp [go_sem]⟩
  go_enter Try.func3, Try.ntmps3
  go_wp2_with fail
  go_loopw [17] (fun i wr => ∃ j : Nat, j ≤ 2 ∧ i = .int .i64 j ∧ NS w wr w.heap.size (w.heap.size + 1) (w.heap.size + 1 + 1) n m v c va gu on) (fun i _ => 2 - (intOf i).toNat)
  case atStart => exact ⟨0, by omega, rfl, E0⟩
  case round =>
    obtain ⟨j, hj, rfl, E⟩ := hrel
    clear E0
    obtain ⟨p, hp, hl⟩ : ∃ p, (j < 2 → UN wr p) ∧ (j < 2 → wr.cell? ⟨w.heap.size + 1 + 1, j, none⟩ = some p) := by
      obtain rfl | rfl | rfl : j = 0 ∨ j = 1 ∨ j = 2 := by omega
      · exact ⟨_, fun _ => .inl rfl, fun _ => E.l0⟩
      · exact ⟨_, fun _ => E.un, fun _ => E.l1⟩
      · exact ⟨.pointer none, fun h => absurd h (by omega), fun h => absurd h (by omega)⟩
    by_cases h2 : j < 2
    · have hu := hp h2
      have hl := hl h2
      have h2' : (j : Int) < 2 := by omega
      have a1 := E.a1
      have a2 := E.a2
      have a3 := E.a3
      have a4 := E.a4
      have a5 := E.a5
      have a6 := E.a6
      have a7 := E.a7
      clear hp
      have HE : Hid (NS w wr w.heap.size (w.heap.size + 1) (w.heap.size + 1 + 1) n m v c va gu on) := E
      clear E
      have HU : Hid (UN wr p) := hu
      clear hu
      go_wp2_with fail
      refine (read_un p n m _ HU.out).mono ?_
      rintro e wr ⟨rfl, rfl⟩
      go_wp2_with fail
      refine (due_un p m _ HU.out).mono ?_
      rintro e wr ⟨rfl, rfl⟩
      go_wp2_with fail
      refine (enter_un p c va gu v m _ HU.out).mono ?_
      rintro e y1 ⟨rfl, hb⟩
      have HE1 : Hid (NS w y1 w.heap.size (w.heap.size + 1) (w.heap.size + 1 + 1) n m v c va gu on) := HE.out.next hb
      have HU1 : Hid (UN y1 p) := UN.below HU.out hb
      clear hb a1 a2 a3 a4 a5 a6 a7 HE HU hl
      have a1 := HE1.out.a1
      have a2 := HE1.out.a2
      have a3 := HE1.out.a3
      have a7 := HE1.out.a7
      go_wp2_with fail
      refine (leave_un p _ HU1.out).mono ?_
      rintro e y1 ⟨rfl, rfl⟩
      go_wp2_with fail
      refine (write_un p n m v _ HU1.out).mono ?_
      rintro e y1 ⟨rfl, rfl⟩
      go_wp2_with fail
      refine (get_un p n _ HU1.out).mono ?_
      rintro e y1 ⟨rfl, rfl⟩
      go_wp2_with fail
      refine (set_un p n v _ HU1.out).mono ?_
      rintro e y1 ⟨rfl, rfl⟩
      go_wp2_with fail
      refine (line_un p n on _ HU1.out).mono ?_
      rintro e y1 ⟨rfl, rfl⟩
      go_wp2_with fail
      refine (wakes_un p _ HU1.out).mono ?_
      rintro e y1 ⟨rfl, rfl⟩
      go_wp2_with fail
      refine (root_un p _ HU1.out).mono ?_
      rintro e y1 ⟨rfl, rfl⟩
      go_wp2_with fail
      refine (clone_un p _ HU1.out).mono ?_
      rintro e y1 ⟨rfl, rfl⟩
      go_wp2_with fail
      go_roundw
      case rel => exact ⟨j + 1, by omega, by go_num, HE1.out⟩
      case measure => simp [intOf]; omega
    · obtain rfl : j = 2 := by omega
      have bl := E.bel
      go_wp2_with fail
      go_ret
      exact ⟨rfl, bl⟩
end csrNobody
end Go.Proofs.Ytcgopiljbodcdaa
