/-
  The walk of MachineNobody.
-/
import Derived.Test.YtnfpfepegjiekaaGreatNb
namespace Go.Proofs.YtnfpfepegjiekaaGreat.machineNobody
open Go.RowKit
set_option linter.unusedVariables false
set_option maxRecDepth 20000
/-- the state between the rounds -/
structure NS (w0 w : World) (A N L : Nat) (c e : Int) : Prop where
  bel : Below w0.heap.size w0 w
  a1 : w.cell? ⟨A, 1, none⟩ = some (.int .i64 c)
  a2 : w.cell? ⟨A, 2, none⟩ = some (.int .i64 e)
  n0 : w.cell? ⟨N, 1, none⟩ = some (.slice none 0 0)
  l0 : w.cell? ⟨L, 0, none⟩ = some (.pointer none)
  l1 : w.cell? ⟨L, 1, none⟩ = some (.pointer (some ⟨N, 0, none⟩))
theorem lt_cell {w : World} {b o : Nat} {v : Value} (h : w.cell? ⟨b, o, none⟩ = some v) : b < w.heap.size := World.block_lt_of_cell? w ⟨b, o, none⟩ h
theorem bcell {w w' : World} {b o : Nat} {v : Value} (h : w.cell? ⟨b, o, none⟩ = some v) (hb : Below w.heap.size w w') : w'.cell? ⟨b, o, none⟩ = some v := (World.cell?_of_block (hb.block b (lt_cell h))).trans h
theorem NS.un {w0 w : World} {A N L : Nat} {c e : Int} (h : NS w0 w A N L c e) : UN w (.pointer (some ⟨N, 0, none⟩)) := .inr ⟨N, rfl, lt_cell h.n0, h.n0⟩
theorem NS.below {w0 w w' : World} {A N L : Nat} {c e : Int} (h : NS w0 w A N L c e) (hb : Below w.heap.size w w') : NS w0 w' A N L c e :=
  ⟨h.bel.trans (hb.mono h.bel.size), bcell h.a1 hb, bcell h.a2 hb, bcell h.n0 hb, bcell h.l0 hb, bcell h.l1 hb⟩
theorem NS.drew {w0 w : World} {A N L : Nat} {c e : Int} (h : NS w0 w A N L c e) : NS w0 w.drew A N L c e := ⟨h.bel.drew, h.a1, h.a2, h.n0, h.l0, h.l1⟩
theorem new_row (w : World) (old rc : Array Value) (t : TypeId) : ((w.alloc (.cells old t)).setRow w.heap.size rc).heap[w.heap.size]? = some (.cells rc t (0, 0)) ∧ Below w.heap.size w ((w.alloc (.cells old t)).setRow w.heap.size rc) := by
  refine ⟨setRow_heap _ _ old rc t _ (heap_alloc_new w _), ?_⟩
  exact ((Below.refl w.heap.size w).alloc (Nat.le_refl _) (.cells old t)).trans ⟨rfl, rfl, rfl, by simp [World.setRow], fun k hk => setRow_other _ _ k _ (by omega)⟩
theorem row19 {w : World} {b : Nat} (h : w.heap[b]? = some (.cells zeroCtx 36 (0, 0))) : w.cell? ⟨b, 19, none⟩ = some (.pointer none) := by
  simp [World.cell?, h, zeroCtx]
set_option maxHeartbeats 4000000 in
theorem walk (k c e : Int) (at_ x : Int) (w : World) :
    Calls Tryz.prog 3 #[.agg #[.int .i64 k, .int .i64 c, .int .i64 e, .int .u64 at_, .int .u64 x]] w fun r w' => r = .returned (.bool true) ∧ Below w.heap.size w w' := by
  have E0 : NS w (((w.alloc (.cells #[.int .i64 k, .int .i64 c, .int .i64 e, .int .u64 at_, .int .u64 x] 24)).alloc (.cells #[.pointer none, .slice none 0 0] 29)).alloc (.cells #[.pointer none, .pointer (some ⟨w.heap.size + 1, 0, none⟩)] 25)) w.heap.size (w.heap.size + 1) (w.heap.size + 1 + 1) c e :=
    ⟨(((Below.refl _ _).alloc (Nat.le_refl _) _).alloc (by simp) _).alloc (by simp; omega) _, by simp [go_sem], by simp [go_sem], by simp [go_sem], by simp [go_sem], by simp [go_sem]⟩
  obtain ⟨fs, hu⟩ := und36
  go_enter Tryz.func3, Tryz.ntmps3
  go_wp2_with fail
  go_loopw [17] (fun i wr => ∃ j : Nat, j ≤ 2 ∧ i = .int .i64 j ∧ NS w wr w.heap.size (w.heap.size + 1) (w.heap.size + 1 + 1) c e) (fun i _ => 2 - (intOf i).toNat)
  case atStart => exact ⟨0, by omega, rfl, E0⟩
  case round =>
    obtain ⟨j, hj, rfl, E⟩ := hrel
    clear E0
    obtain ⟨p, hp, hl⟩ : ∃ p, (j < 2 → UN wr p) ∧ (j < 2 → wr.cell? ⟨w.heap.size + 1 + 1, j, none⟩ = some p) := by
      obtain rfl | rfl | rfl : j = 0 ∨ j = 1 ∨ j = 2 := by omega
      · exact ⟨_, fun _ => .inl rfl, fun _ => E.l0⟩
      · exact ⟨_, fun _ => E.un, fun _ => E.l1⟩
      · exact ⟨.pointer none, fun h => absurd h (by omega), fun h => absurd h (by omega)⟩
    by_cases h2 : j < 2
    · have HU : Hid (UN wr p) := hp h2
      have hl := hl h2
      have h2' : (j : Int) < 2 := by omega
      have a1 := E.a1
      have a2 := E.a2
      have HE : Hid (NS w wr w.heap.size (w.heap.size + 1) (w.heap.size + 1 + 1) c e) := E
      clear hp E
      generalize w.heap.size = A at *
      go_wp2_with fail
      refine (get_un HU.out c).mono ?_
      rintro r x1 ⟨rfl, b1⟩
      have HU1 : Hid (UN x1 p) := HU.out.below b1
      have HE1 : Hid (NS w x1 A (A + 1) (A + 1 + 1) c e) := HE.out.below b1
      have a1 := HE1.out.a1
      have a2 := HE1.out.a2
      clear HU HE b1
      go_wp2_with (first
        | (refine wpList_store_row rfl 36 _ _ rfl x1.heap.size zeroCtx rfl rfl 36 _ (heap_alloc_new x1 _) inf36 rfl zc_one ?_
           have nr := fun old => new_row x1 old zeroCtx 36
           generalize hy : World.setRow _ _ _ = y1
           obtain ⟨n1, n2⟩ : y1.heap[x1.heap.size]? = some (.cells zeroCtx 36 (0, 0)) ∧ Below x1.heap.size x1 y1 := by rw [← hy]; exact nr _
           have HU2 : Hid (UN y1 p) := HU1.out.below n2
           have HE2 : Hid (NS w y1 A (A + 1) (A + 1 + 1) c e) := HE1.out.below n2
           have a1 := HE2.out.a1
           have a2 := HE2.out.a2
           have q5 : y1.cell? ⟨x1.heap.size, 19, none⟩ = some (.pointer none) := row19 n1
           generalize x1.heap.size = B5 at *
           clear nr hy n1 n2 HU1 HE1)
        | fail)
      refine (take_un HU2.out c).mono ?_
      rintro r x2 ⟨rfl, b2⟩
      have HU3 : Hid (UN x2 p) := HU2.out.below b2
      have HE3 : Hid (NS w x2 A (A + 1) (A + 1 + 1) c e) := HE2.out.below b2
      have a1 := HE3.out.a1
      have a2 := HE3.out.a2
      have q5 := bcell q5 b2
      clear HU2 HE2 b2
      go_wp2_with (first
        | (refine wpList_store_row rfl 36 _ _ rfl x2.heap.size zeroCtx rfl rfl 36 _ (heap_alloc_new x2 _) inf36 rfl zc_one ?_
           have nr := fun old => new_row x2 old zeroCtx 36
           generalize hy : World.setRow _ _ _ = y2
           obtain ⟨n1, n2⟩ : y2.heap[x2.heap.size]? = some (.cells zeroCtx 36 (0, 0)) ∧ Below x2.heap.size x2 y2 := by rw [← hy]; exact nr _
           have HU4 : Hid (UN y2 p) := HU3.out.below n2
           have HE4 : Hid (NS w y2 A (A + 1) (A + 1 + 1) c e) := HE3.out.below n2
           have a1 := HE4.out.a1
           have a2 := HE4.out.a2
           have q5 := bcell q5 n2
           have q7 : y2.cell? ⟨x2.heap.size, 19, none⟩ = some (.pointer none) := row19 n1
           generalize x2.heap.size = B7 at *
           clear nr hy n1 n2 HU3 HE3)
        | fail)
      refine (step_un HU4.out c).mono ?_
      rintro r x3 ⟨rfl, b3⟩
      have HU5 : Hid (UN x3 p) := HU4.out.below b3
      have HE5 : Hid (NS w x3 A (A + 1) (A + 1 + 1) c e) := HE4.out.below b3
      have a1 := HE5.out.a1
      have a2 := HE5.out.a2
      have q5 := bcell q5 b3
      have q7 := bcell q7 b3
      have hA3 := lt_cell a1
      have hA4 : A ≠ x3.heap.size := by omega
      clear HU4 HE4 b3
      go_wp2_with fail
      have b4 : Below x3.heap.size x3 (x3.alloc (.cells #[.int .i64 0, .int .i64 0, .int .u64 0, .int .u64 0, .bool false, .bool false] 45)) := (Below.refl _ _).alloc (Nat.le_refl _) _
      have r0 : (x3.alloc (.cells #[.int .i64 0, .int .i64 0, .int .u64 0, .int .u64 0, .bool false, .bool false] 45)).heap[x3.heap.size]? = some (.cells #[.int .i64 0, .int .i64 0, .int .u64 0, .int .u64 0, .bool false, .bool false] 45 (0, 0)) := heap_alloc_new _ _
      generalize x3.alloc (.cells #[.int .i64 0, .int .i64 0, .int .u64 0, .int .u64 0, .bool false, .bool false] 45) = x4 at *
      have HU6 : Hid (UN x4 p) := HU5.out.below b4
      have HE6 : Hid (NS w x4 A (A + 1) (A + 1 + 1) c e) := HE5.out.below b4
      have a1 := HE6.out.a1
      have a2 := HE6.out.a2
      have q5 := bcell q5 b4
      have q7 := bcell q7 b4
      have z0 : x4.cell? ⟨x3.heap.size, 0, none⟩ = some (.int .i64 0) := by simp [World.cell?, r0]
      have z1 : x4.cell? ⟨x3.heap.size, 1, none⟩ = some (.int .i64 0) := by simp [World.cell?, r0]
      have z2 : x4.cell? ⟨x3.heap.size, 2, none⟩ = some (.int .u64 0) := by simp [World.cell?, r0]
      have z3 : x4.cell? ⟨x3.heap.size, 3, none⟩ = some (.int .u64 0) := by simp [World.cell?, r0]
      have z4 : x4.cell? ⟨x3.heap.size, 4, none⟩ = some (.bool false) := by simp [World.cell?, r0]
      have z5 : x4.cell? ⟨x3.heap.size, 5, none⟩ = some (.bool false) := by simp [World.cell?, r0]
      generalize x3.heap.size = B9 at *
      clear HU5 HE5 b4 r0
      refine (flush_un HU6.out c e).mono ?_
      rintro r x4 ⟨rfl, rfl⟩
      go_wp2_with fail
      have CC := cores_un (w := x4.drew) HU6.out
      have CM := memory_un (w := x4.drew) HU6.out
      have CN := new_file 0 x4.drew
      clear hA3 hA4
      go_region_held2 (fun w'' => w''.cell? ⟨A, 1, none⟩ = some (.int .i64 c) ∧ w''.cell? ⟨A, 2, none⟩ = some (.int .i64 e) ∧ w''.cell? ⟨B5, 19, none⟩ = some (.pointer none) ∧ w''.cell? ⟨B7, 19, none⟩ = some (.pointer none) ∧ w''.cell? ⟨B9, 0, none⟩ = some (.int .i64 0) ∧ w''.cell? ⟨B9, 1, none⟩ = some (.int .i64 0) ∧ w''.cell? ⟨B9, 2, none⟩ = some (.int .u64 0) ∧ w''.cell? ⟨B9, 3, none⟩ = some (.int .u64 0) ∧ w''.cell? ⟨B9, 4, none⟩ = some (.bool false) ∧ w''.cell? ⟨B9, 5, none⟩ = some (.bool false)) (go_keep)
        (first
          | (go_at_call 8; refine CC.mono ?_; rintro r x5 ⟨rfl, hx⟩; subst hx)
          | (go_at_call 9; refine CM.mono ?_; rintro r x5 ⟨rfl, hx⟩; subst hx)
          | (go_at_call 11; refine CN.mono ?_; rintro r x5 ⟨⟨fb, rfl⟩, b5⟩
             have HU7 : Hid (UN x5 p) := UN.below (w := x4.drew) HU6.out b5
             have HE7 : Hid (NS w x5 A (A + 1) (A + 1 + 1) c e) := HE6.out.drew.below b5
             have k1 := HE7.out.a1
             have k2 := HE7.out.a2
             have k3 := bcell (w := x4.drew) q5 b5
             have k4 := bcell (w := x4.drew) q7 b5
             have y0 := bcell (w := x4.drew) z0 b5
             have y1 := bcell (w := x4.drew) z1 b5
             have y2 := bcell (w := x4.drew) z2 b5
             have y3 := bcell (w := x4.drew) z3 b5
             have y4 := bcell (w := x4.drew) z4 b5
             have y5 := bcell (w := x4.drew) z5 b5
             clear b5)
          | (go_at_call 10; refine (put_un HU7.out c _).mono ?_; rintro r x6 ⟨rfl, b6⟩
             have HU8 : Hid (UN x6 p) := HU7.out.below b6
             have HE8 : Hid (NS w x6 A (A + 1) (A + 1 + 1) c e) := HE7.out.below b6
             have l1 := HE8.out.a1
             have l2 := HE8.out.a2
             have l3 := bcell k3 b6
             have l4 := bcell k4 b6
             have v0 := bcell y0 b6
             have v1 := bcell y1 b6
             have v2 := bcell y2 b6
             have v3 := bcell y3 b6
             have v4 := bcell y4 b6
             have v5 := bcell y5 b6
             clear b6)
          | (go_at_call 12; refine (kept_un HU8.out c e).mono ?_; rintro r x7 ⟨rfl, hx⟩; subst hx))
      go_wp2_with fail
      go_roundw
      case rel => exact ⟨j + 1, by omega, by go_num, HE8.out⟩
      case measure => simp [intOf]; omega
    · obtain rfl : j = 2 := by omega
      have bl := E.bel
      go_wp2_with fail
      go_ret
      exact ⟨rfl, bl⟩
end Go.Proofs.YtnfpfepegjiekaaGreat.machineNobody
