/-
  The walk of VintcNobody.
-/
import Derived.Test.YtncjhdhfhojohaaUn
import Derived.Test.YtncjhdhfhojohaaCl
import Derived.Test.YtncjhdhfhojohaaNw
import Derived.Test.YtncjhdhfhojohaaOpens
namespace Go.Proofs.Ytncjhdhfhojohaa
open Go.RowKit
set_option linter.unusedVariables false
set_option maxRecDepth 100000
namespace nobody
/-- between the rounds -/
structure NS (w0 w : World) (A B L : Nat) (x : Ac) : Prop where
  bel : Below w0.heap.size w0 w
  act : AcAt w A 0 x
  un : B < w.heap.size ∧ w.cell? ⟨B, 0, none⟩ = some (.int .i64 0)
  row : w.heap[L]? = some (.cells #[.pointer none, .pointer (some ⟨B, 0, none⟩)] 23 (0, 0))
section
variable {w0 w w' : World} {A B L : Nat} {x : Ac}
theorem NS.none (h : NS w0 w A B L x) (j : Nat) (hj : j < 2) : ∃ p, UN w p ∧ w.cell? ⟨L, j, Option.none⟩ = some p := by
  obtain rfl | rfl : j = 0 ∨ j = 1 := by omega
  · exact ⟨_, .inl rfl, (cell_at h.row 0).trans rfl⟩
  · exact ⟨_, .inr ⟨B, rfl, h.un.1, h.un.2⟩, (cell_at h.row 1).trans rfl⟩
theorem NS.drew (h : NS w0 w A B L x) (m : Nat) : NS w0 (w.drewN m) A B L x := ⟨below_drewN h.bel m, h.act, h.un, h.row⟩
end
set_option maxHeartbeats 6400000 in
theorem walk (x : Ac) (w : World) : Calls Try.prog 4 #[.agg #[.int .i64 x.kd, .int .i64 x.vc, .int .i64 x.so, .int .i64 x.nn, .bool x.on]] w fun e w' => e = .returned (.bool true) ∧ Below w.heap.size w w' := by
  obtain ⟨zs, hz, hs, hne, hat⟩ : ∃ zs : Array Value, (∀ w, (zeroValue 50).run Try.prog w = .ok (.agg zs) w) ∧ zs.size = 128 ∧ ¬ zs = #[] ∧ zs[0]? = some (.int .i64 0) := ⟨_, zero50, by simp, by simp, zA_at 0 (by decide)⟩
  have E0 : Hid (NS w (((w.alloc (.cells #[.int .i64 x.kd, .int .i64 x.vc, .int .i64 x.so, .int .i64 x.nn, .bool x.on] 33)).alloc (.cells zs 50)).alloc (.cells #[.pointer none, .pointer (some ⟨w.heap.size + 1, 0, none⟩)] 23)) w.heap.size (w.heap.size + 1) (w.heap.size + 1 + 1) x) := by
    have a0 := heap_alloc_at w (.cells #[.int .i64 x.kd, .int .i64 x.vc, .int .i64 x.so, .int .i64 x.nn, .bool x.on] 33)
    have b0 := below_box w (.cells #[.int .i64 x.kd, .int .i64 x.vc, .int .i64 x.so, .int .i64 x.nn, .bool x.on] 33)
    have z0 : (w.alloc (.cells #[.int .i64 x.kd, .int .i64 x.vc, .int .i64 x.so, .int .i64 x.nn, .bool x.on] 33)).heap.size = w.heap.size + 1 := by simp
    generalize w.alloc (.cells #[.int .i64 x.kd, .int .i64 x.vc, .int .i64 x.so, .int .i64 x.nn, .bool x.on] 33) = y0 at *
    have a1 := heap_alloc_at y0 (.cells zs 50)
    have b1 := below_box y0 (.cells zs 50)
    have z1 : (y0.alloc (.cells zs 50)).heap.size = w.heap.size + 1 + 1 := by simp [z0]
    generalize y0.alloc (.cells zs 50) = y1 at *
    have a2 := heap_alloc_at y1 (.cells #[.pointer none, .pointer (some ⟨w.heap.size + 1, 0, none⟩)] 23)
    have b2 := below_box y1 (.cells #[.pointer none, .pointer (some ⟨w.heap.size + 1, 0, none⟩)] 23)
    have z2 : (y1.alloc (.cells #[.pointer none, .pointer (some ⟨w.heap.size + 1, 0, none⟩)] 23)).heap.size = w.heap.size + 1 + 1 + 1 := by simp [z1]
    rw [z1] at a2
    rw [z0] at a1
    refine ⟨(b0.trans (b1.mono (by omega))).trans (b2.mono (by omega)), ?_, ⟨by omega, ?_⟩, a2⟩
    · have a0' := (b2.block w.heap.size (by omega)).trans ((b1.block w.heap.size (by omega)).trans a0)
      exact ⟨cell_at a0' 0, cell_at a0' 1, cell_at a0' 2, cell_at a0' 3, cell_at a0' 4⟩
    · exact (cell_at ((b2.block (w.heap.size + 1) (by omega)).trans a1) 0).trans hat
  clear hat
  go_enter Try.func4, Try.ntmps4
  go_wp2_with fail
  generalize ((w.alloc (.cells #[.int .i64 x.kd, .int .i64 x.vc, .int .i64 x.so, .int .i64 x.nn, .bool x.on] 33)).alloc (.cells zs 50)).alloc (.cells #[.pointer none, .pointer (some ⟨w.heap.size + 1, 0, none⟩)] 23) = y2 at *
  go_loopw [13] (fun q wr => ∃ j : Nat, j ≤ 2 ∧ q = .int .i64 j ∧ Hid (NS w wr w.heap.size (w.heap.size + 1) (w.heap.size + 1 + 1) x)) (fun q _ => 2 - (intOf q).toNat)
  case atStart => exact ⟨0, by omega, rfl, E0.out⟩
  case round =>
    obtain ⟨j, hj, rfl, HJ⟩ := hrel
    clear E0
    by_cases h2 : j < 2
    · obtain ⟨p, hp, hl⟩ := HJ.out.none j h2
      have h2' : (j : Int) < 2 := by omega
      have ll := lt_cell hl
      have HU : Hid (UN wr p) := hp
      obtain ⟨k0, k1, k2, k3, k4⟩ := HJ.out.act
      have la := lt_cell k0
      have bz : w.heap.size < wr.heap.size := la
      clear hp
      have K1 := claim_un HU.out x.vc
      have K2 := told_un HU.out x.so
      have K3 := raise_un HU.out x.so
      have K4 := enable_un HU.out x.vc x.so x.on
      have K5 := weigh_un HU.out x.so x.nn
      have K6 := bar_un HU.out x.vc x.nn
      have K7 := line_un HU.out x.vc
      have K8 := complete_un HU.out x.vc x.so
      have K9 := poke_un HU.out x.vc
      have K10 := soft_un HU.out x.vc
      go_wp2_with fail
      refine K1.mono ?_
      rintro e wr ⟨rfl, rfl⟩
      clear K1
      go_wp2_with fail
      refine K2.mono ?_
      rintro e wr ⟨rfl, rfl⟩
      clear K2
      go_wp2_with fail
      refine K3.mono ?_
      rintro e wr ⟨rfl, rfl⟩
      clear K3
      go_wp2_with fail
      refine K4.mono ?_
      rintro e wr ⟨rfl, rfl⟩
      clear K4
      go_wp2_with fail
      refine K5.mono ?_
      rintro e wr ⟨rfl, rfl⟩
      clear K5
      go_wp2_with fail
      refine K6.mono ?_
      rintro e wr ⟨rfl, rfl⟩
      clear K6
      go_wp2_with fail
      refine K7.mono ?_
      rintro e wr ⟨rfl, rfl⟩
      clear K7
      go_wp2_with fail
      refine K8.mono ?_
      rintro e wr ⟨rfl, rfl⟩
      clear K8
      go_wp2_with fail
      refine K9.mono ?_
      rintro e wr ⟨rfl, rfl⟩
      clear K9
      go_wp2_with fail
      refine K10.mono ?_
      rintro e wr ⟨rfl, rfl⟩
      clear K10
      go_wp2_with fail
      go_roundw
      case rel => exact ⟨j + 1, by omega, by go_num, HJ.out⟩
      case measure => simp [intOf]; omega
    · obtain rfl : j = 2 := by omega
      go_wp2_with fail
      go_ret
      exact ⟨rfl, HJ.out.bel⟩
end nobody
end Go.Proofs.Ytncjhdhfhojohaa
