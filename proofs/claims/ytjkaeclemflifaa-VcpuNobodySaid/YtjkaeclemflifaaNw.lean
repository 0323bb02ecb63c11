/-
  The walk of VcpuNobody.
-/
import Derived.Test.YtjkaeclemflifaaVh
namespace Go.Proofs.Ytjkaeclemflifaa
open Go.RowKit
set_option linter.unusedVariables false
set_option maxRecDepth 100000
theorem eqg63' : Try.prog.eqGuardType Try.prog.depth 63 = false := by kernel_rfl
theorem eqg40 : Try.prog.eqGuardType Try.prog.depth 40 = false := by kernel_rfl
def zeroV : Array Value := #[.int .i64 0, .pointer none, .int .i64 0, .int .i64 0, .int .i64 0, .int .u64 0, .int .u64 0, .int .u64 0, .int .u64 0, .int .u64 0, .int .u64 0, .int .u64 0, .int .u64 0, .int .u64 0, .int .u64 0, .int .u64 0, .int .u64 0, .int .u64 0, .int .u64 0, .int .u64 0, .int .u64 0, .int .u64 0, .int .u64 0]
/-- between the rounds -/
structure NS (w0 w : World) (A B L M mb cr : Nat) (o : Nat → Nat) (cs : Array Value) : Prop where
  bel : Below w0.heap.size w0 w
  act : w.heap[A]? = some (.cells cs 42 (0, 0))
  un : w.heap[B]? = some (.cells zeroV 60 (0, 0))
  row : w.heap[L]? = some (.cells #[.pointer none, .pointer (some ⟨B, 0, none⟩)] 27 (0, 0))
  m : MS w M mb cr 1 1 o (fun _ => .pointer none)
section
variable {w0 w w' : World} {A B L M mb cr : Nat} {o : Nat → Nat} {cs : Array Value}
theorem NS.below (h : NS w0 w A B L M mb cr o cs) (hb : Below w.heap.size w w') : NS w0 w' A B L M mb cr o cs :=
  ⟨h.bel.trans (hb.mono h.bel.size), keepB h.act hb, keepB h.un hb, keepB h.row hb, h.m.below hb⟩
theorem NS.none (h : NS w0 w A B L M mb cr o cs) (j : Nat) (hj : j < 2) : ∃ p, UN w p ∧ w.cell? ⟨L, j, Option.none⟩ = some p := by
  obtain rfl | rfl : j = 0 ∨ j = 1 := by omega
  · exact ⟨_, .inl rfl, (cell_at h.row 0).trans rfl⟩
  · exact ⟨_, .inr ⟨B, rfl, lt_of_heap h.un, (cell_at h.un 1).trans rfl⟩, (cell_at h.row 1).trans rfl⟩
theorem act_rg (h : w.heap[A]? = some (.cells cs 42 (0, 0))) : w.rangeAt A 3 (cs.toList.drop 3) := fun j v hv => by
  rw [cell_at h]
  rw [List.getElem?_drop] at hv
  simpa using hv
end
set_option maxHeartbeats 6400000 in
theorem nobodyWalk (cs : Array Value) (hc : cs.size = 21) (w : World) : Calls Try.prog 4 #[.agg cs] w fun e w' => e = .returned (.bool true) ∧ Below w.heap.size w w' := by
  have hl18 : (Try.prog.info? 40).map (·.size) = some (cs.toList.drop 3).length := by rw [inf25]; simp [hc]
  have b0 := below_box w (.cells cs 42)
  have a0 := heap_alloc_at w (.cells cs 42)
  have HB0 : Hid (_) := And.intro a0 b0
  have C1 := new_m 1 1 (by decide) (by decide) (by decide) (by decide) (w.alloc (.cells cs 42))
  clear a0 b0
  go_enter Try.func4, Try.ntmps4
  go_wp2_with fail
  generalize w.alloc (.cells cs 42) = y at *
  refine C1.mono ?_
  rintro e w1 ⟨M, mb, cr, o, rfl, m1, a1, b1⟩
  have wl : w.heap.size < w1.heap.size := lt_of_heap (keepB HB0.out.1 b1)
  have bx1 := below_box w1 (.cells zeroV 60)
  have bx2 := below_box (w1.alloc (.cells zeroV 60)) (.cells #[.pointer none, .pointer (some ⟨w1.heap.size, 0, none⟩)] 27)
  have z1 : (w1.alloc (.cells zeroV 60)).heap.size = w1.heap.size + 1 := by simp
  have E0 : Hid (NS w ((w1.alloc (.cells zeroV 60)).alloc (.cells #[.pointer none, .pointer (some ⟨w1.heap.size, 0, none⟩)] 27)) w.heap.size w1.heap.size (w1.heap.size + 1) M mb cr o cs) := by
    refine ⟨?_, keepB (keepB (keepB HB0.out.1 b1) bx1) bx2, keepB (heap_alloc_at w1 _) bx2, ?_, (m1.below bx1).below bx2⟩
    · exact ((HB0.out.2.trans (b1.mono HB0.out.2.size)).trans (bx1.mono (by omega))).trans (bx2.mono (by omega))
    · rw [← z1]
      exact heap_alloc_at _ _
  clear C1 m1 a1 b1 bx1 bx2 z1 HB0
  unfold zeroV at E0
  go_wp2_with fail
  generalize (w1.alloc (.cells _ 60)).alloc (.cells _ 27) = y2 at *
  have E0' : Hid (NS w y2 w.heap.size w1.heap.size (w1.heap.size + 1) M mb cr o cs) := E0
  clear E0
  go_loopw [21] (fun q wr => ∃ j : Nat, j ≤ 2 ∧ q = .int .i64 j ∧ Hid (NS w wr w.heap.size w1.heap.size (w1.heap.size + 1) M mb cr o cs)) (fun q _ => 2 - (intOf q).toNat)
  case atStart => exact ⟨0, by omega, rfl, E0'⟩
  case round =>
    obtain ⟨j, hj, rfl, HJ⟩ := hrel
    clear E0'
    by_cases h2 : j < 2
    · obtain ⟨p, hp, hl⟩ := HJ.out.none j h2
      have h2' : (j : Int) < 2 := by omega
      have ll := lt_cell hl
      have HU : Hid (UN wr p) := hp
      clear hp
      generalize w1.heap.size = B at *
      have K1 := name_un HU.out
      go_wp2_with fail
      refine K1.mono ?_
      rintro e wr ⟨rfl, rfl⟩
      clear K1
      have K2 := state_un HU.out
      go_wp2_with fail
      refine K2.mono ?_
      rintro e wr ⟨rfl, rfl⟩
      clear K2 hl ll
      have K3 := enter_un HJ.out.m HU.out (.int .i64 0) (.int .i64 0)
      go_wp2_with fail
      refine K3.mono ?_
      rintro e x1 ⟨rfl, b1⟩
      have H1 : Hid (NS w x1 w.heap.size B (B + 1) M mb cr o cs ∧ UN x1 p) := ⟨HJ.out.below b1, HU.out.below b1⟩
      clear K3 HJ HU b1
      have K4 := leave_un H1.out.1.m H1.out.2
      go_wp2_with fail
      refine K4.mono ?_
      rintro e x2 ⟨rfl, b2⟩
      have H2 : Hid (NS w x2 w.heap.size B (B + 1) M mb cr o cs ∧ UN x2 p) := ⟨H1.out.1.below b2, H1.out.2.below b2⟩
      clear K4 H1 b2
      have K5 := block_un H2.out.2
      go_wp2_with fail
      refine K5.mono ?_
      rintro e x3 ⟨rfl, b3⟩
      have H3 : Hid (NS w x3 w.heap.size B (B + 1) M mb cr o cs ∧ UN x3 p) := ⟨H2.out.1.below b3, H2.out.2.below b3⟩
      clear K5 H2 b3
      have K6 := wake_un H3.out.2
      go_wp2_with fail
      refine K6.mono ?_
      rintro e x4 ⟨rfl, b4⟩
      have H4 : Hid (NS w x4 w.heap.size B (B + 1) M mb cr o cs ∧ UN x4 p) := ⟨H3.out.1.below b4, H3.out.2.below b4⟩
      clear K6 H3 b4
      have K7 := stop_un H4.out.2
      go_wp2_with fail
      refine K7.mono ?_
      rintro e x5 ⟨rfl, b5⟩
      have H5 : Hid (NS w x5 w.heap.size B (B + 1) M mb cr o cs ∧ UN x5 p) := ⟨H4.out.1.below b5, H4.out.2.below b5⟩
      clear K7 H4 b5
      have K8 := regs_un H5.out.2 (.pointer (some ⟨M, 0, none⟩))
      go_wp2_with fail
      refine K8.mono ?_
      rintro e x6 ⟨rfl, b6⟩
      have H6 : Hid (NS w x6 w.heap.size B (B + 1) M mb cr o cs ∧ UN x6 p) := ⟨H5.out.1.below b6, H5.out.2.below b6⟩
      clear K8 H5 b6
      have ER : ∀ W : World, (Op.equalIn 10000 40 (.agg zeroRegs) (.agg zeroRegs)).run Try.prog W = .ok true W := fun W => eq_regs zeroRegs (fun _ => 0) 0 0 (fun n hn => by
        match n, hn with
        | 0, _ | 1, _ | 2, _ | 3, _ | 4, _ | 5, _ | 6, _ | 7, _ | 8, _ | 9, _ | 10, _ | 11, _ | 12, _ | 13, _ | 14, _ | 15, _ => rfl
        | k + 16, h => omega) rfl rfl W
      have EZ : ∀ W : World, (Op.equalIn 10000 63 (.agg zeros30) (.agg zeros30)).run Try.prog W = .ok true W := eq_im zeros30 (fun j hj => ⟨0, zeros30_at j hj⟩)
      have HR : Hid (_) := act_rg H6.out.1.act
      have al := lt_of_heap H6.out.1.act
      have K9 := setregs_un H6.out.1.m H6.out.2 (cs.toList.drop 3).toArray
      go_wp2_with (first
        | refine wpList_neq_agg rfl 40 _ _ rfl zeroRegs zeroRegs rfl rfl eqg40 true (ER _) ?_
        | refine wpList_load_at rfl 40 _ rfl w.heap.size 3 rfl (cs.toList.drop 3) _ HR.out Try.underlying40 rfl hl18 ?_
        | fail)
      refine K9.mono ?_
      rintro e x7 ⟨rfl, b7⟩
      have H7 : Hid (NS w x7 w.heap.size B (B + 1) M mb cr o cs ∧ UN x7 p) := ⟨H6.out.1.below b7, H6.out.2.below b7⟩
      clear K9 H6 b7 HR ER al
      have K10 := file_un H7.out.2
      go_wp2_with fail
      refine K10.mono ?_
      rintro e x7 ⟨rfl, rfl⟩
      clear K10
      have K11 := image_un H7.out.2 (.pointer (some ⟨M, 0, none⟩))
      go_wp2_with fail
      refine K11.mono ?_
      rintro e x8 ⟨rfl, b8⟩
      have H8 : Hid (NS w x8 w.heap.size B (B + 1) M mb cr o cs ∧ UN x8 p) := ⟨H7.out.1.below b8, H7.out.2.below b8⟩
      clear K11 H7 b8
      have K12 := load_un H8.out.2 zeros30
      go_wp2_with (first
        | refine wpList_neq_agg rfl 63 _ _ rfl zeros30 zeros30 rfl rfl eqg63' true (EZ _) ?_
        | fail)
      refine Calls.mono K12 ?_
      rintro e x9 ⟨rfl, b9⟩
      have H9 : Hid (NS w x9 w.heap.size B (B + 1) M mb cr o cs) := H8.out.1.below b9
      clear K12 H8 b9 EZ
      go_wp2_with fail
      go_roundw
      case rel => exact ⟨j + 1, by omega, by go_num, H9⟩
      case measure => simp [intOf]; omega
    · obtain rfl : j = 2 := by omega
      have K1 := vnew_yes 1 0 0 (by decide) (by decide) (by decide) (by decide) ⟨by decide, by decide⟩ wr
      go_wp2_with fail
      refine K1.mono ?_
      rintro e y1 ⟨V, F, rfl, _, _, _, _, b1⟩
      have H1 : Hid (Below w.heap.size w y1) := HJ.out.bel.trans (b1.mono HJ.out.bel.size)
      clear K1 b1 HJ
      have K2 := enter_nil (w := y1) (.pointer (some ⟨V, 0, none⟩)) (.int .i64 0) (.int .i64 0)
      go_wp2_with fail
      refine K2.mono ?_
      rintro e y3 ⟨rfl, b3⟩
      have H3 : Hid (Below w.heap.size w y3) := H1.out.trans (b3.mono H1.out.size)
      clear K2 b3 H1
      have K3 := leave_nil (w := y3) (.pointer (some ⟨V, 0, none⟩))
      go_wp2_with fail
      refine K3.mono ?_
      rintro e y4 ⟨rfl, b4⟩
      have H4 : Hid (Below w.heap.size w y4) := H3.out.trans (b4.mono H3.out.size)
      clear K3 b4 H3
      go_wp2_with fail
      go_ret
      exact ⟨rfl, H4.out⟩
end Go.Proofs.Ytjkaeclemflifaa
