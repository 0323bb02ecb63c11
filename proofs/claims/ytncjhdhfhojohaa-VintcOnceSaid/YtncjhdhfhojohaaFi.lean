/-
  first: the program's two loops with a closure.
-/
import Derived.Test.YtncjhdhfhojohaaSm
import Derived.WalkMore
namespace Go.Proofs.Ytncjhdhfhojohaa
open Go.RowKit
set_option linter.unusedVariables false
set_option maxRecDepth 100000
/-- between the rounds -/
structure FS (w0 w : World) (b : Nat) (z : Z) (v : Nat) : Prop where
  bel : Below w0.heap.size w0 w
  is : IS 50 w b z
  c1 : w.cell? ⟨w0.heap.size, 0, none⟩ = some (.pointer (some ⟨b, 0, none⟩))
  c2 : w.cell? ⟨w0.heap.size + 1, 0, none⟩ = some (.int .i64 v)
theorem below_drewN {B : Nat} {W w : World} (h : Below B W w) : ∀ n, Below B W (w.drewN n) := fun n => ⟨h.os, h.tape, h.output, h.size, h.block⟩
theorem FS.drew {w0 w : World} {b : Nat} {z : Z} {v : Nat} (h : FS w0 w b z v) (m : Nat) : FS w0 (w.drewN m) b z v :=
  ⟨below_drewN h.bel m, h.is.keep rfl, h.c1, h.c2⟩
/-- what the outer loop knows of those behind -/
def Past (z : Z) (v j : Nat) : Prop := ∀ k, k < j → may z k v = true → ∃ i, i < 17 ∧ may z i v = true ∧ z.W k < z.W i
/-- what the inner one knows -/
def Less (z : Z) (v s j : Nat) : Prop := ∀ i, i < j → may z i v = true → ¬ z.W s < z.W i
theorem ahead_tt {z : Z} {v i s : Nat} (h : ahead z v i s = true) : may z i v = true ∧ z.W s < z.W i := by
  unfold ahead at h
  simp only [Bool.and_eq_true, decide_eq_true_eq] at h
  exact h
theorem ahead_ff {z : Z} {v i s : Nat} (h : ahead z v i s = false) (k : may z i v = true) : ¬ z.W s < z.W i := by
  unfold ahead at h
  rw [k] at h
  simpa using h
set_option maxHeartbeats 3200000 in
theorem first_is {w : World} {b : Nat} {z : Z} (h : IS 50 w b z) (k : Ok z) (v : Nat) (hv : v < 4) : Calls Try.prog 28 #[.pointer (some ⟨b, 0, none⟩), .int .i64 v] w fun e w' => e = .returned (.int .i64 (fst z v)) ∧ Below w.heap.size w w' := by
  have bx := (below_box w (.cells #[.pointer (some ⟨b, 0, none⟩)] 23)).trans ((below_box (w.alloc (.cells #[.pointer (some ⟨b, 0, none⟩)] 23)) (.cells #[.int .i64 v] 3)).mono (by simp))
  have H0 : Hid (FS w ((w.alloc (.cells #[.pointer (some ⟨b, 0, none⟩)] 23)).alloc (.cells #[.int .i64 v] 3)) b z v) := by
    refine ⟨bx, h.below bx, ?_, ?_⟩
    · rw [World.cell?_of_block (heap_alloc_past _ _ (by simp))]
      exact (cell_at (heap_alloc_at w _) 0).trans rfl
    · have := heap_alloc_at (w.alloc (.cells #[.pointer (some ⟨b, 0, none⟩)] 23)) (.cells #[.int .i64 v] 3)
      have e : (w.alloc (.cells #[.pointer (some ⟨b, 0, none⟩)] 23)).heap.size = w.heap.size + 1 := by simp
      rw [e] at this
      exact (cell_at this 0).trans rfl
  have hl := h.lt
  have KK : Hid (Ok z) := k
  have HV : Hid (_) := hv
  clear h bx k hv
  obtain ⟨F, hF⟩ : ∃ F : Int, (fst z v : Int) = F := ⟨_, rfl⟩
  have HF : Hid (_) := hF
  rw [hF]
  clear hF
  have hmf : ∀ (fn : Fn) (first cap : Array Value) (w : World), (Instr.makeFunc fn first cap).run Try.prog w = .ok (.func fn first cap) w := fun _ _ _ _ => rfl
  go_enter Try.func28, Try.ntmps28
  go_wp2_with fail
  go_step3
  go_wp2_with fail
  go_step3
  go_wp2_with fail
  generalize (w.alloc (.cells #[.pointer (some ⟨b, 0, none⟩)] 23)).alloc (.cells #[.int .i64 v] 3) = y at *
  go_loopw [9] (fun q wr => ∃ j : Nat, j ≤ 17 ∧ q = .int .i64 j ∧ Hid (FS w wr b z v ∧ Past z v j)) (fun q _ => 17 - (intOf q).toNat)
  case atStart => exact ⟨0, by omega, rfl, H0.out, fun k hk => by omega⟩
  case round =>
    obtain ⟨j, hj, rfl, HJ⟩ := hrel
    clear H0
    by_cases hjn : j < 17
    · have hjn' : (j : Int) < 17 := by omega
      have C1 := mayCome_is HJ.out.1.is j v hjn HV.out
      have c1 := HJ.out.1.c1
      have c2 := HJ.out.1.c2
      have l1 := lt_cell c1
      have l2 := lt_cell c2
      obtain ⟨q, hq⟩ : ∃ q, may z j v = q := ⟨_, rfl⟩
      rw [hq] at C1
      have HQ : Hid (_) := hq
      clear hq
      cases q
      · go_wp2_with fail
        refine C1.mono ?_
        rintro e w1 ⟨rfl, m, rfl⟩
        go_wp2_with fail
        go_roundw
        case rel => exact ⟨j + 1, by omega, by go_num, HJ.out.1.drew m, fun k hk hm => by
          by_cases e : k = j
          · subst e
            rw [HQ.out] at hm
            cases hm
          · exact HJ.out.2 k (by omega) hm⟩
        case measure => simp [intOf]; omega
      · go_wp2_with fail
        refine C1.mono ?_
        rintro e w1 ⟨rfl, m, rfl⟩
        have H1 : Hid (FS w (wr.drewN m) b z v) := HJ.out.1.drew m
        have HP : Hid (Past z v j) := HJ.out.2
        clear c1 c2 l1 l2 C1 HJ
        generalize wr.drewN m = x at *
        go_wp2_with fail
        go_loopw [17] (fun q wr => ∃ i : Nat, i ≤ 17 ∧ q = .int .i64 i ∧ Hid (FS w wr b z v ∧ Less z v j i)) (fun q _ => 17 - (intOf q).toNat)
        case atStart => exact ⟨0, by omega, rfl, H1.out, fun k hk => by omega⟩
        case round =>
          obtain ⟨i, hi, rfl, HI⟩ := hrel
          clear H1
          by_cases hin : i < 17
          · have hin' : (i : Int) < 17 := by omega
            have C2 := ahead_is HI.out.1.is v HV.out _ _ HI.out.1.c1 HI.out.1.c2 i j hin hjn
            obtain ⟨q, hq⟩ : ∃ q, ahead z v i j = q := ⟨_, rfl⟩
            rw [hq] at C2
            have HA : Hid (_) := hq
            clear hq
            cases q
            · go_wp2_with fail
              refine C2.mono ?_
              rintro e w1 ⟨rfl, m, rfl⟩
              go_wp2_with fail
              go_roundw
              case rel => exact ⟨i + 1, by omega, by go_num, HI.out.1.drew m, fun k hk hm => by
                by_cases e : k = i
                · subst e
                  exact ahead_ff HA.out hm
                · exact HI.out.2 k (by omega) hm⟩
              case measure => simp [intOf]; omega
            · go_wp2_with fail
              refine C2.mono ?_
              rintro e w1 ⟨rfl, m, rfl⟩
              go_wp2_with fail
              go_roundw
              case rel => exact ⟨j + 1, by omega, by go_num, HI.out.1.drew m, fun k hk hm => by
                by_cases e : k = j
                · subst e
                  exact ⟨i, hin, ahead_tt HA.out⟩
                · exact HP.out k (by omega) hm⟩
              case measure => simp [intOf]; omega
          · obtain rfl : i = 17 := by omega
            go_wp2_with fail
            simp only [Exit.noGoto_ret]
            go_ret
            refine ⟨ret_int ?_, HI.out.1.bel⟩
            rw [← HF.out, fst_of KK.out v j hjn HQ.out HP.out HI.out.2]
    · obtain rfl : j = 17 := by omega
      go_wp2_with fail
      simp only [Exit.noGoto_ret]
      go_ret
      refine ⟨ret_int ?_, HJ.out.1.bel⟩
      rw [← HF.out, fst_no KK.out v HJ.out.2]
      rfl
end Go.Proofs.Ytncjhdhfhojohaa
