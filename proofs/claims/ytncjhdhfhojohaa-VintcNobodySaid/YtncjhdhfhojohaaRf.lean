/-
  The document's first.
-/
import Derived.Test.YtncjhdhfhojohaaCl
namespace Go.Proofs.Ytncjhdhfhojohaa
open Go.RowKit
set_option linter.unusedVariables false
set_option maxRecDepth 100000
theorem best_succ (z : Z) (v j : Nat) (h : 1 ≤ j) : best z v j = if may z j v = true ∧ (best z v (j - 1) = 0 ∨ z.W (best z v (j - 1)) < z.W j) then j else best z v (j - 1) := by
  obtain ⟨i, rfl⟩ : ∃ i, j = i + 1 := ⟨j - 1, by omega⟩
  rfl
theorem best_lt (z : Z) (v n : Nat) : best z v n ≤ n := by
  obtain ⟨h, _⟩ | ⟨_, h, _⟩ := best_is z v n
  · omega
  · exact h
theorem may_of {z : Z} {j v : Nat} (h1 : z.P j = true) (h2 : z.T j = -1) (h3 : z.E j v = true) (h4 : z.B v < z.W j) : may z j v = true := by
  unfold may
  rw [h1, h2, h3, decide_eq_true h4]
  rfl
theorem no_P {z : Z} {j v : Nat} (h : z.P j = false) : may z j v = false := by unfold may; rw [h]; rfl
theorem no_T {z : Z} {j v : Nat} (h : ¬ z.T j = -1) : may z j v = false := by unfold may; rw [decide_eq_false h]; simp
theorem no_E {z : Z} {j v : Nat} (h : z.E j v = false) : may z j v = false := by unfold may; rw [h]; simp
theorem no_W {z : Z} {j v : Nat} (h : ¬ z.B v < z.W j) : may z j v = false := by unfold may; rw [decide_eq_false h]; simp
section
variable {w : World} {b : Nat} {z : Z}
set_option maxHeartbeats 6400000 in
theorem rfirst_is (h : IS 44 w b z) (k : Ok z) (v : Nat) (hv : v < 4) : Calls Try.prog 13 #[.pointer (some ⟨b, 0, none⟩), .int .i64 v] w fun e w' => e = .returned (.int .i64 (fst z v)) ∧ Below w.heap.size w w' := by
  have H0 : Hid (Below w.heap.size w w ∧ IS 44 w b z) := ⟨Below.refl _ _, h⟩
  have KK : Hid (Ok z) := k
  have HV : Hid (_) := hv
  clear h k hv
  obtain ⟨F, hF⟩ : ∃ F : Int, (fst z v : Int) = F := ⟨_, rfl⟩
  have HF : Hid (_) := hF
  rw [hF]
  clear hF
  go_enter Try.func13, Try.ntmps13
  go_wp2_with fail
  go_loopw [5, 6] (fun p q wr => ∃ j : Nat, 1 ≤ j ∧ j ≤ 17 ∧ q = .int .i64 j ∧ p = .int .i64 (best z v (j - 1)) ∧ Hid (Below w.heap.size w wr ∧ IS 44 wr b z)) (fun _ q _ => 17 - (intOf q).toNat)
  case atStart => exact ⟨1, by omega, by omega, rfl, rfl, H0⟩
  case round =>
    obtain ⟨j, hj1, hj, rfl, rfl, HJ⟩ := hrel
    clear H0
    by_cases hjn : j < 17
    · have hjn' : (j : Int) < 17 := by omega
      have hv' : (v : Int) < 4 := by have := HV.out; omega
      have HS : Hid (_) := best_succ z v j hj1
      have HL : Hid (best z v (j - 1) ≤ 16) := by have := best_lt z v (j - 1); show best z v (j - 1) ≤ 16; omega
      have c0 := HJ.out.2.cP j hjn
      have c1 := HJ.out.2.cT j hjn
      have c2 := HJ.out.2.cW j hjn
      have c3 := HJ.out.2.cE j 0 hjn (by decide)
      have c4 := HJ.out.2.cE j 1 hjn (by decide)
      have c5 := HJ.out.2.cE j 2 hjn (by decide)
      have c6 := HJ.out.2.cE j 3 hjn (by decide)
      have cB := HJ.out.2.cB v HV.out
      have cF := HJ.out.2.cW (best z v (j - 1)) (by have := HL.out; omega)
      have hl := HJ.out.2.lt
      generalize best z v (j - 1) = f at *
      have HX : Hid (∃ x, wr.alloc (.cells #[.bool (z.P j), .int .i64 (z.T j), .int .i64 (z.W j), .bool (z.E j 0), .bool (z.E j 1), .bool (z.E j 2), .bool (z.E j 3)] 40) = x ∧ Below w.heap.size w x ∧ IS 44 x b z ∧ x.cell? ⟨wr.heap.size, 0, none⟩ = some (.bool (z.P j)) ∧ x.cell? ⟨wr.heap.size, 1, none⟩ = some (.int .i64 (z.T j)) ∧ x.cell? ⟨wr.heap.size, 2, none⟩ = some (.int .i64 (z.W j)) ∧ x.cell? ⟨wr.heap.size, 3 + v, none⟩ = some (.bool (z.E j v)) ∧ wr.heap.size < x.heap.size) := by
        have bx := below_box wr (.cells #[.bool (z.P j), .int .i64 (z.T j), .int .i64 (z.W j), .bool (z.E j 0), .bool (z.E j 1), .bool (z.E j 2), .bool (z.E j 3)] 40)
        have ax := heap_alloc_at wr (.cells #[.bool (z.P j), .int .i64 (z.T j), .int .i64 (z.W j), .bool (z.E j 0), .bool (z.E j 1), .bool (z.E j 2), .bool (z.E j 3)] 40)
        refine ⟨_, rfl, HJ.out.1.trans (bx.mono HJ.out.1.size), HJ.out.2.below bx, cell_at ax 0, cell_at ax 1, cell_at ax 2, (cell_at ax _).trans ?_, by simp⟩
        have := HV.out
        obtain rfl | rfl | rfl | rfl : v = 0 ∨ v = 1 ∨ v = 2 ∨ v = 3 := by omega
        all_goals rfl
      go_wp2_with fail
      obtain ⟨x, hx, b1, h1, d0, d1, d2, d3, hg⟩ := HX.out
      rw [hx]
      have HJ1 : Hid (Below w.heap.size w x ∧ IS 44 x b z) := ⟨b1, h1⟩
      have cB := h1.cB v HV.out
      have cF := h1.cW f (by have := HL.out; omega)
      have hl := h1.lt
      have hf17 : (f : Int) < 17 := by have := HL.out; omega
      have hT := KK.out.t j hjn
      clear HX hx b1 h1 c0 c1 c2 c3 c4 c5 c6 HJ
      have GP : Hid (∀ q, z.P j = q → z.P j = q) := fun _ h => h
      obtain ⟨t, ht⟩ : ∃ t, z.T j = t := ⟨_, rfl⟩
      obtain ⟨p, hp⟩ : ∃ p, z.P j = p := ⟨_, rfl⟩
      obtain ⟨e, he⟩ : ∃ e, z.E j v = e := ⟨_, rfl⟩
      obtain ⟨y, hy⟩ : ∃ y, z.W j = y := ⟨_, rfl⟩
      obtain ⟨u, hu⟩ : ∃ u, z.B v = u := ⟨_, rfl⟩
      obtain ⟨o, ho⟩ : ∃ o, z.W f = o := ⟨_, rfl⟩
      rw [hp] at d0
      rw [ht] at d1 hT
      rw [hy] at d2
      rw [he] at d3
      rw [hu] at cB
      rw [ho] at cF
      have HA : Hid (z.P j = p ∧ z.T j = t ∧ z.E j v = e ∧ z.W j = y ∧ z.B v = u ∧ z.W f = o) := ⟨hp, ht, he, hy, hu, ho⟩
      clear hp ht he hy hu ho GP
      generalize wr.heap.size = g at *
      cases p
      · go_quiet (fail)
        go_wp2_with fail
        go_roundw
        case rel =>
          refine ⟨j + 1, by omega, by omega, by go_num, ?_, below_drewN HJ1.out.1 _, HJ1.out.2.keep rfl⟩
          rw [Nat.add_sub_cancel, HS.out, if_neg (fun h => by rw [no_P HA.out.1] at h; exact Bool.noConfusion h.1)]
        case measure => simp [intOf]; omega
      · by_cases ct : t = -1
        · subst ct
          cases e
          · go_quiet (fail)
            go_wp2_with fail
            go_roundw
            case rel =>
              refine ⟨j + 1, by omega, by omega, by go_num, ?_, below_drewN HJ1.out.1 _, HJ1.out.2.keep rfl⟩
              rw [Nat.add_sub_cancel, HS.out, if_neg (fun h => by rw [no_E HA.out.2.2.1] at h; exact Bool.noConfusion h.1)]
            case measure => simp [intOf]; omega
          · by_cases cw : u < y
            · have hw : decide (u < y) = true := decide_eq_true cw
              have HM : Hid (may z j v = true) := may_of HA.out.1 HA.out.2.1 HA.out.2.2.1 (by rw [HA.out.2.2.2.1, HA.out.2.2.2.2.1]; exact cw)
              clear cw
              by_cases cf : f = 0
              · subst cf
                go_quiet (fail)
                go_wp2_with fail
                go_roundw
                case rel =>
                  refine ⟨j + 1, by omega, by omega, by go_num, ?_, below_drewN HJ1.out.1 _, HJ1.out.2.keep rfl⟩
                  rw [Nat.add_sub_cancel, HS.out, if_pos (⟨HM.out, .inl rfl⟩)]
                case measure => simp [intOf]; omega
              · have hf0 : ((f : Int) == 0) = false := by simp; omega
                by_cases co : o < y
                · have ho : decide (o < y) = true := decide_eq_true co
                  have HO : Hid (o < y) := co
                  clear co
                  go_quiet (fail)
                  go_wp2_with fail
                  go_roundw
                  case rel =>
                    refine ⟨j + 1, by omega, by omega, by go_num, ?_, below_drewN HJ1.out.1 _, HJ1.out.2.keep rfl⟩
                    rw [Nat.add_sub_cancel, HS.out, if_pos (⟨HM.out, .inr (by rw [HA.out.2.2.2.1, HA.out.2.2.2.2.2]; exact HO.out)⟩)]
                  case measure => simp [intOf]; omega
                · have ho : decide (o < y) = false := decide_eq_false co
                  have HO : Hid (¬ o < y ∧ ¬ f = 0) := ⟨co, cf⟩
                  clear co cf
                  go_quiet (fail)
                  go_wp2_with fail
                  go_roundw
                  case rel =>
                    refine ⟨j + 1, by omega, by omega, by go_num, ?_, below_drewN HJ1.out.1 _, HJ1.out.2.keep rfl⟩
                    rw [Nat.add_sub_cancel, HS.out, if_neg (fun h => by
                      have h2 := h.2
                      rw [HA.out.2.2.2.1, HA.out.2.2.2.2.2] at h2
                      exact h2.elim HO.out.2 HO.out.1)]
                  case measure => simp [intOf]; omega
            · have hw : decide (u < y) = false := decide_eq_false cw
              have HM : Hid (may z j v = false) := no_W (by rw [HA.out.2.2.2.1, HA.out.2.2.2.2.1]; exact cw)
              clear cw
              go_quiet (fail)
              go_wp2_with fail
              go_roundw
              case rel =>
                refine ⟨j + 1, by omega, by omega, by go_num, ?_, below_drewN HJ1.out.1 _, HJ1.out.2.keep rfl⟩
                rw [Nat.add_sub_cancel, HS.out, if_neg (fun h => by rw [HM.out] at h; exact Bool.noConfusion h.1)]
              case measure => simp [intOf]; omega
        · have ht0 : decide (t < 0) = false := decide_eq_false (by omega)
          have HM : Hid (may z j v = false) := no_T (by rw [HA.out.2.1]; exact ct)
          clear ct hT
          go_quiet (fail)
          go_wp2_with fail
          go_roundw
          case rel =>
            refine ⟨j + 1, by omega, by omega, by go_num, ?_, below_drewN HJ1.out.1 _, HJ1.out.2.keep rfl⟩
            rw [Nat.add_sub_cancel, HS.out, if_neg (fun h => by rw [HM.out] at h; exact Bool.noConfusion h.1)]
          case measure => simp [intOf]; omega
    · obtain rfl : j = 17 := by omega
      go_wp2_with fail
      go_ret
      refine ⟨ret_int ?_, HJ.out.1⟩
      rw [← HF.out]
      rfl
end
end Go.Proofs.Ytncjhdhfhojohaa
