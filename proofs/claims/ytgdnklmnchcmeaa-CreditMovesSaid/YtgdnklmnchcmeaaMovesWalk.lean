/-
  The walk of CreditMoves.
-/
import Derived.Test.YtgdnklmnchcmeaaVw
import Derived.Test.YtgdnklmnchcmeaaOpens
namespace Go.Proofs.Ytgdnklmnchcmeaa
open Go.RowKit Go.Maps
set_option linter.unusedVariables false
set_option maxRecDepth 100000
namespace moves
theorem mem_flat {g : Nat → List Int} {i : Nat} {k : Int} : ∀ {n : Nat}, i < n → k ∈ g i → k ∈ flat g n
  | 0, h, _ => by omega
  | n + 1, h, hk => by
    refine List.mem_append.2 ?_
    rcases Nat.lt_succ_iff_lt_or_eq.1 h with h1 | rfl
    · exact .inl (mem_flat h1 hk)
    · exact .inr hk
def S1 (home : Nat) : St := addS S0 5 3 home
def S2 (home core : Nat) : St := pickS (S1 home) 5 core
theorem q1 (home i : Nat) : (S1 home).Q i = if i = home then [5] else [] := rfl
theorem nxt1 {n home core : Nat} (h1 : home < n) (h2 : core < n) : (nxt (S1 home) n core).head? = some 5 := by
  have hm : (5 : Int) ∈ nxt (S1 home) n core := by
    unfold nxt
    refine List.mem_append.2 (.inr (mem_flat (i := (home + (n - core)) % n) (Nat.mod_lt _ (by omega)) ?_))
    unfold rot
    rw [Nat.add_mod_mod, show core + (home + (n - core)) = home + n by omega, Nat.add_mod_right, Nat.mod_eq_of_lt h1, q1, if_pos rfl]
    simp
  cases hh : (nxt (S1 home) n core).head? with
  | none => rw [List.head?_eq_none_iff.1 hh] at hm; cases hm
  | some k =>
    obtain ⟨i, hi, hk⟩ := nxt_mem (by omega) (List.mem_of_head? hh)
    rw [q1] at hk
    split at hk
    · simp at hk; rw [hk]
    · cases hk
theorem q2 (home core i : Nat) : (S2 home core).Q i = [] := by
  show (if i = home then [] ++ [(5 : Int)] else []).filter (fun x => !(x == 5)) = []
  split <;> rfl
theorem nxt2 {n home core i : Nat} (hn : 0 < n) : (nxt (S2 home core) n i).head? = none := by
  cases hh : (nxt (S2 home core) n i).head? with
  | none => rfl
  | some k =>
    obtain ⟨i, hi, hk⟩ := nxt_mem hn (List.mem_of_head? hh)
    rw [q2] at hk
    cases hk
theorem l2 (home core : Nat) : (S2 home core).L = [⟨5, 3, 0, core, 2⟩] := rfl
theorem rn2 {home core i : Nat} (h : i ≠ core) : rn (S2 home core).L i = none := by
  rw [l2]
  unfold rn
  simp [Ne.symm h]
theorem kw5 : KW 5 := show (Lit.int .i64 5).wf = true by decide
theorem low8 (v : Int) : ∃ i : Nat, i ≤ 255 ∧ bits .and .i64 v 255 = (i : Int) := and_low v 255 255 (by decide) (by decide)
theorem low2 (v : Int) : ∃ i : Nat, i ≤ 3 ∧ bits .and .i64 v 3 = (i : Int) := and_low v 3 3 (by decide) (by decide)
set_option maxHeartbeats 3200000 in
theorem walk (a0 b0 d0 : Int) (w : World) : Calls Try.prog 8 #[.int .i64 a0, .int .i64 b0, .int .i64 d0] w fun e w' => e = .returned (.bool true) ∧ Below w.heap.size w w' := by
  obtain ⟨a1, ha1, ha⟩ := low2 a0
  obtain ⟨b1, hb1, hb⟩ := low8 b0
  obtain ⟨d1, hd1, hd⟩ := low8 d0
  obtain ⟨n, hn⟩ : ∃ n : Nat, n = 2 + a1 := ⟨_, rfl⟩
  have hwn : IntKind.i64.wrap (2 + (a1 : Int)) = (n : Int) := by rw [IntKind.wrap_i64]; omega
  obtain ⟨home, hhome⟩ : ∃ home : Nat, home = b1 % n := ⟨_, rfl⟩
  obtain ⟨core, hcore⟩ : ∃ core : Nat, core = d1 % n := ⟨_, rfl⟩
  have hl1 : home < n := by rw [hhome]; exact Nat.mod_lt _ (by omega)
  have hl2 : core < n := by rw [hcore]; exact Nat.mod_lt _ (by omega)
  have hr1 : Int.tmod (b1 : Int) (n : Int) = (home : Int) := by rw [hhome]; rfl
  have hr2 : Int.tmod (d1 : Int) (n : Int) = (core : Int) := by rw [hcore]; rfl
  have hnz : ¬ (n : Int) = 0 := by omega
  have hnz2 : ((n : Int) == 0) = false := by simpa using hnz
  have hw1 : IntKind.i64.wrap (home : Int) = (home : Int) := by rw [IntKind.wrap_i64]; omega
  have hw2 : IntKind.i64.wrap (core : Int) = (core : Int) := by rw [IntKind.wrap_i64]; omega
  have hn8 : 2 ≤ n ∧ n ≤ 5 := by omega
  have C1 := fun w => new_vw n 10 w ⟨by omega, by omega, by decide, by decide⟩
  have HB : Hid (∀ q, Below w.heap.size w (w.drewN q)) := fun q => below_drewN (Below.refl _ _) q
  clear hn hhome hcore
  go_enter Try.func8, Try.ntmps8
  go_wp2_with fail
  go_quiet (fail)
  have HBq : Hid (Below w.heap.size w (World.drewN w nq)) := HB.out nq
  clear HB
  generalize World.drewN _ nq = y at *
  go_wp2_with fail
  refine (C1 _).mono ?_
  rintro e w1 ⟨c, rfl, m, p, hv⟩
  have C2 := hv.add_ (k := 5) kw5 3 home
  have e2 : addE S0 n 5 3 home = 0 := by
    unfold addE
    rw [if_neg (by omega), if_neg (by omega)]
    rfl
  have e3 : addT S0 n 5 3 home = S1 home := by unfold addT; rw [e2, if_pos rfl]; rfl
  rw [e2, e3] at C2
  clear hv C1 e2 e3
  go_wp2_with fail
  refine C2.mono ?_
  rintro e w2 ⟨rfl, hv⟩
  have C3 := hv.pick_ core
  have e1 : pckE (S1 home) n core = 0 := by unfold pckE; rw [if_neg (by omega)]; rfl
  have e2 : pckO (S1 home) n core = some 5 := by unfold pckO; rw [e1, if_pos rfl, Int.toNat_natCast, nxt1 hl1 hl2]
  have e3 : pckT (S1 home) n core = S2 home core := by unfold pckT; rw [e2, Int.toNat_natCast]; rfl
  rw [e1, e2, e3] at C3
  simp only [nxI, Option.getD_some, Option.isSome_some] at C3
  clear hv C2 e1 e2 e3
  go_wp2_with fail
  refine C3.mono ?_
  rintro e w3 ⟨rfl, hv⟩
  have H3 : Hid (VW y K0 w3 c m p n 10 (S2 home core)) := hv
  have C4 := hv.look_ kw5
  have f5 : fnd (S2 home core).L 5 = some ⟨5, 3, 0, core, 2⟩ := by rw [l2]; rfl
  have e1 : lkV (S2 home core).L 5 = .agg #[.int .i64 2, .int .i64 core, .int .i64 3, .int .i64 0] := by unfold lkV; rw [f5]; rfl
  rw [e1, f5] at C4
  simp only [Option.isSome_some] at C4
  clear hv C3 f5 e1
  go_wp2_with fail
  refine C4.mono ?_
  rintro e w4 ⟨rfl, hb4⟩
  have H4 : Hid (VW y (K1 K0 w4.heap.size (.cells #[.int .i64 2, .int .i64 core, .int .i64 3, .int .i64 0] 36)) (w4.alloc (.cells #[.int .i64 2, .int .i64 core, .int .i64 3, .int .i64 0] 36)) c m p n 10 (S2 home core)) := (H3.out.below hb4).box (.cells #[.int .i64 2, .int .i64 core, .int .i64 3, .int .i64 0] 36)
  have C5 := H4.out.queue_ home hl1
  rw [q2] at C5
  have g1 := H4.out.kp (.inl ⟨rfl, rfl⟩)
  have b0' := cell_at g1 0
  have b1' := cell_at g1 1
  have bl := lt_of_heap g1
  simp at b0' b1'
  clear C4 hb4 H3 g1
  go_wp2_with fail
  refine C5.mono ?_
  rintro e w5 ⟨v5, rfl, hq5, _, hb5⟩
  have H5 : Hid (VW y K0 w5 c m p n 10 (S2 home core)) := (H4.out.below hb5).weak (KQ := K0) (fun k o h => h.elim)
  obtain ⟨ad, cc, hform⟩ := hq5.form
  simp only [List.length_nil] at hform
  subst hform
  clear C5 hq5 hb5 H4 b0' b1' bl
  go_wp2_with fail
  go_loopw [13] (fun q wr => ∃ j : Nat, j ≤ n ∧ q = .int .i64 j ∧ Hid (VW y K0 wr c m p n 10 (S2 home core))) (fun q _ => n - (intOf q).toNat)
  case atStart => exact ⟨0, by omega, rfl, H5.out⟩
  case round =>
    obtain ⟨j, hj, rfl, HJ⟩ := hrel
    clear H5
    by_cases hjn : j < n
    · have hjn' : (j : Int) < (n : Int) := by omega
      by_cases hjc : j = core
      · subst hjc
        go_wp2_with fail
        go_roundw
        case rel => exact ⟨j + 1, by omega, by go_num, HJ.out⟩
        case measure => simp [intOf]; omega
      · have hjc1 : ¬ (j : Int) = (core : Int) := by omega
        have hjc2 : ((j : Int) != (core : Int)) = true := by simpa using hjc1
        have C := HJ.out.pick_ j
        have e0 : tkB (S2 home core).L j = false := by unfold tkB; rw [rn2 hjc]; rfl
        have e1 : pckE (S2 home core) n j = 0 := by unfold pckE; rw [if_neg (by omega), Int.toNat_natCast, e0, if_neg (by decide)]
        have e2 : pckO (S2 home core) n j = none := by unfold pckO; rw [e1, if_pos rfl, nxt2 (by omega)]
        have e3 : pckT (S2 home core) n j = S2 home core := by unfold pckT; rw [e2]
        rw [e1, e2, e3] at C
        simp only [nxI, Option.getD_none, Option.isSome_none] at C
        clear e0 e1 e2 e3
        go_wp2_with fail
        refine C.mono ?_
        rintro e w6 ⟨rfl, hv⟩
        have H6 : Hid (VW y K0 w6 c m p n 10 (S2 home core)) := hv
        clear hv C HJ
        go_wp2_with fail
        go_roundw
        case rel => exact ⟨j + 1, by omega, by go_num, H6.out⟩
        case measure => simp [intOf]; omega
    · obtain rfl : j = n := by omega
      have C := HJ.out.yield_ core
      have e0 : tkB (S2 home core).L core = true := by unfold tkB rn; rw [l2]; simp
      have ei : riI (S2 home core).L core = 5 := by unfold riI rn; rw [l2]; simp
      have e1 : yldE (S2 home core) j core = 0 := by unfold yldE; rw [if_neg (by omega), Int.toNat_natCast, e0, if_pos rfl]
      have e2 : yldI (S2 home core) j core = 5 := by unfold yldI; rw [e1, if_pos rfl, Int.toNat_natCast, ei]
      have e3 : yldT (S2 home core) j core = rdyS (S2 home core) 5 core := by unfold yldT; rw [e1, if_pos rfl, Int.toNat_natCast, ei]
      rw [e1, e2, e3] at C
      clear e0 ei e1 e2 e3 HJ
      go_wp2_with fail
      refine C.mono ?_
      rintro e w6 ⟨rfl, hv⟩
      have H6 : Hid (VW y K0 w6 c m p j 10 (rdyS (S2 home core) 5 core)) := hv
      have C2 := hv.queue_ core hl2
      have hq : (rdyS (S2 home core) 5 core).Q core = [5] := by
        show addQ (S2 home core).Q core 5 core = _
        unfold addQ
        rw [if_pos rfl, q2]
        rfl
      rw [hq] at C2
      clear hv C hq
      go_wp2_with fail
      refine C2.mono ?_
      rintro e w7 ⟨v7, rfl, hq7, _, hb7⟩
      have H7 : Hid (Below w.heap.size w w7) := (HBq.out.trans (H6.out.bel.mono HBq.out.size)).trans (hb7.mono (Nat.le_trans HBq.out.size H6.out.bel.size))
      obtain ⟨g, c7, rfl, hr⟩ := hq7.pos (by decide)
      have x0 := hr.at_ (i := 0) (by decide)
      have xl := hr.lt
      simp only [List.length_cons, List.length_nil] at x0 ⊢
      clear C2 hq7 hb7 H6 hr
      go_wp2_with fail
      go_ret
      exact ⟨rfl, H7.out⟩
end moves
theorem mwalk (a b d : Int) (w : World) : Calls Try.prog 8 #[.int .i64 a, .int .i64 b, .int .i64 d] w fun e w' => e = .returned (.bool true) ∧ Below w.heap.size w w' := moves.walk a b d w
end Go.Proofs.Ytgdnklmnchcmeaa
