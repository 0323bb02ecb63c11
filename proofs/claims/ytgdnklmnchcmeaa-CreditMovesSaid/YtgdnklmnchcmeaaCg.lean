/-
  The program's Over and New.
-/
import Derived.Test.YtgdnklmnchcmeaaCf
import Derived.Deep.QuietTactic
import Derived.BigQuiet
import Derived.Deep.MidRow
namespace Go.Proofs.Ytgdnklmnchcmeaa
open Go.RowKit Go.Maps
set_option linter.unusedVariables false
set_option maxRecDepth 100000
/-- a world that has all blocks of another one as they were -/
structure Above (W : World) where
  wld : World
  bel : Below W.heap.size W wld
theorem above_here (W : World) : Nonempty (Above W) := ⟨⟨W, Below.refl _ _⟩⟩
theorem wp_region_above {P : Program} {id : Nat} {Q : Exit → Act → World → Prop} {a : Act} {w : World} {l : List Oper} (hm : P.follows .mixedOrders = true) (hB : Region.lexB .any l.toArray = true)
    (h : wpQuiet P l.toArray (fun w' => ∃ s : Above w, w' = s.wld) (fun a' => ∀ w', (∃ s : Above w, w' = s.wld) → Q .normal a' w') l a) : (Code.region id l.toArray true).wp P Q a w :=
  wp_region_quiet (C := fun w' => ∃ s : Above w, w' = s.wld) hm hB ⟨⟨_, (Below.refl _ _).drew⟩, rfl⟩ (by simpa using h)
theorem above_call {P : Program} {f : FuncId} {args : Array Value} {W : World} {v : Value} (s : Above W)
    (h : Calls P f args s.wld fun e w' => e = .returned v ∧ Below s.wld.heap.size s.wld w') : Calls P f args s.wld fun e w'' => e = .returned v ∧ ∃ s' : Above W, w'' = s'.wld :=
  h.mono fun _ w' ⟨he, hb⟩ => ⟨he, ⟨w', s.bel.trans (hb.mono s.bel.size)⟩, rfl⟩
def ovr (per : Int) (S : St) (i : Nat) : Bool := match rn S.L i with
  | none => false
  | some x => !(S.Q i).isEmpty && (decide (per ≤ S.R i) || (decide (x.cr < 0) && (S.Q i).any (und S.L)))
section
variable {w w' : World} {c m p n N : Nat} {per : Int} {M : Int → Option Value} {F : Nat → Pv} {S : St} {k : Int} {x : On} {v : Value} {xs : List Int}
theorem contains_qs {fv : Value} {f : FuncId} {pre post : Array Value} {P : Int → Bool} (h : Qs w v xs) (A : Asks fv f pre post xs P w) (hl : xs.length ≤ 100000) :
    Calls Try.prog 44 #[v, fv] w fun e w' => e = .returned (.bool (xs.any P)) ∧ Below w.heap.size w w' := by
  have K := indexf_qs h A hl
  clear h A
  go_enter Try.func44, Try.ntmps44
  go_wp2_with fail
  refine K.mono ?_
  rintro e w1 ⟨hb, ⟨rfl, hno⟩ | ⟨i, hi, rfl, hf⟩⟩
  · have HF : Hid (xs.any P = false ∧ Below w.heap.size w w1) := ⟨by rw [List.any_eq_false]; intro y hy; simp [hno y hy], hb⟩
    clear hno hb K
    go_wp2_with fail
    go_ret
    rw [HF.out.1]
    exact ⟨rfl, HF.out.2⟩
  · have HF : Hid (xs.any P = true ∧ Below w.heap.size w w1) := ⟨List.any_eq_true.2 ⟨_, List.mem_of_find?_eq_some hf, List.find?_some hf⟩, hb⟩
    clear hf hb K
    go_wp2_with fail
    go_ret
    rw [HF.out.1]
    exact ⟨rfl, HF.out.2⟩
theorem over_no (h : VX w c m p n per F S) (i : Int) (hi : i < 0 ∨ (n : Int) ≤ i) : Calls Try.prog 24 #[.pointer (some ⟨c, 0, none⟩), .int .i64 i] w fun e w' => e = .returned (.bool false) ∧ Below w.heap.size w w' := by
  have C := place_no h.vr i hi
  clear h
  go_enter Try.func24, Try.ntmps24
  go_wp2_with fail
  refine C.mono ?_
  rintro e w1 ⟨rfl, rfl⟩
  go_wp2_with fail
  go_ret
  exact ⟨rfl, Below.refl _ _⟩
set_option maxHeartbeats 1600000 in
theorem over_at (h : VX w c m p n per F S) (j : Nat) (hj : j < n) : Calls Try.prog 24 #[.pointer (some ⟨c, 0, none⟩), .int .i64 j] w fun e w' => e = .returned (.bool (ovr per S j)) ∧ Below w.heap.size w w' := by
  have C := place_at h.vr j hj
  obtain ⟨d0, d1, d2, d3⟩ := h.vr.pr.all hj
  obtain ⟨q1, q2, q3⟩ := h.pv j hj
  have pl := h.vr.pr.lt
  have hqs := h.vr.qs j hj
  obtain ⟨ad, cc, hform⟩ := hqs.form
  have hql := h.ok.qlen hj
  rw [hform] at d0
  unfold ovr
  cases hr : rn S.L j with
  | none =>
    have et : tkB S.L j = false := by unfold tkB; rw [hr]; rfl
    rw [q1, et] at d1
    clear h q1 q2 q3 hr et hqs hform
    go_enter Try.func24, Try.ntmps24
    go_wp2_with fail
    refine C.mono ?_
    rintro e w1 ⟨rfl, rfl⟩
    go_wp2_with fail
    go_ret
    exact ⟨rfl, Below.refl _ _⟩
  | some x =>
    obtain ⟨hm, hs, hc⟩ := rn_mem hr
    have hx := fnd_of h.ok.nd hm
    have et : tkB S.L j = true := by unfold tkB; rw [hr]; rfl
    have ei : riI S.L j = x.id := by unfold riI; rw [hr]
    have ec : chI per S j = min (S.R j) per := by unfold chI; rw [et, if_pos rfl]
    rw [q1, et] at d1
    rw [q2, ei] at d2
    rw [q3, ec] at d3
    simp only []
    by_cases h0 : (S.Q j).length = 0
    · have e0 : S.Q j = [] := List.eq_nil_of_length_eq_zero h0
      rw [h0] at d0
      rw [e0]
      simp only [List.isEmpty_nil, Bool.not_true, Bool.false_and]
      clear h q1 q2 q3 hr et hqs hform ec hm hs hc hx ei
      go_enter Try.func24, Try.ntmps24
      go_wp2_with fail
      refine C.mono ?_
      rintro e w1 ⟨rfl, rfl⟩
      go_wp2_with fail
      go_ret
      exact ⟨rfl, Below.refl _ _⟩
    · have e0 : (S.Q j).isEmpty = false := by
        cases hq : S.Q j with
        | nil => rw [hq] at h0; exact absurd rfl h0
        | cons a r => rfl
      rw [e0]
      simp only [Bool.not_false, Bool.true_and]
      have c0 := h.vr.c0
      have c2 := h.vr.c2
      have cl := h.vr.lt
      have KU := fun w' hb => under_vx (w := w') (h.below hb) x.id (h.ok.ok x hm).id
      have hux : und S.L x.id = decide (0 ≤ x.cr) := by unfold und; rw [hx]
      rw [hux] at KU
      have KC := fun (w' : World) hb => contains_qs (w := w') ((h.below hb).vr.qs j hj) (asks_under (h.below hb) hj) (by omega)
      rw [hform] at KC
      obtain ⟨ln, hln⟩ : ∃ ln, (S.Q j).length = ln := ⟨_, rfl⟩
      rw [hln] at d0 h0 KC hql
      have HB : Hid (Below w.heap.size w w.drew) := (Below.refl _ _).drew
      obtain ⟨an, han⟩ : ∃ an, (S.Q j).any (und S.L) = an := ⟨_, rfl⟩
      rw [han] at KC ⊢
      by_cases hp : per ≤ S.R j
      · have e1 : min (S.R j) per = per := by omega
        rw [e1] at d3
        rw [decide_eq_true hp]
        simp only [Bool.true_or]
        clear h q1 q2 q3 hr et hqs hform ec hm hs hc hx ei KU KC hux hln han
        go_enter Try.func24, Try.ntmps24
        go_wp2_with fail
        refine C.mono ?_
        rintro e w1 ⟨rfl, rfl⟩
        go_wp2_with fail
        go_quiet (fail)
        go_wp2_with fail
        go_ret
        exact ⟨rfl, below_drewN (Below.refl _ _) _⟩
      · have e1 : min (S.R j) per = S.R j := by omega
        have e2 : ¬ S.R j = per := by omega
        have e3 : (S.R j == per) = false := by simpa using e2
        rw [e1] at d3
        rw [decide_eq_false hp]
        simp only [Bool.false_or]
        generalize S.R j = rr at *
        by_cases hcr : 0 ≤ x.cr
        · rw [decide_eq_true hcr] at KU
          have e4 : decide (x.cr < 0) = false := decide_eq_false (by omega)
          rw [e4]
          simp only [Bool.false_and]
          have KU' := fun w' hb => (KU w' hb).mono fun e w'' ⟨h1, h2⟩ => (⟨h1, h2 ▸ Below.refl _ _⟩ : _ ∧ Below w'.heap.size w' w'')
          have KC' := KC
          clear h q1 q2 q3 hr et hqs hform ec hm hs hc hx ei KU KC hux hln han
          generalize x.id = id at *
          go_enter Try.func24, Try.ntmps24
          go_wp2_with fail
          refine C.mono ?_
          rintro e w1 ⟨rfl, rfl⟩
          go_wp2_with fail
          have hab : ∀ (s : Above w1) b o, b < w1.heap.size → s.wld.cell? ⟨b, o, none⟩ = w1.cell? ⟨b, o, none⟩ := fun s b o h => s.bel.cell (p := ⟨b, o, none⟩) h
          have hne := above_here w1
          have c43 := cf43
          refine wp_region_above (by kernel_rfl) (by kernel_rfl) ?_
          repeat (first
            | go_big_quiet_skip
            | (go_big_quiet_want; go_big_quiet_op; go_big_quiet_on)
            | (go_big_quiet_want; go_big_quiet_op; apply Exists.intro; refine ⟨fun s => ?_, ?_⟩; (first | exact above_call s (KU' _ s.bel) | exact above_call s (KC' _ s.bel)); go_big_quiet_on))
          refine wpQuiet_nil ?_
          rintro _ ⟨s, rfl⟩
          have HS : Hid (Below w1.heap.size w1 s.wld) := s.bel
          clear hab hne
          go_wp2_with fail
          go_ret
          exact ⟨rfl, HS.out⟩
        · rw [decide_eq_false hcr] at KU
          have e4 : decide (x.cr < 0) = true := decide_eq_true (by omega)
          rw [e4]
          simp only [Bool.true_and]
          have K1 := KU w.drew HB.out
          have KU' := fun w' hb => (KU w' hb).mono fun e w'' ⟨h1, h2⟩ => (⟨h1, h2 ▸ Below.refl _ _⟩ : _ ∧ Below w'.heap.size w' w'')
          have KC' := KC
          clear h q1 q2 q3 hr et hqs hform ec hm hs hc hx ei KU KC hux hln han
          generalize x.id = id at *
          go_enter Try.func24, Try.ntmps24
          go_wp2_with fail
          refine C.mono ?_
          rintro e w1 ⟨rfl, rfl⟩
          go_wp2_with fail
          have hab : ∀ (s : Above w1) b o, b < w1.heap.size → s.wld.cell? ⟨b, o, none⟩ = w1.cell? ⟨b, o, none⟩ := fun s b o h => s.bel.cell (p := ⟨b, o, none⟩) h
          have hne := above_here w1
          have c43 := cf43
          refine wp_region_above (by kernel_rfl) (by kernel_rfl) ?_
          repeat (first
            | go_big_quiet_skip
            | (go_big_quiet_want; go_big_quiet_op; go_big_quiet_on)
            | (go_big_quiet_want; go_big_quiet_op; apply Exists.intro; refine ⟨fun s => ?_, ?_⟩; (first | exact above_call s (KU' _ s.bel) | exact above_call s (KC' _ s.bel)); go_big_quiet_on))
          refine wpQuiet_nil ?_
          rintro _ ⟨s, rfl⟩
          have HS : Hid (Below w1.heap.size w1 s.wld) := s.bel
          clear hab hne
          go_wp2_with fail
          go_ret
          exact ⟨rfl, HS.out⟩
end
end Go.Proofs.Ytgdnklmnchcmeaa
