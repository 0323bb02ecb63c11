/-
  Both lines in one world, and an act beside them: what each pair of calls does, whatever the core.
-/
import Derived.Test.YtdmegoglcnggoaaSd
import Derived.Test.YtdmegoglcnggoaaRc
import Derived.Test.YtdmegoglcnggoaaRd
namespace Go.Proofs.Ytdmegoglcnggoaa
open Go.RowKit
set_option linter.unusedVariables false
set_option maxRecDepth 20000

/-- is there such a core -/
def inN (n : Nat) (core : Int) : Bool := decide (0 ≤ core) && decide (core < (n : Int))
theorem inN_yes {n : Nat} {core : Int} (h : inN n core = true) : ∃ i : Nat, core = (i : Int) ∧ i < n := by
  simp [inN] at h
  exact ⟨core.toNat, by omega, by omega⟩
theorem inN_no {n : Nat} {core : Int} (h : inN n core = false) : core < 0 ∨ (n : Int) ≤ core := by
  simp [inN] at h
  omega
def sendR (n : Nat) (S : Nat → Ln) (core : Int) : Int := if inN n core then (if (S core.toNat).q.length < 16 then 0 else 18) else 2
def sendS (n : Nat) (S : Nat → Ln) (core x : Int) : Nat → Ln := if inN n core then (if (S core.toNat).q.length < 16 then upd S core.toNat ⟨(S core.toNat).q ++ [x], (S core.toNat).ck, (S core.toNat).tm, (S core.toNat).on⟩ else S) else S
def takeX (n : Nat) (S : Nat → Ln) (core : Int) : Int := if inN n core then (S core.toNat).q.headD 0 else 0
def takeB (n : Nat) (S : Nat → Ln) (core : Int) : Bool := inN n core && !(S core.toNat).q.isEmpty
def takeS (n : Nat) (S : Nat → Ln) (core : Int) : Nat → Ln := if inN n core then (if (S core.toNat).q.isEmpty then S else upd S core.toNat ⟨(S core.toNat).q.tail, (S core.toNat).ck, (S core.toNat).tm, (S core.toNat).on⟩) else S
def setR (n : Nat) (core : Int) : Int := if inN n core then 0 else 2
def setS (n : Nat) (S : Nat → Ln) (core x : Int) : Nat → Ln := if inN n core then upd S core.toNat ⟨(S core.toNat).q, (S core.toNat).ck, x, true⟩ else S
def tickB (n : Nat) (S : Nat → Ln) (core x : Int) : Bool := inN n core && dueP (S core.toNat) x
def tickS (n : Nat) (S : Nat → Ln) (core x : Int) : Nat → Ln := if inN n core then upd S core.toNat (tickP (S core.toNat) x) else S
/-- a timer that is not set has no time -/
def ZS (n : Nat) (S : Nat → Ln) : Prop := ∀ i, i < n → (S i).on = false → (S i).tm = 0
section
variable {B : Nat} {w w' : World} {l b n : Nat} {C : Nat → Nat} {S : Nat → Ln} {r d : Nat} {V : Nat → Value}
theorem u_send (h : LW B w l b n C S) (core x : Int) : Calls Try.prog 11 #[.pointer (some ⟨l, 0, none⟩), .int .i64 core, .int .i64 x] w fun e w' => e = .returned (.int .i64 (sendR n S core)) ∧ LW B w' l b n C (sendS n S core x) ∧ Trn (LS b n C) w w' := by
  unfold sendR sendS
  cases hc : inN n core
  · exact (send_off (of_bad h (inN_no hc)) (by decide) x).mono fun e w' ⟨he, hw⟩ => ⟨he, hw ▸ h, hw ▸ Trn.refl _ _⟩
  · obtain ⟨i, rfl, hi⟩ := inN_yes hc
    simp only [if_true, Int.toNat_natCast]
    by_cases hq : (S i).q.length < 16
    · rw [if_pos hq, if_pos hq]
      exact send_room h hi x hq
    · rw [if_neg hq, if_neg hq]
      exact (send_full h hi x (by omega)).mono fun e w' ⟨he, hw⟩ => ⟨he, hw ▸ h, hw ▸ Trn.refl _ _⟩
theorem u_rsend (h : RW B w r d n V S) (core x : Int) : Calls Try.prog 12 #[.pointer (some ⟨r, 0, none⟩), .int .i64 core, .int .i64 x] w fun e w' => e = .returned (.int .i64 (sendR n S core)) ∧ (∃ V', RW B w' r d n V' (sendS n S core x)) ∧ Trn (RS d n V) w w' := by
  unfold sendR sendS
  cases hc : inN n core
  · exact (rsend_bad (has_bad h (inN_no hc)) x).mono fun e w' ⟨he, hw⟩ => ⟨he, ⟨V, hw ▸ h⟩, hw ▸ Trn.refl _ _⟩
  · obtain ⟨i, rfl, hi⟩ := inN_yes hc
    simp only [if_true, Int.toNat_natCast]
    by_cases hq : (S i).q.length < 16
    · rw [if_pos hq, if_pos hq]
      exact rsend_room h hi x hq
    · rw [if_neg hq, if_neg hq]
      exact (rsend_full h hi x (by omega)).mono fun e w' ⟨he, hw⟩ => ⟨he, ⟨V, hw ▸ h⟩, hw ▸ Trn.refl _ _⟩
theorem u_take (h : LW B w l b n C S) (core : Int) : Calls Try.prog 13 #[.pointer (some ⟨l, 0, none⟩), .int .i64 core] w fun e w' => e = .returned (.tuple #[.int .i64 (takeX n S core), .bool (takeB n S core)]) ∧ LW B w' l b n C (takeS n S core) ∧ Trn (LS b n C) w w' := by
  unfold takeX takeB takeS
  cases hc : inN n core
  · exact (take_off (of_bad h (inN_no hc)) (by decide)).mono fun e w' ⟨he, hw⟩ => ⟨he, hw ▸ h, hw ▸ Trn.refl _ _⟩
  · obtain ⟨i, rfl, hi⟩ := inN_yes hc
    simp only [if_true, Int.toNat_natCast, Bool.true_and]
    match hq : (S i).q with
    | [] => exact (take_none h hi hq).mono fun e w' ⟨he, hw⟩ => ⟨he, hw ▸ h, hw ▸ Trn.refl _ _⟩
    | x :: q => exact take_some h hi x q hq
theorem u_rtake (h : RW B w r d n V S) (core : Int) : Calls Try.prog 14 #[.pointer (some ⟨r, 0, none⟩), .int .i64 core] w fun e w' => e = .returned (.tuple #[.int .i64 (takeX n S core), .bool (takeB n S core)]) ∧ (∃ V', RW B w' r d n V' (takeS n S core)) ∧ Trn (RS d n V) w w' := by
  unfold takeX takeB takeS
  cases hc : inN n core
  · exact (rtake_bad (has_bad h (inN_no hc))).mono fun e w' ⟨he, hw⟩ => ⟨he, ⟨V, hw ▸ h⟩, hw ▸ Trn.refl _ _⟩
  · obtain ⟨i, rfl, hi⟩ := inN_yes hc
    simp only [if_true, Int.toNat_natCast, Bool.true_and]
    match hq : (S i).q with
    | [] => exact (rtake_none h hi hq).mono fun e w' ⟨he, hw⟩ => ⟨he, ⟨V, hw ▸ h⟩, hw ▸ Trn.refl _ _⟩
    | x :: q => exact rtake_some h hi x q hq
theorem u_set (h : LW B w l b n C S) (core x : Int) : Calls Try.prog 15 #[.pointer (some ⟨l, 0, none⟩), .int .i64 core, .int .u64 x] w fun e w' => e = .returned (.int .i64 (setR n core)) ∧ LW B w' l b n C (setS n S core x) ∧ Trn (LS b n C) w w' := by
  unfold setR setS
  cases hc : inN n core
  · exact (set_off (of_bad h (inN_no hc)) (by decide) x).mono fun e w' ⟨he, hw⟩ => ⟨he, hw ▸ h, hw ▸ Trn.refl _ _⟩
  · obtain ⟨i, rfl, hi⟩ := inN_yes hc
    exact set_ok h hi x
theorem u_rset (h : RW B w r d n V S) (core x : Int) : Calls Try.prog 16 #[.pointer (some ⟨r, 0, none⟩), .int .i64 core, .int .u64 x] w fun e w' => e = .returned (.int .i64 (setR n core)) ∧ (∃ V', RW B w' r d n V' (setS n S core x)) ∧ Trn (RS d n V) w w' := by
  unfold setR setS
  cases hc : inN n core
  · exact (rset_bad (has_bad h (inN_no hc)) x).mono fun e w' ⟨he, hw⟩ => ⟨he, ⟨V, hw ▸ h⟩, hw ▸ Trn.refl _ _⟩
  · obtain ⟨i, rfl, hi⟩ := inN_yes hc
    exact (rset_ok h hi x).mono fun e w' ⟨he, hR, ht⟩ => ⟨he, ⟨V, hR⟩, ht⟩
theorem u_tick (h : LW B w l b n C S) (core x : Int) (hx : 0 ≤ x ∧ x < 18446744073709551616) : Calls Try.prog 17 #[.pointer (some ⟨l, 0, none⟩), .int .i64 core, .int .u64 x] w fun e w' => e = .returned (.tuple #[.bool (tickB n S core x), .int .i64 (setR n core)]) ∧ LW B w' l b n C (tickS n S core x) ∧ Trn (LS b n C) w w' := by
  unfold setR tickS tickB
  cases hc : inN n core
  · exact (tick_off (of_bad h (inN_no hc)) (by decide) x).mono fun e w' ⟨he, hw⟩ => ⟨he, hw ▸ h, hw ▸ Trn.refl _ _⟩
  · obtain ⟨i, rfl, hi⟩ := inN_yes hc
    exact tick_ok h hi x hx
theorem u_rtick (h : RW B w r d n V S) (core x : Int) (hx : 0 ≤ x ∧ x < 18446744073709551616) : Calls Try.prog 18 #[.pointer (some ⟨r, 0, none⟩), .int .i64 core, .int .u64 x] w fun e w' => e = .returned (.tuple #[.bool (tickB n S core x), .int .i64 (setR n core)]) ∧ (∃ V', RW B w' r d n V' (tickS n S core x)) ∧ Trn (RS d n V) w w' := by
  unfold setR tickS tickB
  cases hc : inN n core
  · exact (rtick_bad (has_bad h (inN_no hc)) x).mono fun e w' ⟨he, hw⟩ => ⟨he, ⟨V, hw ▸ h⟩, hw ▸ Trn.refl _ _⟩
  · obtain ⟨i, rfl, hi⟩ := inN_yes hc
    exact (rtick_ok h hi x hx).mono fun e w' ⟨he, hR, ht⟩ => ⟨he, ⟨V, hR⟩, ht⟩
theorem zs_send (h : ZS n S) (core x : Int) : ZS n (sendS n S core x) := by
  unfold sendS
  split
  · split
    · intro i hi
      by_cases e : i = core.toNat
      · subst e; rw [upd_self]; exact h _ hi
      · rw [upd_other _ _ _ e]; exact h i hi
    · exact h
  · exact h
theorem zs_take (h : ZS n S) (core : Int) : ZS n (takeS n S core) := by
  unfold takeS
  split
  · split
    · exact h
    · intro i hi
      by_cases e : i = core.toNat
      · subst e; rw [upd_self]; exact h _ hi
      · rw [upd_other _ _ _ e]; exact h i hi
  · exact h
theorem zs_set (h : ZS n S) (core x : Int) : ZS n (setS n S core x) := by
  unfold setS
  split
  · intro i hi
    by_cases e : i = core.toNat
    · subst e; rw [upd_self]; exact fun h => by cases h
    · rw [upd_other _ _ _ e]; exact h i hi
  · exact h
theorem zs_tick (h : ZS n S) (core x : Int) : ZS n (tickS n S core x) := by
  unfold tickS
  split
  · intro i hi
    by_cases e : i = core.toNat
    · subst e
      rw [upd_self]
      unfold tickP
      split
      · exact fun _ => rfl
      · exact h _ hi
    · rw [upd_other _ _ _ e]; exact h i hi
  · exact h
end
/-- both lines, and an act in the block A -/
structure PY (w y : World) (l b n : Nat) (C : Nat → Nat) (r d : Nat) (S1 S2 : Nat → Ln) (A : Nat) (k c e x : Int) : Prop where
  lw : LW w.heap.size y l b n C S1
  rw : ∃ V, RW w.heap.size y r d n V S2
  bel : Below w.heap.size w y
  act : y.heap[A]? = some (.cells #[.int .i64 k, .int .i64 c, .int .i64 e, .int .u64 x] 33 (0, 0))
section
variable {B : Nat} {w w' y y' : World} {l b n : Nat} {C : Nat → Nat} {S S1 S2 : Nat → Ln} {r d : Nat} {V : Nat → Value} {A : Nat} {k c e x : Int}
theorem not_ls (h : LW B y l b n C S) {t : TypeId} {cur : Array Value} {z : Nat} (hz : y.heap[z]? = some (.cells cur t (0, 0))) (ht : t ≠ 67) : ¬ LS b n C z := by
  rintro (rfl | ⟨i, hi, rfl⟩)
  · obtain ⟨cu, h1, _⟩ := h.rows
    rw [h1] at hz
    simp at hz
    exact ht hz.2.symm
  · obtain ⟨s, r, hc⟩ := h.ch i hi
    rw [hc] at hz
    cases hz
theorem rw_of_ls (hL : LW B y l b n C S) (hR : RW B y r d n V S2) (ht : Trn (LS b n C) y y') : RW B y' r d n V S2 := by
  refine hR.keep fun z hz hs => ht.block z hz ?_
  rcases hs with rfl | rfl | ⟨i, hi, hv⟩
  · exact not_ls hL hR.ob (by decide)
  · obtain ⟨cur, h1, _⟩ := hR.rows
    exact not_ls hL h1 (by decide)
  · obtain ⟨cur, h1⟩ := (hR.qs i hi).blk z hv
    exact not_ls hL h1 (by decide)
theorem not_rs (h : RW B y r d n V S) {z : Nat} {o : Obj} (hz : y.heap[z]? = some o) (ho : ∀ cur t f, o = .cells cur t f → t ≠ 51 ∧ t ≠ 3) : ¬ RS d n V z := by
  rintro (rfl | ⟨i, hi, hv⟩)
  · obtain ⟨cu, h1, _⟩ := h.rows
    rw [h1] at hz
    cases hz
    exact (ho _ _ _ rfl).1 rfl
  · obtain ⟨cu, h1⟩ := (h.qs i hi).blk z hv
    rw [h1] at hz
    cases hz
    exact (ho _ _ _ rfl).2 rfl
theorem lw_of_rs (hR : RW B y r d n V S2) (hL : LW B y l b n C S) (ht : Trn (RS d n V) y y') : LW B y' l b n C S := by
  refine hL.keep fun z hz hs => ht.block z hz ?_
  rcases hs with rfl | rfl | ⟨i, hi, rfl⟩
  · exact not_rs hR hL.ob (fun _ _ _ e => by cases e; decide)
  · obtain ⟨cur, h1, _⟩ := hL.rows
    exact not_rs hR h1 (fun _ _ _ e => by cases e; decide)
  · obtain ⟨s, r', h1⟩ := hL.ch i hi
    exact not_rs hR h1 (fun _ _ _ e => by cases e)
theorem PY.left (h : PY w y l b n C r d S1 S2 A k c e x) {S' : Nat → Ln} (hL : LW w.heap.size y' l b n C S') (ht : Trn (LS b n C) y y') : PY w y' l b n C r d S' S2 A k c e x := by
  obtain ⟨V, hR⟩ := h.rw
  exact ⟨hL, ⟨V, rw_of_ls h.lw hR ht⟩, h.bel.trans (h.lw.to ht), (ht.block A (lt_of_heap h.act) (not_ls h.lw h.act (by decide))).trans h.act⟩
theorem PY.right (h : PY w y l b n C r d S1 S2 A k c e x) {S' : Nat → Ln} (hR : RW w.heap.size y r d n V S2) (hR' : ∃ V', RW w.heap.size y' r d n V' S') (ht : Trn (RS d n V) y y') : PY w y' l b n C r d S1 S' A k c e x :=
  ⟨lw_of_rs hR h.lw ht, hR', h.bel.trans (hR.to ht), (ht.block A (lt_of_heap h.act) (not_rs hR h.act (fun _ _ _ e => by cases e; decide))).trans h.act⟩
theorem PY.a0 (h : PY w y l b n C r d S1 S2 A k c e x) : y.cell? ⟨A, 0, none⟩ = some (.int .i64 k) := by rw [cell_at h.act]; rfl
theorem PY.a1 (h : PY w y l b n C r d S1 S2 A k c e x) : y.cell? ⟨A, 1, none⟩ = some (.int .i64 c) := by rw [cell_at h.act]; rfl
theorem PY.a2 (h : PY w y l b n C r d S1 S2 A k c e x) : y.cell? ⟨A, 2, none⟩ = some (.int .i64 e) := by rw [cell_at h.act]; rfl
theorem PY.a3 (h : PY w y l b n C r d S1 S2 A k c e x) : y.cell? ⟨A, 3, none⟩ = some (.int .u64 x) := by rw [cell_at h.act]; rfl
theorem PY.al (h : PY w y l b n C r d S1 S2 A k c e x) : A < y.heap.size := lt_of_heap h.act
theorem PY.drew (h : PY w y l b n C r d S1 S2 A k c e x) (m : Nat) : PY w (y.drewN m) l b n C r d S1 S2 A k c e x := by
  obtain ⟨V, hR⟩ := h.rw
  exact ⟨h.lw.keep fun _ _ _ => rfl, ⟨V, hR.keep fun _ _ _ => rfl⟩, ⟨h.bel.os, h.bel.tape, h.bel.output, h.bel.size, h.bel.block⟩, h.act⟩
theorem PY.send (h : PY w y l b n C r d S1 S2 A k c e x) : Calls Try.prog 11 #[.pointer (some ⟨l, 0, none⟩), .int .i64 c, .int .i64 e] y fun q w' => q = .returned (.int .i64 (sendR n S1 c)) ∧ PY w w' l b n C r d (sendS n S1 c e) S2 A k c e x :=
  (u_send h.lw c e).mono fun q w' ⟨he, hL, ht⟩ => ⟨he, h.left hL ht⟩
theorem PY.rsend (h : PY w y l b n C r d S1 S2 A k c e x) : Calls Try.prog 12 #[.pointer (some ⟨r, 0, none⟩), .int .i64 c, .int .i64 e] y fun q w' => q = .returned (.int .i64 (sendR n S2 c)) ∧ PY w w' l b n C r d S1 (sendS n S2 c e) A k c e x := by
  obtain ⟨V, hR⟩ := h.rw
  exact (u_rsend hR c e).mono fun q w' ⟨he, hR', ht⟩ => ⟨he, h.right hR hR' ht⟩
theorem PY.take (h : PY w y l b n C r d S1 S2 A k c e x) : Calls Try.prog 13 #[.pointer (some ⟨l, 0, none⟩), .int .i64 c] y fun q w' => q = .returned (.tuple #[.int .i64 (takeX n S1 c), .bool (takeB n S1 c)]) ∧ PY w w' l b n C r d (takeS n S1 c) S2 A k c e x :=
  (u_take h.lw c).mono fun q w' ⟨he, hL, ht⟩ => ⟨he, h.left hL ht⟩
theorem PY.rtake (h : PY w y l b n C r d S1 S2 A k c e x) : Calls Try.prog 14 #[.pointer (some ⟨r, 0, none⟩), .int .i64 c] y fun q w' => q = .returned (.tuple #[.int .i64 (takeX n S2 c), .bool (takeB n S2 c)]) ∧ PY w w' l b n C r d S1 (takeS n S2 c) A k c e x := by
  obtain ⟨V, hR⟩ := h.rw
  exact (u_rtake hR c).mono fun q w' ⟨he, hR', ht⟩ => ⟨he, h.right hR hR' ht⟩
theorem PY.set (h : PY w y l b n C r d S1 S2 A k c e x) : Calls Try.prog 15 #[.pointer (some ⟨l, 0, none⟩), .int .i64 c, .int .u64 x] y fun q w' => q = .returned (.int .i64 (setR n c)) ∧ PY w w' l b n C r d (setS n S1 c x) S2 A k c e x :=
  (u_set h.lw c x).mono fun q w' ⟨he, hL, ht⟩ => ⟨he, h.left hL ht⟩
theorem PY.rset (h : PY w y l b n C r d S1 S2 A k c e x) : Calls Try.prog 16 #[.pointer (some ⟨r, 0, none⟩), .int .i64 c, .int .u64 x] y fun q w' => q = .returned (.int .i64 (setR n c)) ∧ PY w w' l b n C r d S1 (setS n S2 c x) A k c e x := by
  obtain ⟨V, hR⟩ := h.rw
  exact (u_rset hR c x).mono fun q w' ⟨he, hR', ht⟩ => ⟨he, h.right hR hR' ht⟩
theorem PY.tick (h : PY w y l b n C r d S1 S2 A k c e x) (hx : 0 ≤ x ∧ x < 18446744073709551616) : Calls Try.prog 17 #[.pointer (some ⟨l, 0, none⟩), .int .i64 c, .int .u64 x] y fun q w' => q = .returned (.tuple #[.bool (tickB n S1 c x), .int .i64 (setR n c)]) ∧ PY w w' l b n C r d (tickS n S1 c x) S2 A k c e x :=
  (u_tick h.lw c x hx).mono fun q w' ⟨he, hL, ht⟩ => ⟨he, h.left hL ht⟩
theorem PY.rtick (h : PY w y l b n C r d S1 S2 A k c e x) (hx : 0 ≤ x ∧ x < 18446744073709551616) : Calls Try.prog 18 #[.pointer (some ⟨r, 0, none⟩), .int .i64 c, .int .u64 x] y fun q w' => q = .returned (.tuple #[.bool (tickB n S2 c x), .int .i64 (setR n c)]) ∧ PY w w' l b n C r d S1 (tickS n S2 c x) A k c e x := by
  obtain ⟨V, hR⟩ := h.rw
  exact (u_rtick hR c x hx).mono fun q w' ⟨he, hR', ht⟩ => ⟨he, h.right hR hR' ht⟩
theorem PY.off (h : PY w y l b n C r d S1 S2 A k c e x) (hc : inN n c = false) : Off (.pointer (some ⟨l, 0, none⟩)) c 2 y := of_bad h.lw (inN_no hc)
theorem PY.nohas (h : PY w y l b n C r d S1 S2 A k c e x) (hc : inN n c = false) : NoHas r c y := by
  obtain ⟨V, hR⟩ := h.rw
  exact has_bad hR (inN_no hc)
end
end Go.Proofs.Ytdmegoglcnggoaa
