/-
  What the document's Send does.
-/
import Derived.Test.YtnjkbpjkaignbaaRe
namespace Go.Proofs.Ytnjkbpjkaignbaa
open Go.RowKit
set_option linter.unusedVariables false
set_option maxRecDepth 20000

section
variable {B : Nat} {w w' : World} {r g d n gc : Nat} {V : Nat → Value} {Gr : Nat → Int} {A : Nat → List (Int × List Int)}
/-- between two rounds of the document's Send to all -/
structure RR (B : Nat) (w wr : World) (r g d n gc : Nat) (Gr : Nat → Int) (A : Nat → List (Int × List Int)) (i : Nat) (bs : List Int) (j : Nat) : Prop where
  x : RZ B wr r g d n gc Gr (allA Gr A i bs j)
  t : RT B w wr
set_option maxHeartbeats 2000000 in
theorem rsend_all (h : RZ B w r g d n gc Gr A) {i : Nat} (hi : i < n) (to : Int) (hto : to < 0) (hgi : ¬ Gr i < 0) (a : Option Addr) (m c : Nat) (bs : List Int) (hm : m ≤ 2048) (hs : ∀ w', Below B w w' → SL w' a m bs) :
    Calls Try.prog 11 #[.pointer (some ⟨r, 0, none⟩), .int .i64 i, .int .i64 to, .slice a m c] w fun e w' => e = .returned (.tuple #[.int .i64 (allN Gr A i n), .int .i64 0]) ∧ RZ B w' r g d n gc Gr (allA Gr A i bs n) ∧ RT B w w' := by
  have H : Hid (IsHas r i w) := xhas_ok h hi
  have HB : Hid (B ≤ w.heap.size) := h.bw
  have HS : Hid (∀ w', Below B w w' → SL w' a m bs) := hs
  have E0 : Hid (∀ k, RR B w (w.drewN k) r g d n gc Gr A i bs 0) := fun k => ⟨by rw [allA_zero]; exact h.drewN k, RT.drewN w k⟩
  obtain ⟨c0, hl, hgl, hn1, hn, hgs⟩ := h.cs
  have ci := hgs i hi
  have hi' : (i : Int) < (n : Int) := by omega
  have t1 : ¬ (n : Int) ≤ to := by omega
  have t2 : ¬ (2048 : Int) < (m : Int) := by omega
  have t3 : ¬ 0 ≤ to := by omega
  clear h hs hgs
  obtain ⟨z, hz⟩ : ∃ z, Gr i = z := ⟨_, rfl⟩
  rw [hz] at ci hgi
  clear hz
  have u1 : decide (z < 0) = false := decide_eq_false hgi
  have u2 : decide (0 ≤ to) = false := decide_eq_false t3
  go_enter Try.func11, Try.ntmps11
  go_wp2_with fail
  refine Calls.mono H.out ?_
  rintro e w ⟨rfl, rfl⟩
  go_wp2_with fail
  go_quiet (fail)
  go_wp2_with fail
  clear c0 hl hgl ci
  go_loopw [10, 11] (fun q u wr => ∃ j : Nat, j ≤ n ∧ q = .int .i64 (allN Gr A i j) ∧ u = .int .i64 j ∧ Hid (RR B w wr r g d n gc Gr A i bs j)) (fun _ u _ => n - (intOf u).toNat)
  case atStart => exact ⟨0, by omega, rfl, rfl, E0.out _⟩
  case round =>
    obtain ⟨j, hj, rfl, rfl, HE⟩ := hrel
    clear E0
    obtain ⟨c0, hl, hgl, _, _, hgs⟩ := HE.out.x.cs
    have ci := hgs i hi
    by_cases hjn : j < n
    · have hjn' : (j : Int) < (n : Int) := by omega
      have cj := hgs j hjn
      clear hgs
      by_cases hh : i ≠ j ∧ Gr i = Gr j
      · have e1 : ((j : Int) != (i : Int)) = true := by have := hh.1; simp; omega
        have e2 : ¬ ((j : Int) = (i : Int)) := by have := hh.1; omega
        have HY : Hid (i ≠ j ∧ Gr i = Gr j) := hh
        rw [← hh.2] at cj
        clear hh
        have PT := fun y (hy : y = wr.drew) => xrput (B := B) (w := y) (r := r) (g := g) (d := d) (n := n) (gc := gc) (Gr := Gr) (A := allA Gr A i bs j) (hy ▸ HE.out.x.drewN 1) hjn (i : Int) a m c bs (HS.out _ (hy ▸ (HE.out.t.trans (RT.drewN wr 1)).below HB.out))
        have PT := PT wr.drew rfl
        rw [allA_at] at PT
        obtain ⟨z1, HZ1⟩ : ∃ z1, Hid (Gr i = z1) := ⟨_, rfl⟩
        rw [HZ1.out] at cj ci
        have f0 : wr.drew.cell? ⟨r, 0, none⟩ = some (.slice (some ⟨g, 0, none⟩) n gc) ∧ wr.drew.cell? ⟨g, j, none⟩ = some (.int .i64 z1) ∧ wr.drew.cell? ⟨g, i, none⟩ = some (.int .i64 z1) := ⟨c0, cj, ci⟩
        have hle := allN_le Gr A i j
        have eN : allN Gr A i (j + 1) = allN Gr A i j + if (A j).length < 16 then 1 else 0 := by simp [allN, HY.out.1, HY.out.2]
        obtain ⟨bb, HBB⟩ : ∃ bb, Hid (decide ((A j).length < 16) = bb) := ⟨_, rfl⟩
        rw [HBB.out] at PT
        go_wp2_with fail
        go_region_held2 (fun w' => w'.cell? ⟨r, 0, none⟩ = some (.slice (some ⟨g, 0, none⟩) n gc) ∧ w'.cell? ⟨g, j, none⟩ = some (.int .i64 z1) ∧ w'.cell? ⟨g, i, none⟩ = some (.int .i64 z1)) (first | exact f0 | exact f1)
          (first | (go_at_call 23; refine PT.mono ?_; rintro e w2 ⟨rfl, x2, t2⟩; obtain ⟨g0, _, _, _, _, gg⟩ := x2.cs; (have f1 : w2.cell? ⟨r, 0, none⟩ = some (.slice (some ⟨g, 0, none⟩) n gc) ∧ w2.cell? ⟨g, j, none⟩ = some (.int .i64 z1) ∧ w2.cell? ⟨g, i, none⟩ = some (.int .i64 z1) := ⟨g0, by rw [gg j hjn, ← HY.out.2, HZ1.out], by rw [gg i hi, HZ1.out]⟩)))
        have HE2 : Hid (RR B w w2 r g d n gc Gr A i bs (j + 1)) := ⟨by rw [← allA_yes _ _ _ _ _ HY.out]; exact x2, HE.out.t.trans ((RT.drewN wr 1).trans t2)⟩
        clear PT x2 t2 HE f0 f1 c0 hl hgl ci cj g0 gg
        cases bb
        · have hr : ¬ (A j).length < 16 := of_decide_eq_false HBB.out
          rw [if_neg hr] at eN
          clear HBB
          go_wp2_with fail
          go_roundw
          case rel => exact ⟨j + 1, by omega, by rw [eN]; rfl, by go_num, HE2⟩
          case measure => simp [intOf]; omega
        · have hr : (A j).length < 16 := of_decide_eq_true HBB.out
          rw [if_pos hr] at eN
          clear HBB
          go_wp2_with fail
          go_roundw
          case rel => exact ⟨j + 1, by omega, by rw [eN]; go_num, by go_num, HE2⟩
          case measure => simp [intOf]; omega
      · have eN : allN Gr A i (j + 1) = allN Gr A i j := by simp [allN]; intro h1 h2; exact absurd ⟨h1, h2⟩ hh
        have HE2 : Hid (∀ k, RR B w (wr.drewN k) r g d n gc Gr A i bs (j + 1)) := fun k => ⟨by rw [← allA_no _ _ _ _ _ hh]; exact HE.out.x.drewN k, HE.out.t.trans (RT.drewN wr k)⟩
        obtain ⟨t, ht, hw⟩ : ∃ t : Bool, ((j : Int) != (i : Int)) = t ∧ (t = true → ¬ Gr j = Gr i) := ⟨_, rfl, fun h e => hh ⟨by simp at h; omega, e.symm⟩⟩
        clear hh HE
        cases t
        case' false => have e2 : (j : Int) = (i : Int) := by simpa using ht
        case' true =>
          have e2 : ¬ (j : Int) = (i : Int) := by simpa using ht
          have e3 := hw rfl
        all_goals
          clear hw
          generalize Gr j = z1 at *
          generalize Gr i = z2 at *
          go_wp2_with fail
          go_quiet (fail)
          clear c0 hl hgl ci cj e2 ht
          go_wp2_with fail
          go_roundw
          case rel => exact ⟨j + 1, by omega, by rw [eN], by go_num, HE2.out _⟩
          case measure => simp [intOf]; omega
    · obtain rfl : n = j := by omega
      clear hgs
      go_wp2_with fail
      go_ret2
      exact ⟨rfl, HE.out.x, HE.out.t⟩
end
end Go.Proofs.Ytnjkbpjkaignbaa
