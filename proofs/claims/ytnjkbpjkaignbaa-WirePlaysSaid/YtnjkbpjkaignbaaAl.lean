/-
  What sendToAll, Send and Inject do.
-/
import Derived.Test.YtnjkbpjkaignbaaSd
namespace Go.Proofs.Ytnjkbpjkaignbaa
open Go.RowKit Go.Conc
set_option linter.unusedVariables false
set_option maxRecDepth 20000

/-- what waits when ports below j have been sent to -/
def allA (G : Nat → Int) (A : Nat → List (Int × List Int)) (i : Nat) (bs : List Int) (j : Nat) : Nat → List (Int × List Int) := fun k => if k < j ∧ i ≠ k ∧ G i = G k then addA (A k) (i, bs) else A k
/-- how many of them have got it -/
def allN (G : Nat → Int) (A : Nat → List (Int × List Int)) (i : Nat) : Nat → Nat
  | 0 => 0
  | j + 1 => allN G A i j + if (i ≠ j ∧ G i = G j) ∧ (A j).length < 16 then 1 else 0
theorem allN_le (G : Nat → Int) (A : Nat → List (Int × List Int)) (i : Nat) : ∀ j, allN G A i j ≤ j
  | 0 => Nat.le_refl _
  | j + 1 => by
    have := allN_le G A i j
    unfold allN
    split <;> omega
theorem allA_zero (G : Nat → Int) (A : Nat → List (Int × List Int)) (i : Nat) (bs : List Int) : allA G A i bs 0 = A := by funext k; simp [allA]
theorem allA_at (G : Nat → Int) (A : Nat → List (Int × List Int)) (i : Nat) (bs : List Int) (j : Nat) : allA G A i bs j j = A j := by simp [allA]
theorem allA_yes (G : Nat → Int) (A : Nat → List (Int × List Int)) (i : Nat) (bs : List Int) (j : Nat) (h : i ≠ j ∧ G i = G j) : upd (allA G A i bs j) j (addA (A j) (i, bs)) = allA G A i bs (j + 1) := by
  funext k
  by_cases hk : k = j
  · subst hk; rw [upd_self]; simp [allA, h.1, h.2]
  · rw [upd_other _ _ _ hk]
    by_cases hlt : k < j
    · have : k < j + 1 := by omega
      simp [allA, hlt, this]
    · have : ¬ k < j + 1 := by omega
      simp [allA, hlt, this]
theorem allA_no (G : Nat → Int) (A : Nat → List (Int × List Int)) (i : Nat) (bs : List Int) (j : Nat) (h : ¬ (i ≠ j ∧ G i = G j)) : allA G A i bs j = allA G A i bs (j + 1) := by
  funext k
  by_cases hk : k = j
  · subst hk; simp [allA]; intro h1 h2; exact absurd ⟨h1, h2⟩ h
  · by_cases hlt : k < j
    · have : k < j + 1 := by omega
      simp [allA, hlt, this]
    · have : ¬ k < j + 1 := by omega
      simp [allA, hlt, this]
section
variable {B : Nat} {w w' : World} {l b n : Nat} {C : Nat → Nat} {Gr : Nat → Int} {A : Nat → List (Int × List Int)} {N : Nat → Prop}
theorem WX.u8 (h : WX B w l b n C Gr A N) {k o : Nat} {z : Int} (hc : w.cell? ⟨k, o, none⟩ = some (.int .u8 z)) : ¬ WS b n C k := by
  obtain ⟨Q, h, e⟩ := h
  rintro (rfl | ⟨i, hi, rfl⟩)
  · obtain ⟨cur, r1, r2, r3⟩ := h.rows
    rw [cell_at r1] at hc
    have ho : o < n * 2 := by have := (Array.getElem?_eq_some_iff.1 hc).1; omega
    obtain ⟨q0, q1⟩ := r3 (o / 2) (by omega)
    rcases Nat.mod_two_eq_zero_or_one o with hm | hm
    · rw [show o / 2 * 2 = o by omega, hc] at q0; simp at q0
    · rw [show o / 2 * 2 + 1 = o by omega, hc] at q1; simp at q1
  · obtain ⟨s, r, hcc⟩ := h.ch i hi
    simp [World.cell?, hcc] at hc
theorem SL.trn {S : Nat → Prop} {a : Option Addr} {m : Nat} {bs : List Int} (h : SL w a m bs) (hS : ∀ k o z, w.cell? ⟨k, o, none⟩ = some (.int .u8 z) → ¬ S k) (ht : Trn S w w') : SL w' a m bs := by
  obtain ⟨h1, h2, h3⟩ := h
  refine ⟨h1, h2, ?_⟩
  rcases h3 with h3 | ⟨b, off, rfl, hlt, hc⟩
  · exact .inl h3
  · refine .inr ⟨b, off, rfl, Nat.lt_of_lt_of_le hlt ht.size, fun i hi => ?_⟩
    have := hc i hi
    have hb := ht.block b hlt (hS _ _ _ this)
    rw [← this]
    simp only [World.cell?, hb]
theorem WX.drewN (h : WX B w l b n C Gr A N) (k : Nat) : WX B (w.drewN k) l b n C Gr A N := by
  obtain ⟨Q, h, e⟩ := h
  exact ⟨Q, h.keep (Nat.le_refl _) fun _ _ _ => rfl, e⟩
theorem trn_drewN {S : Nat → Prop} (h : Trn S w w') (k : Nat) : Trn S w (w'.drewN k) := ⟨h.os, h.tape, h.output, h.size, h.block⟩
theorem WX.cs (h : WX B w l b n C Gr A N) : w.cell? ⟨l, 0, none⟩ = some (.slice (some ⟨b, 0, none⟩) n n) ∧ l < w.heap.size ∧ b < w.heap.size ∧ 1 ≤ n ∧ n ≤ 32 := by
  obtain ⟨Q, h, e⟩ := h
  exact ⟨h.c, h.lt, h.blt, h.n1, h.n32⟩
/-- between two rounds of sendToAll -/
structure AR (B : Nat) (w wr : World) (l b n : Nat) (C : Nat → Nat) (Gr : Nat → Int) (A : Nat → List (Int × List Int)) (N : Nat → Prop) (i : Nat) (a : Option Addr) (bs : List Int) (j : Nat) : Prop where
  x : WX B wr l b n C Gr (allA Gr A i bs j) N
  t : Trn (WS b n C) w wr
  s : SL wr a bs.length bs
theorem AR.no {wr : World} {i : Nat} {a : Option Addr} {bs : List Int} {j : Nat} (h : AR B w wr l b n C Gr A N i a bs j) (hn : ¬ (i ≠ j ∧ Gr i = Gr j)) (k : Nat) : AR B w (wr.drewN k) l b n C Gr A N i a bs (j + 1) := by
  refine ⟨?_, trn_drewN h.t k, h.s.trn (S := fun _ => False) (fun _ _ _ _ => id) (trn_drewN (Trn.refl _ _) k)⟩
  rw [← allA_no _ _ _ _ _ hn]
  exact h.x.drewN k
theorem AR.yes {wr w2 : World} {i : Nat} {a : Option Addr} {bs : List Int} {j : Nat} (h : AR B w wr l b n C Gr A N i a bs j) (hy : i ≠ j ∧ Gr i = Gr j) (k : Nat) (hx : WX B w2 l b n C Gr (upd (allA Gr A i bs j) j (addA (A j) ((i : Int), bs))) N) (ht : Trn (WS b n C) (wr.drewN k) w2) : AR B w w2 l b n C Gr A N i a bs (j + 1) := by
  have t1 : Trn (WS b n C) wr w2 := (trn_drewN (Trn.refl _ _) k).trans ht
  refine ⟨?_, h.t.trans t1, h.s.trn (fun k o z hc => h.x.u8 hc) t1⟩
  rw [← allA_yes _ _ _ _ _ hy]
  exact hx
set_option maxHeartbeats 1600000 in
theorem all_ok (h : WX B w l b n C Gr A N) {i : Nat} (hi : i < n) (a : Option Addr) (c : Nat) (bs : List Int) (hs : SL w a bs.length bs) (hm : bs.length ≤ 2048) :
    Calls Try.prog 21 #[.pointer (some ⟨l, 0, none⟩), .int .i64 i, .slice a bs.length c] w fun e w' => e = .returned (.int .i64 (allN Gr A i n)) ∧ WX B w' l b n C Gr (allA Gr A i bs n) N ∧ Trn (WS b n C) w w' := by
  have E0 : Hid (AR B w w l b n C Gr A N i a bs 0) := ⟨by rw [allA_zero]; exact h, Trn.refl _ _, hs⟩
  obtain ⟨c0, hl, hb, hn1, hn⟩ := h.cs
  clear h hs
  go_enter Try.func21, Try.ntmps21
  go_wp2_with fail
  clear c0 hl hb
  go_loopw [7, 14] (fun q u wr => ∃ j : Nat, j ≤ n ∧ q = .int .i64 (allN Gr A i j) ∧ u = .int .i64 j ∧ Hid (AR B w wr l b n C Gr A N i a bs j)) (fun _ u _ => n - (intOf u).toNat)
  case atStart => exact ⟨0, by omega, rfl, rfl, E0⟩
  case round =>
    obtain ⟨j, hj, rfl, rfl, HE⟩ := hrel
    clear E0
    by_cases hjn : j < n
    · have hjn' : (j : Int) < (n : Int) := by omega
      have J := xjoined HE.out.x hi hjn
      by_cases hh : i ≠ j ∧ Gr i = Gr j
      · rw [decide_eq_true hh] at J
        go_wp2_with fail
        refine J.mono ?_
        rintro e w1 ⟨rfl, k, rfl⟩
        clear J
        have x1 := HE.out.x.drewN k
        obtain ⟨c0, hl, hb, _, _⟩ := x1.cs
        have PT := xput x1 hjn (i : Int) a c bs (HE.out.s.trn (S := fun _ => False) (fun _ _ _ _ => id) (trn_drewN (Trn.refl _ _) k)) hm
        rw [allA_at] at PT
        have HY : Hid (i ≠ j ∧ Gr i = Gr j) := hh
        clear x1 hh
        go_wp2_with fail
        refine PT.mono ?_
        rintro e w2 ⟨rfl, x2, t2⟩
        have HE2 : Hid (AR B w w2 l b n C Gr A N i a bs (j + 1)) := HE.out.yes HY.out k x2 t2
        have hle := allN_le Gr A i j
        have eN : allN Gr A i (j + 1) = allN Gr A i j + if (A j).length < 16 then 1 else 0 := by simp [allN, HY.out.1, HY.out.2]
        clear PT x2 t2 HE c0 hl hb
        by_cases hr : (A j).length < 16
        · rw [decide_eq_true hr]
          rw [if_pos hr] at eN
          go_wp2_with fail
          go_roundw
          case rel => exact ⟨j + 1, by omega, by rw [eN]; go_num, by go_num, HE2⟩
          case measure => simp [intOf]; omega
        · rw [decide_eq_false hr]
          rw [if_neg hr] at eN
          go_wp2_with fail
          go_roundw
          case rel => exact ⟨j + 1, by omega, by rw [eN]; rfl, by go_num, HE2⟩
          case measure => simp [intOf]; omega
      · rw [decide_eq_false hh] at J
        have eN : allN Gr A i (j + 1) = allN Gr A i j := by simp [allN]; intro h1 h2; exact absurd ⟨h1, h2⟩ hh
        go_wp2_with fail
        refine J.mono ?_
        rintro e w1 ⟨rfl, k, rfl⟩
        have HE2 : Hid (AR B w (wr.drewN k) l b n C Gr A N i a bs (j + 1)) := HE.out.no hh k
        clear J HE hh
        go_wp2_with fail
        go_roundw
        case rel => exact ⟨j + 1, by omega, by rw [eN], by go_num, HE2⟩
        case measure => simp [intOf]; omega
    · obtain rfl : n = j := by omega
      go_wp2_with fail
      go_ret
      exact ⟨rfl, HE.out.x, HE.out.t⟩
end
end Go.Proofs.Ytnjkbpjkaignbaa
