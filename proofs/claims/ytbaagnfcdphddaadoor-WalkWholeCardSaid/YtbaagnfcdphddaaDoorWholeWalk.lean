/-
  A second stage that has all pages lets each address through to its own place; without it none goes through; more bits than there are none do: the walk of WalkWhole.
-/
import Derived.Test.YtbaagnfcdphddaaDoorWhole2
import Derived.Test.YtbaagnfcdphddaaDoorSR
namespace Go.Proofs.YtbaagnfcdphddaaDoor
open Go.RowKit
set_option linter.unusedVariables false
set_option maxRecDepth 20000

/-- a slice of numbers that came in -/
def IntsIn (w : World) (ad : Option Addr) (n : Nat) (fs : List Int) : Prop :=
  fs.length = n ∧ (n = 0 ∨ ∃ B off, ad = some ⟨B, off, none⟩ ∧ B < w.heap.size ∧ ∀ i f, fs[i]? = some f → w.cell? ⟨B, off + i, none⟩ = some (.int .i64 f))
theorem IntsIn.below {w w' : World} {ad : Option Addr} {n : Nat} {fs : List Int} {N : Nat} (h : IntsIn w ad n fs) (hN : w.heap.size ≤ N) (hb : Below N w w') : IntsIn w' ad n fs :=
  ⟨h.1, h.2.imp id (fun ⟨B, off, h2, h3, h4⟩ => ⟨B, off, h2, Nat.lt_of_lt_of_le h3 hb.size, fun i f hi => ((bcell hb).1 B _ (by omega)).trans (h4 i f hi)⟩)⟩

theorem pages_next (fs : List Int) (k : Nat) (f : Int) (hf : fs[k]? = some f) : pagesS 0 (fs.take (k + 1)) = pagesS 0 (fs.take k) ++ [pageS k f] := by
  have h := pages_split (fs.take (k + 1)) 0 k f (by rw [List.getElem?_take_of_lt (by omega)]; exact hf)
  have hlt := (List.getElem?_eq_some_iff.1 hf).1
  rw [h, List.take_take, show min k (k + 1) = k by omega, List.drop_take]
  simp [pagesS]

theorem acc3 (a : Int) : ∃ A, (wrap64 (a.tmod 3 + 3)).tmod 3 = A ∧ (A = 0 ∨ A = 1 ∨ A = 2) := by
  refine ⟨_, rfl, ?_⟩
  have h1 : a.tmod 3 < 3 := Int.tmod_lt_of_pos a (by decide)
  have h2 : -3 < a.tmod 3 := by
    rcases Int.le_total 0 a with h | h
    · have := Int.tmod_nonneg 3 h; omega
    · have h3 := Int.tmod_lt_of_pos (-a) (show (0 : Int) < 3 by decide)
      rw [Int.neg_tmod] at h3
      omega
  rw [IntWalk.wrap64_in _ ⟨by omega, by omega⟩, Int.tmod_eq_emod_of_nonneg (by omega)]
  omega
theorem fault_first (a : Int) : 12 ≤ faultP a 12 13 15 ∧ faultP a 12 13 15 ≤ 15 := by
  unfold faultP
  split
  · decide
  · split <;> decide
theorem fault_second (a : Int) : 20 ≤ faultP a 20 21 23 := by
  unfold faultP
  split
  · decide
  · split <;> decide

namespace walkWhole
/-- the entries are laid, and stored -/
def Laid (W w : World) (b g : Nat) (fs : List Int) : Prop := Below W.heap.size W w ∧ MM w b g (memOf (wholeS fs))

set_option maxHeartbeats 3200000 in
theorem walk (ad : Option Addr) (n cap : Nat) (fs : List Int) (t a : Int) (W : World) (hz : SZ W) (hbt : BT W) (hs : IntsIn W ad n fs) (hcap : n ≤ cap) (hm : cap ≤ 9223372036854775807)
    (h0 : 0 ≤ t) (h1 : t < 18446744073709551616) (ha0 : -9223372036854775808 ≤ a) (ha1 : a < 9223372036854775808) :
    Calls Tryd.prog 4 #[.slice ad n cap, .int .u64 t, .int .i64 a] W fun e W' => e = .returned (.bool true) ∧ Below W.heap.size W W' := by
  have HZ : Hid (SZ W) := hz
  have HT : Hid (BT W) := hbt
  have HS : Hid (IntsIn W ad n fs) := hs
  clear hz hbt hs
  obtain ⟨v1, w1, hrun, hsr⟩ := (SR.nil W).push rootS (by simp) ⟨by decide, by decide⟩
  have HSR : Hid (SR W w1 v1 [rootS]) := hsr
  simp only [slC, rootS] at hrun
  clear hsr
  go_enter Tryd.func4, Tryd.ntmps4
  go_wp2_with (at_builtin; refine wpList_append_run rfl _ _ 22 rfl _ _ v1 w1 rfl rfl hrun ?_)
  clear hrun
  have hat : bits .and .u64 t 16383 = t % 16384 := bits_mask .u64 64 (by decide) wraps_u64 14 (by decide) t h0 (by omega)
  have hT0 : 0 ≤ t % 16384 := by omega
  have hT1 : t % 16384 < 16384 := by omega
  generalize t % 16384 = T at *
  obtain ⟨A, eA', hA⟩ := acc3 a
  have EA : Hid (_) := eA'
  clear eA'
  obtain ⟨pj, hpj⟩ := Int.eq_ofNat_of_zero_le (show 0 ≤ T / 256 by omega)
  have HPW : Hid (wrap64 (pj : Int) = pj) := IntWalk.wrap64_in _ ⟨by omega, by omega⟩
  have HQ1 : Hid (IntKind.u64.wrap (T + 262144) = T + 262144) := wraps_u64 _ (by omega) (by omega)
  have HAT : Hid (_) := hat
  have HPJ : Hid (_) := hpj
  clear hat hpj h0 h1 ha0 ha1
  go_loopw [7, 8] (fun v i wr => ∃ k : Nat, k ≤ n ∧ k ≤ 32 ∧ i = .int .i64 k ∧ SR W wr v (rootS :: pagesS 0 (fs.take k))) (fun _ i _ => 32 - (intOf i).toNat)
  case atStart => exact ⟨0, by omega, by omega, rfl, HSR.out⟩
  case round =>
    obtain ⟨k, hk, hk32, rfl, hsr⟩ := hrel
    clear HSR
    by_cases hlt : k < n ∧ k < 32
    · obtain ⟨hkn, hk3⟩ := hlt
      obtain ⟨hlen, hs⟩ := HS.out
      rcases hs with h0' | ⟨B, off, rfl, hB, hsl⟩
      · omega
      have hg : fs[k]? = some fs[k] := List.getElem?_eq_getElem (by omega)
      have hc := ((bcell hsr.bel).1 B _ hB).trans (hsl k _ hg)
      have hnext := pages_next fs k _ hg
      generalize fs[k] = f at *
      have hBr := Nat.lt_of_lt_of_le hB hsr.bel.size
      have hpl : (rootS :: pagesS 0 (fs.take k)).length < 100000 := by
        have : ∀ (l : List Int) i, (pagesS i l).length = l.length := by
          intro l
          induction l with
          | nil => intro i; rfl
          | cons x l ih => intro i; simp [pagesS, ih]
        simp [this]
        omega
      obtain ⟨v2, w2, hrun2, hsr2⟩ := hsr.push (pageS k f) hpl ⟨by simp [pageS], by simp [pageS]⟩
      have H2 : Hid (SR W w2 v2 (rootS :: pagesS 0 (fs.take (k + 1)))) := by
        show SR W w2 v2 (rootS :: pagesS 0 (fs.take (k + 1)))
        rw [hnext]
        simpa using hsr2
      simp only [slC, pageS] at hrun2
      have f1 := and_ones64 f 8 (by decide)
      simp only [Int.reducePow, Int.reduceSub] at f1
      have i1 : (0 : Int) ≤ (k : Int) ∧ (k : Int) < (n : Int) := by omega
      clear hsr hsr2 hsl hnext hpl hg
      go_wp2_with (at_builtin; refine wpList_append_run rfl _ _ 22 rfl _ _ v2 w2 rfl rfl hrun2 ?_)
      go_roundw
      case rel => exact ⟨k + 1, by omega, by omega, by go_num, H2.out⟩
      case measure => simp [intOf]; omega
    · have hall : rootS :: pagesS 0 (fs.take k) = wholeS fs := by
        have hl := HS.out.1
        unfold wholeS
        rcases Nat.lt_or_ge k 32 with h | h
        · rw [List.take_of_length_le (by omega), List.take_of_length_le (by omega)]
        · rw [show k = 32 by omega]
      rw [hall] at hsr
      obtain ⟨a', cap', rfl⟩ := hsr.form
      obtain ⟨hsl, hc1, hc2⟩ := hsr.slots
      have CB := lawBoth a' (wholeS fs).length cap' (wholeS fs) wr (HZ.out.below hsr.bel) (HT.out.below hsr.bel) hsl hc1 (by unfold maxLen at hc2; omega)
      have HBW : Hid (Below W.heap.size W wr) := hsr.bel
      clear hall hsr hsl hc1 hc2
      have hex : ((k : Int) < 32 ∧ ¬ (k : Int) < n) ∨ ¬ (k : Int) < 32 := by omega
      have hl := memOf_len (wholeS fs)
      obtain ⟨t1, t2, t3, t4⟩ := whole_two fs T A hT0 hT1 hA
      rw [HPJ.out, Int.toNat_natCast] at t1
      rw [HPJ.out] at t2
      have C2 := fun b g w h => two_any (T + 262144) A true (-1) 0 b g (memOf (wholeS fs)) (by omega) (by omega) (by decide) (by decide) w h
      have C3 := fun b g w h => two_any T A true (-1) (-1) b g (memOf (wholeS fs)) hT0 (by omega) (by decide) (by decide) w h
      have C1 := fun b g w h => two_any T A true (-1) 0 b g (memOf (wholeS fs)) hT0 (by omega) (by decide) (by decide) w h
      rw [t3] at C2
      rw [t4] at C3
      have hf1 := fault_first A
      have hf2 := fault_second A
      clear t3 t4 hl
      generalize (wholeS fs).length = LL at *
      by_cases hit : pj < n ∧ pj < 32
      · obtain ⟨hpn, hp32⟩ := hit
        obtain ⟨f, hg⟩ : ∃ f, fs[pj]? = some f := ⟨_, List.getElem?_eq_getElem (by rw [HS.out.1]; exact hpn)⟩
        obtain ⟨B, off, rfl, hB, hcell⟩ : ∃ B off, ad = some ⟨B, off, none⟩ ∧ B < W.heap.size ∧ W.cell? ⟨B, off + pj, none⟩ = some (.int .i64 f) := by
          rcases HS.out.2 with h' | ⟨B, off, h2, h3, h4⟩
          · exact absurd hpn (by rw [h']; exact Nat.not_lt_zero _)
          · exact ⟨B, off, h2, h3, h4 pj f hg⟩
        rw [t1 f (Int.ofNat_lt.2 hp32) hg] at C1
        have f1 := and_ones64 f 8 (by decide)
        simp only [Int.reducePow, Int.reduceSub] at f1
        clear t1 t2 hg
        generalize f % 256 = F at *
        have hneF : (F != F) = false := by simp
        generalize memOf (wholeS fs) = zs at *
        unfold Fr.val foundV trapV at *
        simp only at C1 C2 C3
        generalize faultP A 12 13 15 = c1 at *
        generalize faultP A 20 21 23 = c2 at *
        have i1 : (0 : Int) ≤ (pj : Int) ∧ (pj : Int) < (n : Int) := ⟨Int.natCast_nonneg _, Int.ofNat_lt.2 hpn⟩
        have i2 : (pj : Int) < 32 := Int.ofNat_lt.2 hp32
        have eA := EA.out
        have hat := HAT.out
        have hpj := HPJ.out
        have hpw := HPW.out
        have hq1 := HQ1.out
        rcases hex with ⟨hk3, hkn⟩ | hk3
        all_goals
          go_wp2_with fail
          first | clear hk3 hkn | clear hk3
          refine CB.mono ?_
          rintro e x1 ⟨b, g, c, rfl, m1, hb1⟩
          have B1 : Hid (Below W.heap.size W x1) := HBW.out.trans (hb1.mono HBW.out.size)
          have S1 : Hid (St x1 b g zs) := ⟨HZ.out.below B1.out, HT.out.below B1.out, m1⟩
          clear hb1 m1 CB
          go_wp2_with fail
          clear eA hat
          refine (C1 b g _ S1.out).mono ?_
          rintro e x2 ⟨rfl, hb2⟩
          have B2 : Hid (Below W.heap.size W x2) := B1.out.trans (hb2.mono B1.out.size)
          have S2 : Hid (St x2 b g zs) := S1.out.below hb2
          have cB := ((bcell B2.out).1 B (off + pj) hB).trans hcell
          have lB : B < x2.heap.size := Nat.lt_of_lt_of_le hB B2.out.size
          have HC2 : Hid (_) := C2
          have HC3 : Hid (_) := C3
          have HF1 : Hid (_) := hf1
          have HF2 : Hid (_) := hf2
          clear hb2 C1 S1 B1 hk hk32 hlt hA hT0 hT1 hf1 hf2 hcell hB HBW HPW HAT HPJ EA hq1 hm hcap C2 C3
          go_wp2_with fail
          go_quiet (fail)
          have C2 := HC2.out
          have hq1 := HQ1.out
          go_wp2_with fail
          have hWx : W.heap.size ≤ x2.heap.size := B2.out.size
          have Y2 := (((Below.refl x2.heap.size x2).alloc (Nat.le_refl _) (.cells #[.int .i64 F, .bool true, .bool true, .bool true, .bool true, .int .i64 2] 31)).alloc (by simp) (.cells #[.int .i64 0, .int .u64 0, .int .u64 0] 33)).trans ((below_drewN _ nq).mono (by simp; omega))
          refine (C2 b g _ (S2.out.below Y2)).mono ?_
          rintro e x3 ⟨rfl, hb3⟩
          have hs3 := hb3.size
          simp at hs3
          have B3 : Hid (Below x2.heap.size x2 x3) := Y2.trans (hb3.mono (by simp; omega))
          obtain ⟨q1, q2⟩ := bel_cell hb3 (b := x2.heap.size + 1) (by simp)
          have l3 : x2.heap.size + 1 < x3.heap.size := by omega
          clear hb3 Y2 C2 HC2
          go_wp2_with fail
          have Y3 := below_set3 B3.out (Nat.le_succ x2.heap.size) (.int .i64 c1) (.int .u64 (T + 262144)) (.int .u64 0)
          have z0 : (((x3.setCell ⟨x2.heap.size + 1, 0, none⟩ (.int .i64 c1)).setCell ⟨x2.heap.size + 1, 1, none⟩ (.int .u64 (T + 262144))).setCell ⟨x2.heap.size + 1, 2, none⟩ (.int .u64 0)).cell? ⟨x2.heap.size + 1, 0, none⟩ = some (.int .i64 c1) := by
            simp [go_sem, q1]
          refine (HC3.out b g _ (S2.out.below Y3)).mono ?_
          rintro e x4 ⟨rfl, hb4⟩
          have hs4 := hb4.size
          simp at hs4
          have r4 := ((bel_cell hb4 (b := x2.heap.size + 1) (by simpa using l3)).1 0).trans z0
          have B4 : Hid (Below W.heap.size W x4) := B2.out.trans ((Y3.trans (hb4.mono (by simp; omega))).mono hWx)
          have l4 : x2.heap.size + 1 < x4.heap.size := by omega
          have hW4 : W.heap.size ≤ x4.heap.size := by omega
          have r5 : ∀ o1 o2, ((x4.alloc o1).alloc o2).cell? ⟨x2.heap.size + 1, 0, none⟩ = some (.int .i64 c1) := fun o1 o2 =>
            ((bel_cell (((Below.refl x4.heap.size x4).alloc (Nat.le_refl _) o1).alloc (by simp) o2) l4).1 0).trans r4
          have hf1 := HF1.out
          have hf2 := HF2.out
          clear hb4 Y3 z0 q1 q2 HC3 HF1 HF2 l3 hs3 hs4 B3 S2 B2 cB lB hq1 HQ1 i1 i2 hpj hpw
          go_wp2_with fail
          go_ret
          exact ⟨ret_bool (by simp), (B4.out.alloc hW4 _).alloc (by simp; omega) _⟩
      · rw [t2 (by rw [HS.out.1]; intro h; exact hit ⟨Int.ofNat_lt.1 h.1, Int.ofNat_lt.1 h.2⟩)] at C1
        have hmiss : ((pj : Int) < n ∧ ¬ (pj : Int) < 32) ∨ ¬ (pj : Int) < n := by
          rcases Nat.lt_or_ge pj n with h | h
          · exact .inl ⟨Int.ofNat_lt.2 h, fun h' => hit ⟨h, Int.ofNat_lt.1 h'⟩⟩
          · exact .inr (Int.not_lt.2 (Int.ofNat_le.2 h))
        clear t1 t2 hit
        have hneT : (T != T) = false := by simp
        generalize memOf (wholeS fs) = zs at *
        unfold Fr.val foundV trapV at *
        simp only at C1 C2 C3
        generalize faultP A 12 13 15 = c1 at *
        generalize faultP A 20 21 23 = c2 at *
        have hc2 : decide (c2 < 20) = false := by simpa using hf2
        have eA := EA.out
        have hat := HAT.out
        have hpj := HPJ.out
        have hpw := HPW.out
        have hq1 := HQ1.out
        have HMS : Hid (_) := hmiss
        clear hmiss
        rcases hex with ⟨hk3, hkn⟩ | hk3
        all_goals
          go_wp2_with fail
          first | clear hk3 hkn | clear hk3
          refine CB.mono ?_
          rintro e x1 ⟨b, g, c, rfl, m1, hb1⟩
          have B1 : Hid (Below W.heap.size W x1) := HBW.out.trans (hb1.mono HBW.out.size)
          have S1 : Hid (St x1 b g zs) := ⟨HZ.out.below B1.out, HT.out.below B1.out, m1⟩
          clear hb1 m1 CB
          go_wp2_with fail
          clear eA hat
          refine (C1 b g _ S1.out).mono ?_
          rintro e x2 ⟨rfl, hb2⟩
          have B2 : Hid (Below W.heap.size W x2) := B1.out.trans (hb2.mono B1.out.size)
          have S2 : Hid (St x2 b g zs) := S1.out.below hb2
          have HC2 : Hid (_) := C2
          have HC3 : Hid (_) := C3
          have HF1 : Hid (_) := hf1
          have HF2 : Hid (_) := hf2
          clear hb2 C1 S1 B1 hk hk32 hlt hA hf1 hf2 HBW HPW HAT HPJ EA hq1 hm hcap C2 C3
          rcases HMS.out with ⟨i1, i2⟩ | i1
          all_goals
            clear HMS
            have C2 := HC2.out
            have hq1 := HQ1.out
            go_wp2_with fail
            have hWx : W.heap.size ≤ x2.heap.size := B2.out.size
            have Y2 := (((Below.refl x2.heap.size x2).alloc (Nat.le_refl _) (.cells #[.int .i64 0, .bool false, .bool false, .bool false, .bool false, .int .i64 0] 31)).alloc (by simp) (.cells #[.int .i64 c2, .int .u64 T, .int .u64 T] 33))
            refine (C2 b g _ (S2.out.below Y2)).mono ?_
            rintro e x3 ⟨rfl, hb3⟩
            have hs3 := hb3.size
            simp at hs3
            have B3 : Hid (Below x2.heap.size x2 x3) := Y2.trans (hb3.mono (by simp; omega))
            obtain ⟨q1, q2⟩ := bel_cell hb3 (b := x2.heap.size + 1) (by simp)
            have l3 : x2.heap.size + 1 < x3.heap.size := by omega
            clear hb3 Y2 C2 HC2
            go_wp2_with fail
            have Y3 := below_set3 B3.out (Nat.le_succ x2.heap.size) (.int .i64 c1) (.int .u64 (T + 262144)) (.int .u64 0)
            have z0 : (((x3.setCell ⟨x2.heap.size + 1, 0, none⟩ (.int .i64 c1)).setCell ⟨x2.heap.size + 1, 1, none⟩ (.int .u64 (T + 262144))).setCell ⟨x2.heap.size + 1, 2, none⟩ (.int .u64 0)).cell? ⟨x2.heap.size + 1, 0, none⟩ = some (.int .i64 c1) := by
              simp [go_sem, q1]
            refine (HC3.out b g _ (S2.out.below Y3)).mono ?_
            rintro e x4 ⟨rfl, hb4⟩
            have hs4 := hb4.size
            simp at hs4
            have r4 := ((bel_cell hb4 (b := x2.heap.size + 1) (by simpa using l3)).1 0).trans z0
            have B4 : Hid (Below W.heap.size W x4) := B2.out.trans ((Y3.trans (hb4.mono (by simp; omega))).mono hWx)
            have l4 : x2.heap.size + 1 < x4.heap.size := by omega
            have hW4 : W.heap.size ≤ x4.heap.size := by omega
            have r5 : ∀ o1 o2, ((x4.alloc o1).alloc o2).cell? ⟨x2.heap.size + 1, 0, none⟩ = some (.int .i64 c1) := fun o1 o2 =>
              ((bel_cell (((Below.refl x4.heap.size x4).alloc (Nat.le_refl _) o1).alloc (by simp) o2) l4).1 0).trans r4
            have hf1 := HF1.out
            have hf2 := HF2.out
            clear hb4 Y3 z0 q1 q2 HC3 HF1 HF2 l3 hs3 hs4 B3 S2 B2 hq1 HQ1 hpj hpw
            go_wp2_with fail
            go_ret
            exact ⟨ret_bool (by simp), (B4.out.alloc hW4 _).alloc (by simp; omega) _⟩
end walkWhole
end Go.Proofs.YtbaagnfcdphddaaDoor
