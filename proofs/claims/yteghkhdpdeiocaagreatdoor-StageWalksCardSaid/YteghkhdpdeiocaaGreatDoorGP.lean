/-
  Two guests' tables through every act, and behind Close: by plain functions.
  What Close does: its contract.
-/
import Derived.Test.YteghkhdpdeiocaaGreatDoorGO
import Derived.Test.YteghkhdpdeiocaaGreatDoorDb
import Derived.Test.YteghkhdpdeiocaaGreatDoorGR
namespace Go.Proofs.YteghkhdpdeiocaaGreatDoor
set_option linter.unusedVariables false
set_option maxRecDepth 100000
section
variable {n gu gu' : Nat} {z : Zs} {y : Tp} {O : Nat → Prop}
/-- tables without lower tables, closed -/
theorem Iv.shut (h : Iv n O z) (hr : 0 ≤ z.x.rt) (hl : ∀ k, k < 32 → z.x.lo k < 0) : Iv n O (clF z) ∧ Out O z (clF z) := by
  obtain ⟨R, hR⟩ := Int.eq_ofNat_of_zero_le hr
  have T := h.ro R hR
  have eS : frS z.S z.x.rt 0 = z.S.set R 17 0 := by
    rw [hR]
    have e : errL z.S (R : Int) ((0 : Nat) : Int) ((0 : Nat) : Int) = 0 := errL_of T.n (by decide) T.c T.fi
    obtain ⟨i, a, e1, _, _, _, _, _, hs⟩ := fr_at e
    have : i = R := by omega
    subst this
    rw [show ((0 : Nat) : Int) = 0 from rfl] at hs
    rw [hs, if_neg (by rw [T.t]; decide)]
  unfold clF
  rw [eS]
  have ok' : Ok (z.S.set R 17 0) := h.ok.set (by decide) ⟨fun _ => rfl, fun e => absurd rfl e⟩
  have fs' : Fst (z.S.set R 17 0) := h.fst.set (.inl T.fi)
  have kp : Kp O z.S (z.S.set R 17 0) := Kp.set T.o _ _
  exact ⟨⟨h.n2, h.len, ok', fs', ⟨by show (-1 : Int) ≤ -1; omega, by show (-1 : Int) < n; omega⟩, h.lo, h.pe, fun h0 => (by have : (0 : Int) ≤ -1 := h0; omega), h.pn, h.pf, fun f hf => (by have : (-1 : Int) = f := hf; omega),
    fun k f hk hf => (by have := hl k hk; have : z.x.lo k = f := hf; omega), h.inj, fun _ => hl, fun f hf => (kp.cl f hf).trans (h.oth f hf)⟩, kp, fun _ _ _ _ => rfl⟩
theorem W2.map (h : W2 n gu gu' z y) (g : Gs gu gu') (p f : Int) (a b c : Bool) : W2 n gu gu' (mapZ gu n z p f a b c) y :=
  h.step (h.iv.map g.a.1 p f a b c) (h.wn.map h.iv h.ln h.nn g p f a b c)
theorem W2.protect (h : W2 n gu gu' z y) (p : Int) (a b c : Bool) : W2 n gu gu' (prZ z p a b c) y :=
  h.step (h.iv.protect p a b c) (h.wn.protect h.iv h.ln p a b c)
theorem W2.unmap (h : W2 n gu gu' z y) (g : Gs gu gu') (p : Int) : W2 n gu gu' (unZ gu z p) y :=
  h.step (h.iv.unmap g.a.1 p) (h.wn.unmap h.iv h.ln g p).1
theorem W2.alloc (h : W2 n gu gu' z y) (g : Gs gu gu') : W2 n gu gu' ⟨z.m, alS z.S gu, z.x⟩ y :=
  h.step (h.iv.alloc gu) ⟨h.wn.alloc g, h.ln⟩
theorem W2.act (h : W2 n gu gu' z y) (g : Gs gu gu') (a : Ac) : W2 n gu gu' (stZ gu n a z) y := by
  unfold stZ
  split
  · exact h.map g _ _ _ _ _
  · split
    · exact h.unmap g _
    · split
      · exact h.protect _ _ _ _
      · split
        · exact h.alloc g
        · exact h
theorem rt_map (gu n : Nat) (z : Zs) (p f : Int) (a b c : Bool) : (mapZ gu n z p f a b c).x.rt = z.x.rt := by
  unfold mapZ
  split
  · rfl
  · split
    · show (raiZ n _ _).x.rt = _
      unfold raiZ
      split
      · rfl
      · split <;> rfl
    · rfl
theorem rt_un (gu : Nat) (z : Zs) (p : Int) : (unZ gu z p).x.rt = z.x.rt := by
  unfold unZ unD
  split
  · split <;> rfl
  · rfl
theorem rt_pr (z : Zs) (p : Int) (a b c : Bool) : (prZ z p a b c).x.rt = z.x.rt := by
  unfold prZ
  split <;> rfl
theorem rt_act (gu n : Nat) (a : Ac) (z : Zs) : (stZ gu n a z).x.rt = z.x.rt := by
  unfold stZ
  split
  · exact rt_map _ _ _ _ _ _ _ _
  · split
    · exact rt_un _ _ _
    · split
      · exact rt_pr _ _ _ _ _
      · split <;> rfl
theorem kp_act (h : W2 n gu gu' z y) (g : Gs gu gu') (a : Ac) : (stZ gu n a z).S.n = z.S.n ∧ (stZ gu n a z).S.fi = z.S.fi := by
  have key : ∀ z', Out (TF y) z z' → z'.S.n = z.S.n ∧ z'.S.fi = z.S.fi := fun z' o => ⟨o.kp.n, o.kp.fi⟩
  unfold stZ
  split
  · exact key _ (h.iv.map g.a.1 _ _ _ _ _).2
  · split
    · exact key _ (h.iv.unmap g.a.1 _).2
    · split
      · exact key _ (h.iv.protect _ _ _ _).2
      · split
        · exact key _ (h.iv.alloc gu).2
        · exact ⟨rfl, rfl⟩
/-- behind Close of the one -/
theorem W2.close (h : W2 n gu gu' z y) (g : Gs gu gu') (hr : 0 ≤ z.x.rt) : W2 n gu gu' (clZ gu z) y ∧ Sg gu z.S (clZ gu z).S ∧ Cd (clZ gu z).x := by
  obtain ⟨w1, s1, c1⟩ := h.wn.close h.iv h.ln g hr
  obtain ⟨⟨_, l2⟩, _, r2, n2⟩ := h.wn.unmaps h.iv h.ln g 1024 (Nat.le_refl _)
  obtain ⟨i3, o3⟩ := h.iv.unmaps g.a.1 1024
  have lo := c1.lo
  have e : clZ gu z = clF (unsZ gu z 1024) := by unfold clZ; rw [if_neg (by omega)]
  rw [e] at w1 s1 c1 lo ⊢
  generalize unsZ gu z 1024 = Z at *
  obtain ⟨i4, o4⟩ := i3.shut (by omega) lo
  exact ⟨h.step ⟨i4, o3.trans o4⟩ ⟨w1, c1.ln⟩, s1, c1⟩
end
end Go.Proofs.YteghkhdpdeiocaaGreatDoor
namespace Go.Proofs.YteghkhdpdeiocaaGreatDoor
open Go.RowKit Go.Maps
set_option linter.unusedVariables false
set_option maxRecDepth 100000

section
variable {B : Nat → Prop} {w w' : World} {b g D T L gu n : Nat} {O : Nat → Prop} {z : Zs}
set_option maxHeartbeats 1600000 in
theorem close_sx (h : SX B w b g D T L gu z) (hi : Iv n O z) (hg : 1 ≤ gu) : Calls Tryz.prog 28 #[.pointer (some ⟨T, 0, none⟩)] w fun e w1 => e = .returned (.int .i64 (clE z)) ∧ SX B w1 b g D T L gu (clZ gu z) ∧ Tn (Pt g T L) B w w1 := by
  have C := state_sx h hi.rt.1
  unfold stE at C
  unfold clE clZ
  by_cases hx : z.x.rt < 0
  · rw [if_pos hx] at C ⊢
    rw [if_pos hx]
    have HS : Hid (SX B w b g D T L gu z) := h
    clear h hi
    go_enter Tryz.func28, Tryz.ntmps28
    go_wp2_with fail
    refine C.mono ?_
    rintro e w1 ⟨rfl, rfl⟩
    go_wp2_with fail
    go_ret
    exact ⟨rfl, HS.out, Tn.refl _ _ _⟩
  · rw [if_neg hx] at C ⊢
    rw [if_neg hx]
    have HI : Hid (∀ p, Iv n O (unsZ gu z p)) := fun p => (hi.unmaps hg p).1
    have H0 : Hid (SX B w b g D T L gu (unsZ gu z 0) ∧ Tn (Pt g T L) B w w) := ⟨h, Tn.refl _ _ _⟩
    clear h hi
    go_enter Tryz.func28, Tryz.ntmps28
    go_wp2_with fail
    refine C.mono ?_
    rintro e w ⟨rfl, rfl⟩
    go_wp2_with fail
    go_loopw [10] (fun i wr => ∃ p : Nat, p ≤ 1024 ∧ i = .int .i64 p ∧ Hid (SX B wr b g D T L gu (unsZ gu z p) ∧ Tn (Pt g T L) B w wr)) (fun i _ => 1024 - (intOf i).toNat)
    case atStart => exact ⟨0, by omega, rfl, H0.out⟩
    case round =>
      obtain ⟨p, hp, rfl, HJ⟩ := hrel
      by_cases hp2 : p < 1024
      · have hp3 : (p : Int) < 1024 := by omega
        have CU := unmap_sx HJ.out.1 (HI.out p) (p : Int)
        go_wp2_with fail
        refine CU.mono ?_
        rintro e w2 ⟨rfl, h2, t2⟩
        have H2 : Hid (SX B w2 b g D T L gu (unsZ gu z (p + 1)) ∧ Tn (Pt g T L) B w w2) := ⟨h2, HJ.out.2.trans t2⟩
        clear h2 t2 CU HJ
        go_wp2_with fail
        go_roundw
        case rel => exact ⟨p + 1, by omega, by go_num, H2.out⟩
        case measure => simp [intOf]; omega
      · obtain rfl : p = 1024 := by omega
        generalize hz1 : unsZ gu z 1024 = z1 at *
        have hc1 := And.intro HJ.out.1.drew.tb.c1 HJ.out.1.drew.tb.c3
        have F1 := free_fx HJ.out.1.drew.fx z1.x.rt 0
        have dz := HJ.out.1.tb.lt
        go_wp2_with fail
        go_region_held2 (fun W => W.cell? ⟨T, 1, none⟩ = some (.pointer (some ⟨D, 0, none⟩)) ∧ W.cell? ⟨T, 3, none⟩ = some (.int .i64 z1.x.rt))
          (first | exact hc1 | exact hc2)
          (first
            | (go_at_call 56; refine F1.mono ?_; rintro q y2 ⟨rfl, hf2, ht2⟩; (have H3 : Hid (SX B y2 b g D T L gu ⟨z1.m, frS z1.S z1.x.rt 0, z1.x⟩ ∧ Tn (Pt g T L) B w y2) := ⟨HJ.out.1.drew.frames hf2 ht2, HJ.out.2.drew.trans (Tn.of_tu ht2)⟩); (have hc2 := And.intro H3.out.1.tb.c1 H3.out.1.tb.c3)))
        clear hc1 F1 dz
        have d3 := H3.out.1.tb.c3
        have f3 := H3.out.1.tb.fz 3
        have dl := H3.out.1.tb.lt
        obtain ⟨t5, n5⟩ := H3.out.1.tb.setR (-1)
        have H5 : Hid (SX B (y2.setCell ⟨T, 3, none⟩ (.int .i64 (-1))) b g D T L gu (clF z1) ∧ Tn (Pt g T L) B w (y2.setCell ⟨T, 3, none⟩ (.int .i64 (-1)))) := ⟨H3.out.1.block (x' := { z1.x with rt := -1 }) rfl t5 n5, H3.out.2.trans (Tn.of_trn n5 fun _ e => .inl e)⟩
        clear t5 n5
        go_wp2_with fail
        go_ret
        exact ⟨rfl, H5.out.1, H5.out.2⟩
end
end Go.Proofs.YteghkhdpdeiocaaGreatDoor
