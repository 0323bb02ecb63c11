/-
  The program's Charge.
-/
import Derived.Test.YtgdnklmnchcmeaaCc
import Derived.BigRegion
namespace Go.Proofs.Ytgdnklmnchcmeaa
open Go.RowKit Go.Maps
set_option linter.unusedVariables false
set_option maxRecDepth 100000
def chgE (S : St) (n : Nat) (i z : Int) : Int := if i < 0 ∨ (n : Int) ≤ i then 2 else if z < 0 ∨ 1048576 < z then 2 else if tkB S.L i.toNat then 0 else 14
def chgT (per : Int) (S : St) (n : Nat) (i z : Int) : St := if chgE S n i z = 0 then chgS per S (riI S.L i.toNat) i.toNat z else S
section
variable {w w' : World} {c m p n N : Nat} {per : Int} {M : Int → Option Value} {F : Nat → Pv} {S : St} {k : Int} {x : On}
theorem VR.drew {Qf : Nat → List Int} (h : VR w c m p n per N M F Qf) : VR w.drew c m p n per N M F Qf := h.keep rfl fun _ _ => rfl
theorem ch_pos (h : SOk n per S) {i : Nat} (hi : i < 8) : 0 ≤ chI per S i ∧ chI per S i ≤ 1048576 := by
  have := h.r0 i hi
  have hp := h.hp
  unfold chI
  split <;> omega
theorem PvOk.chg (h : PvOk F n per S) (ok : SOk n per S) {i : Nat} (hi : i < n) (hr : rn S.L i = some x) {z : Int} (hz : 0 ≤ z ∧ z ≤ 1048576) : PvOk (fset F i fun y => ⟨y.q, y.t, y.i, min (chI per S i + z) per⟩) n per (chgS per S x.id i z) := by
  obtain ⟨h1, h2, h3⟩ := rn_mem hr
  have hx := fnd_of ok.nd h1
  have hok := ok.chg hi hr hz
  have key : ∀ j, rn (mod S.L x.id (chF per z)) j = if j = i then some (chF per z x) else rn S.L j := fun j => by
    rw [rn_turn (f := chF per z) ok hx hok (fun _ => rfl)]
    by_cases e : j = i
    · rw [if_pos e, if_pos]
      exact ⟨h2, by rw [e]; exact h3⟩
    · rw [if_neg e, if_neg (fun e2 => e (e2.2.symm.trans h3)), if_neg (fun e2 => e (e2.2.symm.trans h3))]
  intro j hj
  have hb := h j hj
  have hkj : rn (chgS per S x.id i z).L j = if j = i then some (chF per z x) else rn S.L j := key j
  by_cases e : j = i
  · subst e
    rw [fset_same]
    rw [if_pos rfl] at hkj
    unfold tkB riI chI tkB at *
    rw [hkj]
    rw [hr] at hb ⊢
    refine ⟨hb.1, hb.2.1, ?_⟩
    simp only [Option.isSome_some, if_true]
    show min (min (S.R j) per + z) per = min (if j = j then chR per z (S.R j) else S.R j) per
    rw [if_pos rfl]
    unfold chR
    have := ok.hp
    split <;> omega
  · rw [fset_other e]
    rw [if_neg e] at hkj
    unfold tkB riI chI tkB at *
    rw [hkj]
    refine ⟨hb.1, hb.2.1, ?_⟩
    rw [hb.2.2]
    show _ = if _ then min (if j = i then chR per z (S.R i) else S.R j) per else 0
    rw [if_neg e]
set_option maxHeartbeats 1600000 in
theorem charge_vx (h : VX w c m p n per F S) (i z : Int) : Calls Try.prog 23 #[.pointer (some ⟨c, 0, none⟩), .int .i64 i, .int .i64 z] w fun e w' => e = .returned (.int .i64 (chgE S n i z)) ∧ Tu w w' c m p n per F (chgT per S n i z) := by
  have HV : Hid (VX w c m p n per F S) := h
  by_cases hi : i < 0 ∨ (n : Int) ≤ i
  · have e1 : chgE S n i z = 2 := by unfold chgE; rw [if_pos hi]
    have e2 : chgT per S n i z = S := by unfold chgT; rw [e1, if_neg (by decide)]
    rw [e1, e2]
    have C := place_no h.vr i hi
    clear h e1 e2
    go_enter Try.func23, Try.ntmps23
    go_wp2_with fail
    refine C.mono ?_
    rintro e w1 ⟨rfl, rfl⟩
    go_wp2_with fail
    go_ret
    exact ⟨rfl, HV.out.tu0⟩
  · obtain ⟨j, rfl⟩ : ∃ j : Nat, i = j := ⟨i.toNat, by omega⟩
    have hj : j < n := by omega
    have C := place_at h.vr j hj
    by_cases hz : z < 0 ∨ 1048576 < z
    · have e1 : chgE S n j z = 2 := by unfold chgE; rw [if_neg hi, if_pos hz]
      have e2 : chgT per S n j z = S := by unfold chgT; rw [e1, if_neg (by decide)]
      rw [e1, e2]
      clear h e1 e2 hi
      rcases hz with hz | hz
      · go_enter Try.func23, Try.ntmps23
        go_wp2_with fail
        refine C.mono ?_
        rintro e w1 ⟨rfl, rfl⟩
        go_wp2_with fail
        go_ret
        exact ⟨rfl, HV.out.tu0⟩
      · go_enter Try.func23, Try.ntmps23
        go_wp2_with fail
        refine C.mono ?_
        rintro e w1 ⟨rfl, rfl⟩
        go_wp2_with fail
        go_ret
        exact ⟨rfl, HV.out.tu0⟩
    · have hz0 : ¬ z < 0 := fun e => hz (.inl e)
      have hz1 : ¬ 1048576 < z := fun e => hz (.inr e)
      obtain ⟨d0, d1, d2, d3⟩ := h.vr.pr.all hj
      obtain ⟨q1, q2, q3⟩ := h.pv j hj
      have pl := h.vr.pr.lt
      cases hr : rn S.L j with
      | none =>
        have et : tkB S.L j = false := by unfold tkB; rw [hr]; rfl
        have e1 : chgE S n j z = 14 := by unfold chgE; rw [if_neg hi, if_neg hz, Int.toNat_natCast, et, if_neg (by decide)]
        have e2 : chgT per S n j z = S := by unfold chgT; rw [e1, if_neg (by decide)]
        rw [e1, e2]
        rw [q1, et] at d1
        clear h e1 e2 hi q1 q2 q3 hr et hz
        go_enter Try.func23, Try.ntmps23
        go_wp2_with fail
        refine C.mono ?_
        rintro e w1 ⟨rfl, rfl⟩
        go_wp2_with fail
        go_ret
        exact ⟨rfl, HV.out.tu0⟩
      | some x =>
        obtain ⟨hm, hs, hc⟩ := rn_mem hr
        have hx := fnd_of h.ok.nd hm
        have et : tkB S.L j = true := by unfold tkB; rw [hr]; rfl
        have ei : riI S.L j = x.id := by unfold riI; rw [hr]
        have e1 : chgE S n j z = 0 := by unfold chgE; rw [if_neg hi, if_neg hz, Int.toNat_natCast, et, if_pos rfl]
        have e2 : chgT per S n j z = chgS per S x.id j z := by unfold chgT; rw [e1, if_pos rfl, Int.toNat_natCast, ei]
        rw [e1, e2]
        rw [q1, et] at d1
        rw [q2, ei] at d2
        rw [q3] at d3
        have ho := h.ok.ok x hm
        have hk := ho.id
        have hp := h.ok.hp
        have hL : S.L.length < maxLen := by have := maxLen_big; have := h.ok.len; omega
        have hn8 := h.ok.hn
        have hch := ch_pos h.ok (i := j) (by omega)
        have B0 := (VB.start h.vr #[.int .i64 0, .int .i64 0, .int .i64 0, .int .i64 0]).drew
        have hlu := look_run Try.underlying41 (zeroL _) B0.vr.mp x.id hk
        have esm : SM S.L x.id = some (lv x) := by unfold SM; rw [hx]; rfl
        rw [esm] at hlu
        simp only [Option.getD_some] at hlu
        have hlu2 := look_run Try.underlying41 (zeroL w.drew) h.vr.drew.mp x.id hk
        rw [esm] at hlu2
        simp only [Option.getD_some] at hlu2
        have c00 := h.vr.c0
        have cl0 := h.vr.lt
        have c0 := B0.vr.c0
        have cl := B0.vr.lt
        have d2' := (B0.vr.pr.all hj).2.2.1
        rw [q2, ei] at d2'
        have pl' := B0.vr.pr.lt
        have g0 := B0.bx
        have hi36 := info36
        have hw1 : IntKind.i64.wrap (x.cr - z) = x.cr - z := by have := ho.c0; have := ho.c1; rw [IntKind.wrap_i64]; omega
        have hw2 : IntKind.i64.wrap (-per) = -per := by rw [IntKind.wrap_i64]; omega
        have hw3 : IntKind.i64.wrap (chI per S j + z) = chI per S j + z := by rw [IntKind.wrap_i64]; omega
        have HB : Hid (∃ y, (w.alloc (.cells #[.int .i64 x.st, .int .i64 x.co, .int .i64 x.w, .int .i64 x.cr] 36)).drew = y ∧ VB w y c m p n per S.L.length (SM S.L) F S.Q F #[.int .i64 x.st, .int .i64 x.co, .int .i64 x.w, .int .i64 x.cr]) := ⟨_, rfl, (VB.start h.vr _).drew⟩
        have HP : Hid ((F j).c = chI per S j ∧ (F j).i = x.id ∧ cnt S.L.length (SM S.L) x.id = S.L.length) := ⟨q3, q2.trans ei, cnt_some hx⟩
        have HG : Hid (∀ w3, VB w w3 c m p n per S.L.length (upd (SM S.L) x.id (some (.agg #[.int .i64 x.st, .int .i64 x.co, .int .i64 x.w, .int .i64 (max (x.cr - z) (-per))]))) F S.Q (fset F j fun y => ⟨y.q, y.t, y.i, min (chI per S j + z) per⟩) #[.int .i64 x.st, .int .i64 x.co, .int .i64 x.w, .int .i64 (max (x.cr - z) (-per))] → Tu w w3 c m p n per F (chgS per S x.id j z)) := fun w3 b =>
          ⟨_, ⟨b.vr.congr (len_mod _ _ _).symm (fun q => (SM_mod (f := chF per z) hx (fun _ => rfl) q).symm) (fun _ _ => rfl), PvOk.chg h.pv h.ok hj hr ⟨by omega, by omega⟩, h.ok.chg hj hr ⟨by omega, by omega⟩⟩, b.tr, b.nw⟩
        have hcw : c < w.heap.size := h.vr.lt
        unfold lv at hlu hlu2
        clear B0 h e1 e2 hi q1 q2 q3 hr et ei hm hx ho esm hs hc hz
        generalize x.st = sa at *
        generalize (x.co : Int) = sb at *
        generalize x.w = sd at *
        generalize x.cr = sf at *
        generalize x.id = id at *
        generalize chI per S j = ch at *
        go_enter Try.func23, Try.ntmps23
        go_wp2_with fail
        refine C.mono ?_
        rintro e w1 ⟨rfl, rfl⟩
        clear C
        go_wp2_with fail
        go_region
        all_goals
          obtain ⟨y, hy, B1⟩ := HB.out
          rw [hy]
          have HB1 : Hid (_) := B1
          have b3 := B1.b 3
          have bl := B1.bl
          have bf := B1.bf 3
          have c2 := B1.vr.c2
          have cy := B1.vr.lt
          simp at b3
          clear hy HB g0 hlu hlu2 c0 c00 cl cl0 d0 d1 d2 d3 d2' pl pl' hi36 B1
          go_wp2_with fail
          go_region
          have B2 := (HB1.out.set hcw 3 (.int .i64 (max (sf - z) (-per)))).drew
          generalize World.drew (World.setCell _ _ _) = y2 at *
          have HB2 : Hid (_) := B2.drew
          obtain ⟨b0, b1, b2, b3'⟩ : y2.cell? ⟨w1.heap.size, 0, none⟩ = some (.int .i64 sa) ∧ y2.cell? ⟨w1.heap.size, 1, none⟩ = some (.int .i64 sb) ∧ y2.cell? ⟨w1.heap.size, 2, none⟩ = some (.int .i64 sd) ∧ y2.cell? ⟨w1.heap.size, 3, none⟩ = some (.int .i64 (max (sf - z) (-per))) := ⟨B2.b 0, B2.b 1, B2.b 2, B2.b 3⟩
          have bl2 := B2.bl
          have c0 := B2.vr.c0
          have cy2 := B2.vr.lt
          have p2 := (B2.vr.pr.all hj).2.2.1
          rw [HP.out.2.1] at p2
          have pl := B2.vr.pr.lt
          obtain ⟨w3, hrun, hv3, ht3⟩ := HB2.out.vr.store id hk (.agg #[.int .i64 sa, .int .i64 sb, .int .i64 sd, .int .i64 (max (sf - z) (-per))]) hL
          have hcnt : cnt S.L.length (SM S.L) id = S.L.length := HP.out.2.2
          rw [hcnt] at hv3
          have HB3 : Hid (_) := HB2.out.step hv3 ht3 (Nw.refl _ _ _)
          clear B2 b3 bl bf c2 cy HB1 hv3 ht3 hcnt HB2
          go_wp2_with fail
          go_region
          have p3 := (HB3.out.vr.pr.all hj).2.2.2
          rw [HP.out.1] at p3
          have f3 := HB3.out.vr.pr.f (j * 4 + 3)
          have pl3 := HB3.out.vr.pr.lt
          have c2 := HB3.out.vr.c2
          have cy3 := HB3.out.vr.lt
          clear hrun b0 b1 b2 b3' bl2 c0 cy2 p2 pl
          go_wp2_with fail
          go_region
          obtain ⟨g1, g2, g3⟩ := HB3.out.vr.put hj 3 (by decide) (.int .i64 (min (ch + z) per)) (f := fun y => ⟨y.q, y.t, y.i, min (ch + z) per⟩) rfl rfl
          have HT : Hid (_) := HG.out _ (HB3.out.step g1 g2 g3).drew
          clear g1 g2 g3 HB3 HG
          go_wp2_with fail
          go_ret
          exact ⟨rfl, HT.out⟩
end
end Go.Proofs.Ytgdnklmnchcmeaa
