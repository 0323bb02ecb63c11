/-
  The program's Pick.
-/
import Derived.Test.YtgdnklmnchcmeaaNx
import Derived.OwnWalk
namespace Go.Proofs.Ytgdnklmnchcmeaa
open Go.RowKit Go.Maps
set_option linter.unusedVariables false
set_option maxRecDepth 100000
def pckE (S : St) (n : Nat) (i : Int) : Int := if i < 0 ∨ (n : Int) ≤ i then 2 else if tkB S.L i.toNat then 21 else 0
def pckO (S : St) (n : Nat) (i : Int) : Option Int := if pckE S n i = 0 then (nxt S n i.toNat).head? else none
def pckT (S : St) (n : Nat) (i : Int) : St := match pckO S n i with
  | none => S
  | some k => pickS S k i.toNat
section
variable {w w' : World} {c m p n N : Nat} {per : Int} {M : Int → Option Value} {F : Nat → Pv} {S : St} {k : Int} {x : On}
theorem flat_mem {g : Nat → List Int} {k : Int} : ∀ {n : Nat}, k ∈ flat g n → ∃ i, i < n ∧ k ∈ g i
  | 0, h => by cases h
  | n + 1, h => by
    rcases List.mem_append.1 (show k ∈ flat g n ++ g n from h) with h | h
    · obtain ⟨i, hi, hk⟩ := flat_mem h
      exact ⟨i, by omega, hk⟩
    · exact ⟨n, by omega, h⟩
theorem nxt_mem {core : Nat} (hn : 0 < n) (h : k ∈ nxt S n core) : ∃ i, i < n ∧ k ∈ S.Q i := by
  have hm : ∀ i, (core + i) % n < n := fun i => Nat.mod_lt _ hn
  rcases List.mem_append.1 h with h | h
  · obtain ⟨i, hi, hk⟩ := flat_mem h
    exact ⟨_, hm i, (List.mem_filter.1 hk).1⟩
  · obtain ⟨i, hi, hk⟩ := flat_mem h
    exact ⟨_, hm i, hk⟩
theorem nxt_one (ok : SOk n per S) {core : Nat} (h : (nxt S n core).head? = some k) : ∃ x, fnd S.L k = some x ∧ x.st = 1 ∧ x ∈ S.L ∧ x.id = k := by
  obtain ⟨i, hi, hk⟩ := nxt_mem (by have := ok.hn; omega) (List.mem_of_head? h)
  obtain ⟨x, hx, rfl, hs, hc⟩ := (ok.q1 i hi k).1 hk
  exact ⟨x, fnd_of ok.nd hx, hs, hx, rfl⟩
theorem PvOk.pick (h : PvOk F n per S) (ok : SOk n per S) {i : Nat} (hi : i < n) (hr : rn S.L i = none) (hx : fnd S.L k = some x) (hs : x.st = 1) : PvOk (fset F i fun y => ⟨y.q, true, k, y.c⟩) n per (pickS S k i) := by
  have hok := ok.pick hx hi hr
  have key : ∀ j, rn (mod S.L k (pkF i)) j = if j = i then some (pkF i x) else rn S.L j := fun j => by
    rw [rn_turn (f := pkF i) ok hx hok (fun _ => rfl)]
    by_cases e : j = i
    · rw [if_pos e, if_pos]
      exact ⟨rfl, e.symm⟩
    · rw [if_neg e, if_neg (fun e2 => e e2.2.symm), if_neg (fun e2 => by rw [hs] at e2; exact absurd e2.1 (by decide))]
  intro j hj
  have hb := h j hj
  have hkj : rn (pickS S k i).L j = if j = i then some (pkF i x) else rn S.L j := key j
  by_cases e : j = i
  · subst e
    rw [fset_same]
    rw [if_pos rfl] at hkj
    unfold tkB riI chI tkB at *
    rw [hkj]
    rw [hr] at hb
    refine ⟨rfl, (fnd_mem hx).2.symm, ?_⟩
    rw [hb.2.2]
    show (if _ then _ else 0) = if _ then min (if j = j then 0 else S.R j) per else 0
    rw [if_pos rfl]
    have := ok.hp
    simp
    omega
  · rw [fset_other e]
    rw [if_neg e] at hkj
    unfold tkB riI chI tkB at *
    rw [hkj]
    refine ⟨hb.1, hb.2.1, ?_⟩
    rw [hb.2.2]
    show _ = if _ then min (if j = i then 0 else S.R j) per else 0
    rw [if_neg e]
set_option maxHeartbeats 1600000 in
theorem pick_vx (h : VX w c m p n per F S) (i : Int) : Calls Try.prog 16 #[.pointer (some ⟨c, 0, none⟩), .int .i64 i] w fun e w' => e = .returned (.tuple #[.int .i64 (nxI (pckO S n i)), .bool (pckO S n i).isSome, .int .i64 (pckE S n i)]) ∧ Tu w w' c m p n per F (pckT S n i) := by
  have HV : Hid (VX w c m p n per F S) := h
  by_cases hi : i < 0 ∨ (n : Int) ≤ i
  · have e1 : pckE S n i = 2 := by unfold pckE; rw [if_pos hi]
    have e2 : pckO S n i = none := by unfold pckO; rw [e1, if_neg (by decide)]
    have e3 : pckT S n i = S := by unfold pckT; rw [e2]
    rw [e1, e2, e3]
    have C := place_no h.vr i hi
    clear h e1 e2 e3
    go_enter Try.func16, Try.ntmps16
    go_wp2_with fail
    refine C.mono ?_
    rintro e w1 ⟨rfl, rfl⟩
    go_wp2_with fail
    go_ret3
    exact ⟨rfl, HV.out.tu0⟩
  · obtain ⟨j, rfl⟩ : ∃ j : Nat, i = j := ⟨i.toNat, by omega⟩
    have hj : j < n := by omega
    have C := place_at h.vr j hj
    obtain ⟨d0, d1, d2, d3⟩ := h.vr.pr.all hj
    obtain ⟨q1, q2, q3⟩ := h.pv j hj
    have pl := h.vr.pr.lt
    cases hr : rn S.L j with
    | some x =>
      have et : tkB S.L j = true := by unfold tkB; rw [hr]; rfl
      have e1 : pckE S n j = 21 := by unfold pckE; rw [if_neg hi, Int.toNat_natCast, et, if_pos rfl]
      have e2 : pckO S n j = none := by unfold pckO; rw [e1, if_neg (by decide)]
      have e3 : pckT S n j = S := by unfold pckT; rw [e2]
      rw [e1, e2, e3]
      rw [q1, et] at d1
      clear h e1 e2 e3 hi q1 q2 q3 hr et
      go_enter Try.func16, Try.ntmps16
      go_wp2_with fail
      refine C.mono ?_
      rintro e w1 ⟨rfl, rfl⟩
      go_wp2_with fail
      go_ret3
      exact ⟨rfl, HV.out.tu0⟩
    | none =>
      have et : tkB S.L j = false := by unfold tkB; rw [hr]; rfl
      have e1 : pckE S n j = 0 := by unfold pckE; rw [if_neg hi, Int.toNat_natCast, et, if_neg (by decide)]
      have e2 : pckO S n j = (nxt S n j).head? := by unfold pckO; rw [e1, if_pos rfl, Int.toNat_natCast]
      rw [q1, et] at d1
      have K := next_vx h hj
      cases hx : (nxt S n j).head? with
      | none =>
        have e3 : pckT S n j = S := by unfold pckT; rw [e2, hx]
        rw [e1, e2, e3, hx]
        rw [hx] at K
        clear h e1 e2 e3 hi q1 q2 q3 hr et hx
        simp only [nxI, Option.getD_none, Option.isSome_none] at K ⊢
        go_enter Try.func16, Try.ntmps16
        go_wp2_with fail
        refine C.mono ?_
        rintro e w1 ⟨rfl, rfl⟩
        go_wp2_with fail
        refine K.mono ?_
        rintro e w2 ⟨rfl, hb⟩
        have HT : Hid (Below w1.heap.size w1 w2) := hb
        clear hb K
        go_wp2_with fail
        go_ret3
        exact ⟨rfl, HV.out.tu HT.out⟩
      | some k =>
        have e3 : pckT S n j = pickS S k j := by unfold pckT; rw [e2, hx, Int.toNat_natCast]
        rw [e1, e2, e3, hx]
        rw [hx] at K
        simp only [nxI, Option.getD_some, Option.isSome_some] at K ⊢
        obtain ⟨x, hfx, hs, hm, hid⟩ := nxt_one h.ok hx
        have ho := h.ok.ok x hm
        have hk : KW k := hid ▸ ho.id
        have hL : S.L.length < maxLen := by have := maxLen_big; have := h.ok.len; omega
        have hok := h.ok.pick hfx hj hr
        have HK : Hid (∀ w1, Below w.heap.size w w1 → w1.cell? ⟨c, 0, none⟩ = some (.map (some m)) ∧ c < w1.heap.size ∧ (Instr.lookup 41 (.map (some m)) (.int .i64 k) false).run Try.prog w1 = .ok (.agg #[.int .i64 x.st, .int .i64 x.co, .int .i64 x.w, .int .i64 x.cr]) w1) := fun w1 hb => by
          have hv := (h.below hb).vr
          have hlu := look_run Try.underlying41 (zeroL w1) hv.mp k hk
          have esm : SM S.L k = some (lv x) := by unfold SM; rw [hfx]; rfl
          rw [esm] at hlu
          exact ⟨hv.c0, hv.lt, hlu⟩
        have HG : Hid (∀ w1, Below w.heap.size w w1 → Calls Try.prog 41 #[.pointer (some ⟨c, 0, none⟩), .int .i64 k, .agg #[.int .i64 x.st, .int .i64 x.co, .int .i64 x.w, .int .i64 x.cr]] (w1.alloc (.cells #[.int .i64 x.st, .int .i64 x.co, .int .i64 x.w, .int .i64 x.cr] 36)) fun e w2 => e = .returned (.tuple #[]) ∧
            ∃ y3, ((w2.setCell ⟨p, j * 4 + 1, none⟩ (.bool true)).setCell ⟨p, j * 4 + 2, none⟩ (.int .i64 k) = y3) ∧
              (w2.cell? ⟨p, j * 4 + 1, none⟩ = some (.bool false) ∧ w2.frozen? ⟨p, j * 4 + 1, none⟩ = false ∧ p < w2.heap.size ∧ (w2.setCell ⟨p, j * 4 + 1, none⟩ (.bool true)).frozen? ⟨p, j * 4 + 2, none⟩ = false ∧ ∃ u, (w2.setCell ⟨p, j * 4 + 1, none⟩ (.bool true)).cell? ⟨p, j * 4 + 2, none⟩ = some u) ∧
              ∃ G, VB w1 y3 c m p n per S.L.length (SM S.L) F (outQ S.Q k) G #[.int .i64 x.st, .int .i64 x.co, .int .i64 x.w, .int .i64 x.cr] ∧ PvOk G n per (pickS S k j)) := fun w1 hb => by
          have hv := h.below hb
          have B0 := VB.start hv.vr #[.int .i64 x.st, .int .i64 x.co, .int .i64 x.w, .int .i64 x.cr]
          refine (leave_vx B0.vr hv.ok hv.pv hfx).mono ?_
          rintro e w2 ⟨rfl, G, h1, h2, h3, h4⟩
          have hpv := h4 S (fun a _ => by rw [if_neg (fun e => by rw [hs] at e; exact absurd e.1 (by decide))]) (fun _ => rfl)
          have B1 := B0.step h1 h2 h3
          obtain ⟨g1, g2, g3⟩ := B1.vr.put hj 1 (by decide) (.bool true) (f := fun y => ⟨y.q, true, y.i, y.c⟩) rfl rfl
          have B2 := B1.step g1 g2 g3
          obtain ⟨g4, g5, g6⟩ := B2.vr.put hj 2 (by decide) (.int .i64 k) (f := fun y => ⟨y.q, y.t, k, y.c⟩) rfl rfl
          have B3 := B2.step g4 g5 g6
          rw [fset_fset] at B3
          have ht : (G j).t = false := (hpv j hj).1.trans et
          refine ⟨rfl, _, rfl, ⟨ht ▸ (B1.vr.pr.all hj).2.1, B1.vr.pr.f _, B1.vr.pr.lt, B2.vr.pr.f _, _, (B2.vr.pr.all hj).2.2.1⟩, _, B3, hpv.pick hv.ok hj hr hfx hs⟩
        have HF : Hid (∀ w1 y3 G, Below w.heap.size w w1 → VB w1 y3 c m p n per S.L.length (SM S.L) F (outQ S.Q k) G #[.int .i64 x.st, .int .i64 x.co, .int .i64 x.w, .int .i64 x.cr] → PvOk G n per (pickS S k j) →
            (y3.cell? ⟨w1.heap.size, 0, none⟩ = some (.int .i64 x.st) ∧ y3.frozen? ⟨w1.heap.size, 0, none⟩ = false ∧ w1.heap.size < y3.heap.size ∧ (y3.setCell ⟨w1.heap.size, 0, none⟩ (.int .i64 2)).cell? ⟨w1.heap.size, 1, none⟩ = some (.int .i64 x.co) ∧ (y3.setCell ⟨w1.heap.size, 0, none⟩ (.int .i64 2)).frozen? ⟨w1.heap.size, 1, none⟩ = false) ∧
            ∃ y5, (y3.setCell ⟨w1.heap.size, 0, none⟩ (.int .i64 2)).setCell ⟨w1.heap.size, 1, none⟩ (.int .i64 j) = y5 ∧
              (y5.cell? ⟨w1.heap.size, 0, none⟩ = some (.int .i64 2) ∧ y5.cell? ⟨w1.heap.size, 1, none⟩ = some (.int .i64 j) ∧ y5.cell? ⟨w1.heap.size, 2, none⟩ = some (.int .i64 x.w) ∧ y5.cell? ⟨w1.heap.size, 3, none⟩ = some (.int .i64 x.cr)) ∧ w1.heap.size < y5.heap.size ∧ y5.cell? ⟨c, 0, none⟩ = some (.map (some m)) ∧ c < y5.heap.size ∧
              ∃ y6, (Instr.mapUpdate 41 (.map (some m)) (.int .i64 k) (.agg #[.int .i64 2, .int .i64 j, .int .i64 x.w, .int .i64 x.cr])).run Try.prog y5.drew = .ok () y6 ∧ Tu w y6 c m p n per F (pickS S k j)) := fun w1 y3 G hb B3 hpv => by
          have hc : c < w1.heap.size := (h.below hb).vr.lt
          have B4 := B3.set hc 0 (.int .i64 2)
          have B5 := B4.set hc 1 (.int .i64 j)
          obtain ⟨y6, r1, r2, r3⟩ := B5.drew.vr.store k hk (.agg #[.int .i64 2, .int .i64 j, .int .i64 x.w, .int .i64 x.cr]) hL
          have B6 := B5.drew.step r2 r3 (Nw.refl _ _ _)
          refine ⟨⟨B3.b 0, B3.bf 0, B3.bl, B4.b 1, B4.bf 1⟩, _, rfl, ⟨B5.b 0, B5.b 1, B5.b 2, B5.b 3⟩, B5.bl, B5.vr.c0, B5.vr.lt, y6, r1, Tu.from_below hb ⟨G, ⟨B6.vr.congr (cnt_some hfx |>.trans (len_mod _ _ _).symm) (fun q => (SM_mod (f := pkF j) hfx (fun _ => rfl) q).symm) (fun _ _ => rfl), hpv, hok⟩, B6.tr, B6.nw⟩⟩
        clear h e1 e2 e3 hi q1 q2 q3 hr et hx hfx hm hid ho hok hs
        generalize x.st = sa at *
        generalize (x.co : Int) = sb at *
        generalize x.w = sd at *
        generalize x.cr = sf at *
        go_enter Try.func16, Try.ntmps16
        go_wp2_with fail
        refine C.mono ?_
        rintro e w1 ⟨rfl, rfl⟩
        clear C
        go_wp2_with fail
        refine K.mono ?_
        rintro e w2 ⟨rfl, hb⟩
        obtain ⟨c0, cl, hlu⟩ := HK.out w2 hb
        have K2 := HG.out w2 hb
        have HB : Hid (Below w1.heap.size w1 w2) := hb
        clear hb K HK HG d0 d1 d2 d3 pl
        go_wp2_with fail
        refine K2.mono ?_
        rintro e w3 ⟨rfl, y3, hy3, ⟨p1, p2, p3, p4, u, p5⟩, G, hG1, hG2⟩
        obtain ⟨⟨b0, b1, b2, b3, b4⟩, y5, hy5, ⟨v0, v1, v2, v3⟩, v4, v5, v6, y6, hrun, hT⟩ := HF.out w2 y3 G HB.out hG1 hG2
        have HT : Hid (_) := hT
        clear hT K2 HF hG1 hG2 hlu c0 cl
        subst hy3
        go_wp2_with fail
        go_region
        go_wp2_with fail
        go_ret3
        exact ⟨rfl, HT.out⟩
end
end Go.Proofs.Ytgdnklmnchcmeaa
