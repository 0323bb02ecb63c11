/-
  The program's Add, Remove, Wake, Block.
-/
import Derived.Test.YtgdnklmnchcmeaaVx
namespace Go.Proofs.Ytgdnklmnchcmeaa
open Go.RowKit Go.Maps
set_option linter.unusedVariables false
set_option maxRecDepth 100000
theorem MapIs.len {w : World} {m N : Nat} {M : Int → Option Value} {t e : TypeId} (h : MapIs w m N M) (hu : Try.prog.underlying t = some (.map 3 e)) (ty : TypeId) : (Builtin.len_ #[t] ty #[.map (some m)]).run Try.prog w = .ok (.int .i64 N) w := by
  obtain ⟨D, ho, hs, _⟩ := h
  rw [ho.len hu ty, hs]
def addE (S : St) (n : Nat) (k wt i : Int) : Int := if i < 0 ∨ (n : Int) ≤ i then 2 else if wt < 1 ∨ 256 < wt then 2 else if (fnd S.L k).isSome then 13 else if 64 ≤ S.L.length then 18 else 0
def addT (S : St) (n : Nat) (k wt i : Int) : St := if addE S n k wt i = 0 then addS S k wt i.toNat else S
def remE (S : St) (k : Int) : Int := match fnd S.L k with
  | none => 14
  | some x => if x.st = 2 then 21 else 0
def remT (S : St) (k : Int) : St := if remE S k = 0 then remS S k else S
def wakE (S : St) (k : Int) : Int := match fnd S.L k with
  | none => 14
  | some x => if x.st = 3 then 0 else 21
def wakT (S : St) (k : Int) : St := match fnd S.L k with
  | none => S
  | some x => if x.st = 3 then rdyS S k x.co else S
def blkE (S : St) (k : Int) : Int := match fnd S.L k with
  | none => 14
  | some x => if x.st = 3 then 21 else 0
def blkT (S : St) (k : Int) : St := if blkE S k = 0 then blkS S k else S
section
variable {w w' : World} {c m p n : Nat} {per : Int} {F : Nat → Pv} {S : St} {k : Int}
theorem maxLen_big : (65 : Nat) < maxLen := by decide
set_option maxHeartbeats 1600000 in
theorem add_vx (h : VX w c m p n per F S) (hk : KW k) (wt i : Int) : Calls Try.prog 19 #[.pointer (some ⟨c, 0, none⟩), .int .i64 k, .int .i64 wt, .int .i64 i] w fun e w' => e = .returned (.int .i64 (addE S n k wt i)) ∧ Tu w w' c m p n per F (addT S n k wt i) := by
  by_cases hi : i < 0 ∨ (n : Int) ≤ i
  · have e1 : addE S n k wt i = 2 := by unfold addE; rw [if_pos hi]
    have e2 : addT S n k wt i = S := by unfold addT; rw [e1, if_neg (by decide)]
    rw [e1, e2]
    have C := place_no h.vr i hi
    have HT : Hid (Tu w w c m p n per F S) := h.tu0
    clear h e1 e2
    go_enter Try.func19, Try.ntmps19
    go_wp2_with fail
    refine C.mono ?_
    rintro e w1 ⟨rfl, rfl⟩
    go_wp2_with fail
    go_ret
    exact ⟨rfl, HT.out⟩
  · obtain ⟨j, rfl⟩ : ∃ j : Nat, i = j := ⟨i.toNat, by omega⟩
    have hj : j < n := by omega
    have C := place_at h.vr j hj
    by_cases hw : wt < 1 ∨ 256 < wt
    · have e1 : addE S n k wt j = 2 := by unfold addE; rw [if_neg hi, if_pos hw]
      have e2 : addT S n k wt j = S := by unfold addT; rw [e1, if_neg (by decide)]
      rw [e1, e2]
      have HT : Hid (Tu w w c m p n per F S) := h.tu0
      clear h e1 e2 hi
      rcases hw with hw | hw
      · go_enter Try.func19, Try.ntmps19
        go_wp2_with fail
        refine C.mono ?_
        rintro e w1 ⟨rfl, rfl⟩
        go_wp2_with fail
        go_ret
        exact ⟨rfl, HT.out⟩
      · go_enter Try.func19, Try.ntmps19
        go_wp2_with fail
        refine C.mono ?_
        rintro e w1 ⟨rfl, rfl⟩
        go_wp2_with fail
        go_ret
        exact ⟨rfl, HT.out⟩
    · have hw0 : ¬ wt < 1 := fun e => hw (.inl e)
      have hw1 : ¬ 256 < wt := fun e => hw (.inr e)
      have c0 := h.vr.c0
      have cl := h.vr.lt
      have hr := look_run Try.underlying41 (zeroL w) h.vr.mp k hk
      cases hx : fnd S.L k with
      | some x =>
        have e1 : addE S n k wt j = 13 := by unfold addE; rw [if_neg hi, if_neg hw, hx]; rfl
        have e2 : addT S n k wt j = S := by unfold addT; rw [e1, if_neg (by decide)]
        rw [e1, e2]
        have HT : Hid (Tu w w c m p n per F S) := h.tu0
        have e : SM S.L k = some (lv x) := by unfold SM; rw [hx]; rfl
        rw [e] at hr
        simp only [Option.getD_some] at hr
        have hst := (h.ok.ok x (fnd_mem hx).1).st
        have hs0 : (x.st == 0) = false := by rcases hst with e | e | e <;> rw [e] <;> rfl
        have hs1 : ¬ x.st = 0 := by rcases hst with e | e | e <;> rw [e] <;> decide
        unfold lv at hr
        generalize x.st = sa at *
        generalize (x.co : Int) = sb at *
        generalize x.w = sd at *
        generalize x.cr = sf at *
        clear h e1 e2 hi hw hst e hx
        go_enter Try.func19, Try.ntmps19
        go_wp2_with fail
        refine C.mono ?_
        rintro e w1 ⟨rfl, rfl⟩
        go_wp2_with fail
        go_ret
        exact ⟨rfl, HT.out⟩
      | none =>
        have e : SM S.L k = none := by unfold SM; rw [hx]; rfl
        rw [e] at hr
        simp only [Option.getD_none] at hr
        have hlen := fun ty => h.vr.mp.len Try.underlying41 ty
        have h64 := h.ok.len
        by_cases hl : S.L.length = 64
        · have e1 : addE S n k wt j = 18 := by unfold addE; rw [if_neg hi, if_neg hw, hx, if_neg (by decide), if_pos (by omega)]
          have e2 : addT S n k wt j = S := by unfold addT; rw [e1, if_neg (by decide)]
          rw [e1, e2]
          have HT : Hid (Tu w w c m p n per F S) := h.tu0
          rw [hl] at hlen
          clear h e1 e2 hi hw e hx
          go_enter Try.func19, Try.ntmps19
          go_wp2_with fail
          refine C.mono ?_
          rintro e w1 ⟨rfl, rfl⟩
          go_wp2_with fail
          go_ret
          exact ⟨rfl, HT.out⟩
        · have e1 : addE S n k wt j = 0 := by unfold addE; rw [if_neg hi, if_neg hw, hx, if_neg (by decide), if_neg (by omega)]
          have e2 : addT S n k wt j = addS S k wt j := by unfold addT; rw [e1, if_pos rfl]; rfl
          rw [e1, e2]
          have hql := h.ok.qlen hj
          have K := queueUp_vr h.vr k hk j hj 0 wt 0 (by omega) (by have := maxLen_big; omega)
          have HG : Hid (∀ (w1 : World) (v : Value), VR w1 c m p n per (cnt S.L.length (SM S.L) k) (upd (SM S.L) k (some (.agg #[.int .i64 1, .int .i64 j, .int .i64 wt, .int .i64 0]))) (fset F j (qset v)) (qput S.Q j (S.Q j ++ [k])) → Trn (Sp m p n F) w w1 → Nw w n F (fset F j (qset v)) → Tu w w1 c m p n per F (addS S k wt j)) := fun w1 v h1 h2 h3 =>
            ⟨_, ⟨h1.congr (by rw [cnt_none hx]; simp [addS]) (fun q => (SM_app (x := ⟨k, wt, 0, j, 1⟩) hx q).symm) (fun a _ => add_qput a),
              PvOk.q (S := addS S k wt j) (PvOk.same (S' := addS S k wt j) h.pv (fun a => rn_app S.L ⟨k, wt, 0, j, 1⟩ (show (1 : Int) ≠ 2 by decide) a) rfl) j v, h.ok.addS hk hx (by omega) (by omega) hj (by omega)⟩, h2, h3⟩
          have hl1 : ((S.L.length : Nat) : Int) ≠ 64 := by omega
          have hl2 : ((S.L.length : Int) == 64) = false := by simpa using hl1
          clear h e1 e2 hi hw e hx hql
          generalize S.L.length = sl at *
          go_enter Try.func19, Try.ntmps19
          go_wp2_with fail
          refine C.mono ?_
          rintro e w1 ⟨rfl, rfl⟩
          go_wp2_with fail
          refine K.mono ?_
          rintro e w2 ⟨rfl, v, q1, q2, q3⟩
          have HT : Hid (Tu w1 w2 c m p n per F (addS S k wt j)) := HG.out _ _ q1 q2 q3
          clear q1 q2 q3 K HG
          go_wp2_with fail
          go_ret
          exact ⟨rfl, HT.out⟩
/-- Wake -/
theorem wake_vx (h : VX w c m p n per F S) (hk : KW k) : Calls Try.prog 21 #[.pointer (some ⟨c, 0, none⟩), .int .i64 k] w fun e w' => e = .returned (.int .i64 (wakE S k)) ∧ Tu w w' c m p n per F (wakT S k) := by
  unfold wakE wakT
  cases hx : fnd S.L k with
  | none =>
    have C := of_none h k hk hx
    have HV : Hid (VX w c m p n per F S) := h
    unfold z4 at C
    clear h hx
    go_enter Try.func21, Try.ntmps21
    go_wp2_with fail
    refine C.mono ?_
    rintro e w1 ⟨rfl, hb⟩
    have HB : Hid (Below w.heap.size w (w1.alloc (.cells #[.int .i64 0, .int .i64 0, .int .i64 0, .int .i64 0] 36))) := hb.alloc hb.size _
    clear C hb
    go_wp2_with fail
    go_ret
    exact ⟨rfl, HV.out.tu HB.out⟩
  | some x =>
    have C := of_some h k hk hx
    have ho := h.ok.ok x (fnd_mem hx).1
    by_cases hs : x.st = 3
    · simp only [hs, if_true]
      have hql := h.ok.qlen ho.co
      have h64 := h.ok.len
      have HV : Hid (VX w c m p n per F S) := h
      have HG : Hid (∀ (w1 w2 : World) (v : Value), Below w.heap.size w w1 → VR w2 c m p n per (cnt S.L.length (SM S.L) k) (upd (SM S.L) k (some (.agg #[.int .i64 1, .int .i64 x.co, .int .i64 x.w, .int .i64 x.cr]))) (fset F x.co (qset v)) (qput S.Q x.co (S.Q x.co ++ [k])) → Trn (Sp m p n F) w1 w2 → Nw w1 n F (fset F x.co (qset v)) → Tu w w2 c m p n per F (rdyS S k x.co)) := fun w1 w2 v hb h1 h2 h3 => by
        have hok := h.ok.rdyS hx (by rw [hs]; decide)
        exact Tu.from_below hb ⟨_, ⟨h1.congr (by rw [cnt_some hx]; simp [rdyS, len_mod]) (fun q => (SM_mod (f := stF 1) hx (fun _ => rfl) q).symm) (fun a _ => add_qput a),
          PvOk.q (S := rdyS S k x.co) (PvOk.same (S' := rdyS S k x.co) h.pv (fun a => rn_still (f := stF 1) h.ok hx hok (fun _ => rfl) (by rw [hs]; decide) (by show (1 : Int) ≠ 2; decide) a) rfl) x.co v, hok⟩, h2, h3⟩
      have HQ : Hid (∀ w1, Below w.heap.size w w1 → VR w1 c m p n per S.L.length (SM S.L) F S.Q) := fun w1 hb => h.vr.below hb
      unfold lv at C
      rw [hs] at C
      have hco : x.co < n := ho.co
      have hL : S.L.length < maxLen := by have := maxLen_big; omega
      have hQl : (S.Q x.co).length ≤ 65536 := by omega
      clear h hx ho hs hql h64
      obtain ⟨wt, hwt⟩ : ∃ wt, x.w = wt := ⟨_, rfl⟩
      obtain ⟨cr, hcr⟩ : ∃ cr, x.cr = cr := ⟨_, rfl⟩
      rw [hwt, hcr] at C HG
      clear hwt hcr
      generalize x.co = j at *
      go_enter Try.func21, Try.ntmps21
      go_wp2_with fail
      refine C.mono ?_
      rintro e w1 ⟨rfl, hb⟩
      have HB : Hid (Below w.heap.size w (w1.alloc (.cells #[.int .i64 3, .int .i64 j, .int .i64 wt, .int .i64 cr] 36))) := hb.alloc hb.size _
      have K := queueUp_vr (HQ.out _ HB.out) k hk j hco 3 wt cr hQl hL
      clear C hb
      go_wp2_with fail
      refine K.mono ?_
      rintro e w2 ⟨rfl, v, q1, q2, q3⟩
      have HT : Hid (Tu w w2 c m p n per F (rdyS S k j)) := HG.out _ _ _ HB.out q1 q2 q3
      clear q1 q2 q3 K HG
      go_wp2_with fail
      go_ret
      exact ⟨rfl, HT.out⟩
    · simp only [hs, if_false]
      have HV : Hid (VX w c m p n per F S) := h
      unfold lv at C
      have hs2 : (x.st != 3) = true := by simpa using hs
      clear h hx ho
      generalize x.st = sa at *
      generalize (x.co : Int) = sb at *
      generalize x.w = sd at *
      generalize x.cr = sf at *
      go_enter Try.func21, Try.ntmps21
      go_wp2_with fail
      refine C.mono ?_
      rintro e w1 ⟨rfl, hb⟩
      have HB : Hid (Below w.heap.size w (w1.alloc (.cells #[.int .i64 sa, .int .i64 sb, .int .i64 sd, .int .i64 sf] 36))) := hb.alloc hb.size _
      clear C hb
      go_wp2_with fail
      go_ret
      exact ⟨rfl, HV.out.tu HB.out⟩
end
end Go.Proofs.Ytgdnklmnchcmeaa
