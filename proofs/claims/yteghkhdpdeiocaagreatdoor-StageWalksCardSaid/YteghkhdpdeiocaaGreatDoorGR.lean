/-
  What Protect and Unmap do: their contracts.
  What Unmap does: its contract.
-/
import Derived.Test.YteghkhdpdeiocaaGreatDoorGQ
namespace Go.Proofs.YteghkhdpdeiocaaGreatDoor
open Go.RowKit Go.Maps
set_option linter.unusedVariables false
set_option maxRecDepth 100000

/-- rights in a block of their own -/
def B3 (W : World) (q : Nat) (a b c : Bool) : Prop := W.heap[q]? = some (.cells #[.bool a, .bool b, .bool c] 29 (0, 0))
theorem B3.cs {W : World} {q : Nat} {a b c : Bool} (h : B3 W q a b c) : W.cell? ⟨q, 0, none⟩ = some (.bool a) ∧ W.cell? ⟨q, 1, none⟩ = some (.bool b) ∧ W.cell? ⟨q, 2, none⟩ = some (.bool c) ∧ q < W.heap.size := by
  unfold B3 at h
  refine ⟨?_, ?_, ?_, lt_of_heap h⟩ <;> rw [cell_at h] <;> rfl
theorem B3.below {W W' : World} {q : Nat} {a b c : Bool} (h : B3 W q a b c) (hb : Below W.heap.size W W') : B3 W' q a b c := (hb.block _ (lt_of_heap h)).trans h
section
variable {B : Nat → Prop} {w w' : World} {b g D T L gu n : Nat} {O : Nat → Prop} {z : Zs}
theorem SX.not3 (h : SX B w b g D T L gu z) {q : Nat} {a' b' c' : Bool} (h3 : B3 w q a' b' c') : ¬ Pt g T L q := by
  obtain ⟨cs, h1, _⟩ := h.tb.blk
  obtain ⟨es, cl, h2⟩ := h.mp.typ
  rintro (e | e | e)
  · exact ne_typ h3 h1 (by decide) e
  · exact ne_map h3 h2 e
  · exact ne_typ h3 h.mm.row (by decide) e
theorem SX.notE (h : SX B w b g D T L gu z) {q : Nat} {v r w' x u s d : Bool} {fr : Int} (h3 : EB w q v r w' x u s d fr) : ¬ Pt g T L q := by
  obtain ⟨cs, h1, _⟩ := h.tb.blk
  obtain ⟨es, cl, h2⟩ := h.mp.typ
  rintro (e | e | e)
  · exact ne_typ h3 h1 (by decide) e
  · exact ne_map h3 h2 e
  · exact ne_typ h3 h.mm.row (by decide) e
theorem prQ_ch (z : Zs) (p : Int) (a b c : Bool) (h : chE z p ≠ 0) : prQ z p a b c = chE z p := by
  unfold prQ chE at *
  by_cases h1 : z.x.rt < 0
  · rw [if_pos h1, if_pos h1]
  · rw [if_neg h1] at h ⊢
    rw [if_neg h1]
    by_cases h2 : 0 ≤ p ∧ p < 1024
    · rw [if_neg (not_not_intro h2)] at h
      exact absurd rfl h
    · rw [if_pos (fun e => h2 ⟨e.1, e.2.1⟩), if_pos h2]
theorem ch_ok {z : Zs} {p : Int} (h0 : chE z p = 0) : ∃ P : Nat, p = P ∧ P < 1024 ∧ ¬ z.x.rt < 0 := by
  unfold chE at h0
  by_cases h1 : z.x.rt < 0
  · rw [if_pos h1] at h0; omega
  · rw [if_neg h1] at h0
    by_cases h2 : 0 ≤ p ∧ p < 1024
    · exact ⟨p.toNat, by omega, by omega, h1⟩
    · rw [if_pos h2] at h0; omega
theorem cnt_some {pg : Nat → Option Pg} {p : Nat} {y y' : Pg} (h : pg p = some y) (k : Nat) : cnt (upd pg p (some y')) k = cnt pg k := by
  unfold cnt
  refine List.countP_congr fun j hj => ?_
  by_cases e : 32 * k + j = p
  · rw [e, upd_self, h]
    simp
  · rw [upd_other _ _ _ e]
set_option maxHeartbeats 1600000 in
theorem protect_sx (h : SX B w b g D T L gu z) (hi : Iv n O z) (p : Int) (a b' c : Bool) : Calls Tryz.prog 24 #[.pointer (some ⟨T, 0, none⟩), .int .i64 p, .agg #[.bool a, .bool b', .bool c]] w fun e w1 => e = .returned (.int .i64 (prQ z p a b' c)) ∧ SX B w1 b g D T L gu (prZ z p a b' c) ∧ Tn (Pt g T L) B w w1 := by
  have HB : Hid (Below w.heap.size w (w.alloc (.cells #[.bool a, .bool b', .bool c] 29))) := (Below.refl _ _).alloc (Nat.le_refl _) _
  have HS : Hid (SX B (w.alloc (.cells #[.bool a, .bool b', .bool c] 29)) b g D T L gu z ∧ B3 (w.alloc (.cells #[.bool a, .bool b', .bool c] 29)) w.heap.size a b' c) := ⟨h.below HB.out, heap_alloc_at _ _⟩
  have C := check_sx HS.out.1 hi.rt.1 p
  by_cases h0 : chE z p = 0
  · rw [h0] at C
    obtain ⟨P, rfl, hP, hrt⟩ := ch_ok h0
    have M0 := mayBe_any a b' c (w.alloc (.cells #[.bool a, .bool b', .bool c] 29))
    cases hm : mayR a b' c
    · have e1 : prQ z P a b' c = 2 := by unfold prQ; rw [if_neg hrt, if_pos (by simp [hm])]
      have e2 : prZ z P a b' c = z := by unfold prZ; rw [if_neg (by omega)]
      rw [e1, e2]
      rw [hm] at M0
      clear e1 e2 h h0 hm
      go_enter Tryz.func24, Tryz.ntmps24
      go_wp2_with fail
      refine C.mono ?_
      rintro e w1 ⟨rfl, rfl⟩
      go_wp2_with fail
      refine M0.mono ?_
      rintro e w1 ⟨rfl, hb1⟩
      have H1 : Hid (SX B w1 b g D T L gu z ∧ Below w.heap.size w w1) := ⟨HS.out.1.below hb1, HB.out.trans (hb1.mono (by simp))⟩
      clear hb1 M0 C
      go_wp2_with fail
      go_ret
      exact ⟨rfl, H1.out.1, Tn.of_below H1.out.2⟩
    · rw [hm] at M0
      have FD := fun (W : World) (hS : SX B W b g D T L gu z) => find_sx hS hi hP
      cases hx : z.x.pg P with
      | none =>
        have e1 : prQ z P a b' c = 14 := by unfold prQ; rw [if_neg hrt, if_neg (not_not_intro ⟨by omega, by omega, hm⟩), Int.toNat_natCast, hx]; rfl
        have e2 : prZ z P a b' c = z := by unfold prZ; rw [if_neg (by omega)]
        rw [e1, e2]
        simp only [hx] at FD
        unfold fnV at FD
        simp only at FD
        clear e1 e2 h h0 hm hx
        go_enter Tryz.func24, Tryz.ntmps24
        go_wp2_with fail
        refine C.mono ?_
        rintro e w1 ⟨rfl, rfl⟩
        go_wp2_with fail
        refine M0.mono ?_
        rintro e w1 ⟨rfl, hb1⟩
        have H1 : Hid (SX B w1 b g D T L gu z ∧ Below w.heap.size w w1) := ⟨HS.out.1.below hb1, HB.out.trans (hb1.mono (by simp))⟩
        clear hb1 M0 C
        go_wp2_with fail
        refine (FD _ H1.out.1).mono ?_
        rintro e w2 ⟨rfl, hb2⟩
        have H2 : Hid (SX B (w2.alloc (.cells #[.bool false, .bool false, .bool false, .bool false, .bool false, .bool false, .bool false, .int .i64 0] 93)) b g D T L gu z ∧ Below w.heap.size w (w2.alloc (.cells #[.bool false, .bool false, .bool false, .bool false, .bool false, .bool false, .bool false, .int .i64 0] 93))) := ⟨(H1.out.1.below hb2).below ((Below.refl _ _).alloc (Nat.le_refl _) _), (H1.out.2.trans (hb2.mono H1.out.2.size)).alloc (by have := H1.out.2.size; have := hb2.size; omega) _⟩
        clear hb2 FD
        go_wp2_with fail
        go_ret
        exact ⟨rfl, H2.out.1, Tn.of_below H2.out.2⟩
      | some y =>
        have e1 : prQ z P a b' c = 0 := by unfold prQ; rw [if_neg hrt, if_neg (not_not_intro ⟨by omega, by omega, hm⟩), Int.toNat_natCast, hx]; rfl
        have e2 : prZ z P a b' c = mapD z P ⟨y.f, a, b', c⟩ := by unfold prZ; rw [if_pos e1, Int.toNat_natCast, hx]; rfl
        rw [e1, e2]
        simp only [hx] at FD
        unfold fnV at FD
        simp only at FD
        have hl := hi.has hP hx
        obtain ⟨F, hF⟩ := Int.eq_ofNat_of_zero_le hl
        have l2 := (hi.lo (P / 32) (by omega)).2
        have hlen := hi.len
        have hn2 := hi.n2
        obtain ⟨yf, ym⟩ := hi.pf P y hP hx
        have PG := fun W => pageOf_any (y.f : Int) a b' c W
        have ST := fun (W : World) (hS : SX B W b g D T L gu z) => set_sx hS hP hF (by omega) true a b' c true false false (y.f : Int)
        have ep : E.packN true a b' c true false false (y.f : Int) = (Pg.mk y.f a b' c).num := pack_page ⟨y.f, a, b', c⟩ (by show y.f < 65536; omega) hm
        simp only [ep] at ST
        have HE : Hid (∀ W, SX B W b g D T L gu ⟨set8 z.m F (P % 32) (Pg.mk y.f a b' c).num, z.S, z.x⟩ → SX B W b g D T L gu (mapD z P ⟨y.f, a, b', c⟩)) := fun W hW => by
          unfold mapD
          rw [hF, Int.toNat_natCast]
          exact ⟨hW.sz, hW.bt, hW.mm, hW.fx, hW.tb.congr (fun k _ => (cnt_some hx k).symm), hW.mp, hW.bl, hW.b01, hW.hB, hW.lo⟩
        clear e1 e2 h h0 hm hl hF l2 hlen hn2 yf ym ep
        unfold E.ent at *
        go_enter Tryz.func24, Tryz.ntmps24
        go_wp2_with fail
        refine C.mono ?_
        rintro e w1 ⟨rfl, rfl⟩
        go_wp2_with fail
        refine M0.mono ?_
        rintro e w1 ⟨rfl, hb1⟩
        have H1 : Hid (SX B w1 b g D T L gu z ∧ Below w.heap.size w w1 ∧ B3 w1 w.heap.size a b' c) := ⟨HS.out.1.below hb1, HB.out.trans (hb1.mono (by simp)), HS.out.2.below hb1⟩
        clear hb1 M0 C HS HB
        go_wp2_with fail
        refine (FD _ H1.out.1).mono ?_
        rintro e w2 ⟨rfl, hb2⟩
        have H2 : Hid (SX B (w2.alloc (.cells #[.bool true, .bool y.r, .bool y.w, .bool y.x, .bool true, .bool false, .bool false, .int .i64 y.f] 93)) b g D T L gu z ∧ Below w.heap.size w (w2.alloc (.cells #[.bool true, .bool y.r, .bool y.w, .bool y.x, .bool true, .bool false, .bool false, .int .i64 y.f] 93)) ∧ B3 (w2.alloc (.cells #[.bool true, .bool y.r, .bool y.w, .bool y.x, .bool true, .bool false, .bool false, .int .i64 y.f] 93)) w.heap.size a b' c) := ⟨(H1.out.1.below hb2).below ((Below.refl _ _).alloc (Nat.le_refl _) _), (H1.out.2.1.trans (hb2.mono H1.out.2.1.size)).alloc (by have := H1.out.2.1.size; have := hb2.size; omega) _, (H1.out.2.2.below hb2).below ((Below.refl _ _).alloc (Nat.le_refl _) _)⟩
        have hq2 : w.heap.size < w2.heap.size := lt_of_heap (H1.out.2.2.below hb2)
        have q2 := H2.out.2.2.cs
        clear hb2 FD H1
        go_wp2_with fail
        refine (PG _).mono ?_
        rintro e w3 ⟨rfl, hb3⟩
        have H3 : Hid (SX B w3 b g D T L gu z ∧ Below w.heap.size w w3) := ⟨H2.out.1.below hb3, H2.out.2.1.trans (hb3.mono H2.out.2.1.size)⟩
        clear hb3 PG H2 q2
        go_wp2_with fail
        refine (ST _ H3.out.1).mono ?_
        rintro e w4 ⟨rfl, h4, tn4⟩
        have H4 : Hid (SX B w4 b g D T L gu (mapD z P ⟨y.f, a, b', c⟩) ∧ Tn (Pt g T L) B w w4) := ⟨HE.out _ h4, (Tn.of_below H3.out.2).trans tn4.pt⟩
        clear h4 tn4 ST
        go_wp2_with fail
        go_ret
        exact ⟨rfl, H4.out⟩
  · have e1 := prQ_ch z p a b' c h0
    have e2 : prZ z p a b' c = z := by unfold prZ; rw [if_neg (by rw [e1]; exact h0)]
    rw [e2, e1]
    clear e1 e2 h
    generalize chE z p = y at *
    go_enter Tryz.func24, Tryz.ntmps24
    go_wp2_with fail
    refine C.mono ?_
    rintro e w1 ⟨rfl, rfl⟩
    go_wp2_with fail
    go_ret
    exact ⟨rfl, HS.out.1, Tn.of_below HB.out⟩
end
end Go.Proofs.YteghkhdpdeiocaaGreatDoor
namespace Go.Proofs.YteghkhdpdeiocaaGreatDoor
open Go.RowKit Go.Maps
set_option linter.unusedVariables false
set_option maxRecDepth 100000

theorem cnt_at (pg : Nat → Option Pg) (p : Nat) (o : Option Pg) : cnt (upd pg p o) (p / 32) + (if (pg p).isSome = true then 1 else 0) = cnt pg (p / 32) + (if o.isSome = true then 1 else 0) := by
  have := count_upd (fun x : Option Pg => x.isSome) (fun j => pg (32 * (p / 32) + j)) 32 (p % 32) o (by omega)
  have e : (fun j => upd pg p o (32 * (p / 32) + j)) = upd (fun j => pg (32 * (p / 32) + j)) (p % 32) o := by
    funext j
    by_cases e : j = p % 32
    · subst e
      rw [upd_self, show 32 * (p / 32) + p % 32 = p by omega, upd_self]
    · rw [upd_other _ _ _ e, upd_other _ _ _ (by omega)]
  simp only [show 32 * (p / 32) + p % 32 = p by omega] at this
  unfold cnt
  have e' : ∀ j, (upd pg p o (32 * (p / 32) + j)).isSome = (upd (fun j => pg (32 * (p / 32) + j)) (p % 32) o j).isSome := fun j => congrArg Option.isSome (congrFun e j)
  simp only [e']
  exact this
theorem cnt_off (pg : Nat → Option Pg) (p : Nat) (o : Option Pg) {k : Nat} (hk : k ≠ p / 32) : cnt (upd pg p o) k = cnt pg k := by
  unfold cnt
  refine List.countP_congr fun j hj => ?_
  have := List.mem_range.1 hj
  rw [upd_other _ _ _ (by omega)]
theorem cnt_le (pg : Nat → Option Pg) (k : Nat) : cnt pg k ≤ 32 := by
  have := List.countP_le_length (p := fun j => (pg (32 * k + j)).isSome) (l := List.range 32)
  simpa [cnt] using this
section
variable {B : Nat → Prop} {w w' : World} {b g D T L gu n : Nat} {O : Nat → Prop} {z : Zs}
/-- how many pages a lower table has, turned -/
theorem SX.count (h : SX B w b g D T L gu z) {p : Nat} (hp : p < 1024) (o : Option Pg) (v : Nat) (hv : v = cnt (upd z.x.pg p o) (p / 32)) : SX B (w.setCell ⟨T, 5 + p / 32, none⟩ (.int .i64 v)) b g D T L gu ⟨z.m, z.S, { z.x with pg := upd z.x.pg p o }⟩ ∧ Tn (Pt g T L) B w (w.setCell ⟨T, 5 + p / 32, none⟩ (.int .i64 v)) := by
  obtain ⟨t1, t2⟩ := h.tb.setC (k := p / 32) (by omega) v
  refine ⟨h.block (x' := { z.x with pg := upd z.x.pg p o }) rfl (t1.congr fun k hk => ?_) t2, Tn.of_trn t2 fun k e => .inl e⟩
  show upd (cnt z.x.pg) (p / 32) v k = cnt (upd z.x.pg p o) k
  by_cases e : k = p / 32
  · subst e; rw [upd_self, hv]
  · rw [upd_other _ _ _ e, cnt_off _ _ _ e]
set_option maxHeartbeats 3200000 in
theorem unmap_sx (h : SX B w b g D T L gu z) (hi : Iv n O z) (p : Int) : Calls Tryz.prog 22 #[.pointer (some ⟨T, 0, none⟩), .int .i64 p] w fun e w1 => e = .returned (.tuple #[.int .i64 (unR z p), .int .i64 (unQ z p)]) ∧ SX B w1 b g D T L gu (unZ gu z p) ∧ Tn (Pt g T L) B w w1 := by
  have C := mapped_sx h hi p
  by_cases h0 : unQ z p = 0
  · obtain ⟨hr, P, y, rfl, hP, hy⟩ := unQ_ok h0
    have e1 : mdV z P = .agg #[.bool true, .bool y.r, .bool y.w, .bool y.x, .bool true, .bool false, .bool false, .int .i64 y.f] := by unfold mdV; rw [if_pos h0, Int.toNat_natCast, hy]
    have e2 : unR z P = y.f := by unfold unR; rw [if_pos h0, Int.toNat_natCast, hy]; rfl
    have e3 : unZ gu z P = unD gu z P := by unfold unZ; rw [if_pos h0, Int.toNat_natCast]
    rw [e1, h0] at C
    rw [e2, e3, h0]
    have hl := hi.has hP hy
    obtain ⟨F, hF⟩ := Int.eq_ofNat_of_zero_le hl
    obtain ⟨R, hR⟩ := Int.eq_ofNat_of_zero_le hr
    have l2 := (hi.lo (P / 32) (by omega)).2
    have hlen := hi.len
    have hn2 := hi.n2
    have hrt := hi.rt
    have hFl : F * 256 + 256 ≤ z.m.length := by omega
    have hRl : R * 256 + 256 ≤ z.m.length := by omega
    have hw : IntKind.i64.wrap ((P : Int) / 32) = ((P / 32 : Nat) : Int) := by rw [quo_w P hP]; omega
    have hk : P / 32 < 32 := by omega
    have hk' : ((P / 32 : Nat) : Int) < 32 := by omega
    have ca := cnt_at z.x.pg P none
    rw [hy] at ca
    simp only [Option.isSome_some, if_true, Option.isSome_none, Bool.false_eq_true, if_false] at ca
    have cl := cnt_le z.x.pg (P / 32)
    have eA : ∀ W, SX B W b g D T L gu ⟨set8 z.m F (P % 32) 0, frS z.S y.f gu, { z.x with pg := upd z.x.pg P none }⟩ → SX B W b g D T L gu (unA gu z P) := fun W hW => by
      unfold unA
      rw [hF, Int.toNat_natCast, hy]
      exact hW
    have eAx : (unA gu z P).x.pg = upd z.x.pg P none := rfl
    have eAr : (unA gu z P).x.rt = (R : Int) := hR
    have eAl : (unA gu z P).x.lo (P / 32) = (F : Int) := hF
    have eAm : R * 256 + 256 ≤ (unA gu z P).m.length := by
      show _ ≤ (set8 z.m (z.x.lo (P / 32)).toNat (P % 32) 0).length
      rw [hF, Int.toNat_natCast, set8_len _ _ hFl (by omega)]
      exact hRl
    have HA : Hid (_) := eA
    have ST := fun (W : World) (hS : SX B W b g D T L gu z) => set_sx hS hP hF hFl false false false false false false false 0
    rw [pack_none] at ST
    have FR := fun (W : World) (hS : SX B W b g D T L gu ⟨set8 z.m F (P % 32) 0, z.S, z.x⟩) => free_fx hS.fx (y.f : Int) gu
    have CT := fun (W : World) (hS : SX B W b g D T L gu ⟨set8 z.m F (P % 32) 0, frS z.S y.f gu, z.x⟩) => hS.count hP none (cnt z.x.pg (P / 32) - 1) (by show _ = cnt (upd z.x.pg P none) (P / 32); omega)
    have RZ := fun (W : World) (hS : SX B W b g D T L gu (unA gu z P)) => raze_sx hS eAr eAm hk eAl
    have HS : Hid (SX B w b g D T L gu z) := h
    unfold unD
    rw [eAx]
    clear h hi h0 e1 e2 e3 hl hF hR l2 hlen hn2 hrt hFl hRl eA eAx eAr eAl eAm hy
    unfold E.ent at *
    generalize hkk : P / 32 = k at *
    generalize hcc : cnt z.x.pg k = c at *
    have hc1 : 1 ≤ c := by omega
    have hci : IntKind.i64.wrap ((c : Int) - 1) = ((c - 1 : Nat) : Int) := by rw [IntKind.wrap_i64]; omega
    by_cases hz0 : cnt (upd z.x.pg P none) k = 0
    · rw [if_pos hz0]
      go_enter Tryz.func22, Tryz.ntmps22
      go_wp2_with fail
      refine C.mono ?_
      rintro e w1 ⟨rfl, hb1⟩
      have H1 : Hid (SX B (w1.alloc (.cells #[.bool true, .bool y.r, .bool y.w, .bool y.x, .bool true, .bool false, .bool false, .int .i64 y.f] 93)) b g D T L gu z ∧ Tn (Pt g T L) B w (w1.alloc (.cells #[.bool true, .bool y.r, .bool y.w, .bool y.x, .bool true, .bool false, .bool false, .int .i64 y.f] 93)) ∧ EB (w1.alloc (.cells #[.bool true, .bool y.r, .bool y.w, .bool y.x, .bool true, .bool false, .bool false, .int .i64 y.f] 93)) w1.heap.size true y.r y.w y.x true false false y.f) := by
        have hb := hb1.alloc hb1.size (.cells #[.bool true, .bool y.r, .bool y.w, .bool y.x, .bool true, .bool false, .bool false, .int .i64 y.f] 93)
        exact ⟨HS.out.below hb, Tn.of_below hb, heap_alloc_at _ _⟩
      clear hb1
      go_wp2_with fail
      refine (ST _ H1.out.1).mono ?_
      rintro e w2 ⟨rfl, h2, tn2⟩
      have H2 : Hid (SX B w2 b g D T L gu ⟨set8 z.m F (P % 32) 0, z.S, z.x⟩ ∧ Tn (Pt g T L) B w w2 ∧ EB w2 w1.heap.size true y.r y.w y.x true false false y.f) := ⟨h2, H1.out.2.1.trans tn2.pt, tn2.pt.keep _ _ H1.out.2.2 (H1.out.1.notE H1.out.2.2) (.inr (not_of (by decide)))⟩
      clear h2 tn2 H1
      have hc1' := And.intro H2.out.1.drew.tb.c1 (And.intro H2.out.1.drew.tb.c2 (show w2.drew.cell? ⟨w1.heap.size, 7, none⟩ = some (.int .i64 y.f) from (EB.cs (show EB w2.drew w1.heap.size true y.r y.w y.x true false false y.f from H2.out.2.2)).2.2.2.2.2.2.2))
      have F1 := FR _ H2.out.1.drew
      have dz := H2.out.1.tb.lt
      have dq := lt_of_heap H2.out.2.2
      go_wp2_with fail
      go_region_held2 (fun W => W.cell? ⟨T, 1, none⟩ = some (.pointer (some ⟨D, 0, none⟩)) ∧ W.cell? ⟨T, 2, none⟩ = some (.int .i64 gu) ∧ W.cell? ⟨w1.heap.size, 7, none⟩ = some (.int .i64 y.f))
        (first | exact hc1' | exact hc2')
        (first
          | (go_at_call 56; refine F1.mono ?_; rintro q y2 ⟨rfl, hf2, ht2⟩; (have H3 : Hid (SX B y2 b g D T L gu ⟨set8 z.m F (P % 32) 0, frS z.S y.f gu, z.x⟩ ∧ Tn (Pt g T L) B w y2 ∧ EB y2 w1.heap.size true y.r y.w y.x true false false y.f) := ⟨H2.out.1.drew.frames hf2 ht2, H2.out.2.1.drew.trans (Tn.of_tu ht2), ht2.keep _ _ H2.out.2.2 (.inr (not_of (by decide)))⟩); (have hc2' := And.intro H3.out.1.tb.c1 (And.intro H3.out.1.tb.c2 H3.out.2.2.cs.2.2.2.2.2.2.2))))
      clear hc1' hc2' F1 dz dq H2
      have d5 := H3.out.1.tb.cc (k := k) hk
      have f5 := H3.out.1.tb.fz (5 + k)
      have dz := H3.out.1.tb.lt
      rw [show (Zs.mk (set8 z.m F (P % 32) 0) (frS z.S y.f gu) z.x).x.pg = z.x.pg from rfl, hcc] at d5
      obtain ⟨h4, tn4⟩ := CT y2 H3.out.1
      have H4 : Hid (SX B (y2.setCell ⟨T, 5 + k, none⟩ (.int .i64 ((c - 1 : Nat) : Int))).drew b g D T L gu (unA gu z P) ∧ Tn (Pt g T L) B w (y2.setCell ⟨T, 5 + k, none⟩ (.int .i64 ((c - 1 : Nat) : Int))).drew ∧ EB (y2.setCell ⟨T, 5 + k, none⟩ (.int .i64 ((c - 1 : Nat) : Int))).drew w1.heap.size true y.r y.w y.x true false false y.f) := ⟨(HA.out _ h4).drew, (H3.out.2.1.trans tn4).drew, tn4.keep _ _ H3.out.2.2 (H3.out.1.notE H3.out.2.2) (.inr (not_of (by decide)))⟩
      clear h4 tn4
      go_wp2_with fail
      go_region
      clear d5 f5 dz H3 CT
      have d5 : (y2.setCell ⟨T, 5 + k, none⟩ (.int .i64 ((c - 1 : Nat) : Int))).drew.cell? ⟨T, 5 + k, none⟩ = some (.int .i64 (cnt (upd z.x.pg P none) k)) := H4.out.1.tb.cc (k := k) hk
      have dz := H4.out.1.tb.lt
      have d7 := H4.out.2.2.cs.2.2.2.2.2.2.2
      have dq := lt_of_heap H4.out.2.2
      generalize (y2.setCell ⟨T, 5 + k, none⟩ (.int .i64 ((c - 1 : Nat) : Int))).drew = w4 at *
      rw [hz0] at d5
      go_wp2_with fail
      refine (RZ _ H4.out.1).mono ?_
      rintro e w5 ⟨rfl, h5, tn5⟩
      have H5 : Hid (SX B w5 b g D T L gu (razZ (unA gu z P) k) ∧ Tn (Pt g T L) B w w5 ∧ EB w5 w1.heap.size true y.r y.w y.x true false false y.f) := ⟨h5, H4.out.2.1.trans tn5, tn5.keep _ _ H4.out.2.2 (H4.out.1.notE H4.out.2.2) (.inr (not_of (by decide)))⟩
      clear h5 tn5 d7 dq dz d5 H4
      have d7 := H5.out.2.2.cs.2.2.2.2.2.2.2
      have dq := lt_of_heap H5.out.2.2
      go_wp2_with fail
      go_ret2
      exact ⟨rfl, H5.out.1, H5.out.2.1⟩
    · rw [if_neg hz0]
      go_enter Tryz.func22, Tryz.ntmps22
      go_wp2_with fail
      refine C.mono ?_
      rintro e w1 ⟨rfl, hb1⟩
      have H1 : Hid (SX B (w1.alloc (.cells #[.bool true, .bool y.r, .bool y.w, .bool y.x, .bool true, .bool false, .bool false, .int .i64 y.f] 93)) b g D T L gu z ∧ Tn (Pt g T L) B w (w1.alloc (.cells #[.bool true, .bool y.r, .bool y.w, .bool y.x, .bool true, .bool false, .bool false, .int .i64 y.f] 93)) ∧ EB (w1.alloc (.cells #[.bool true, .bool y.r, .bool y.w, .bool y.x, .bool true, .bool false, .bool false, .int .i64 y.f] 93)) w1.heap.size true y.r y.w y.x true false false y.f) := by
        have hb := hb1.alloc hb1.size (.cells #[.bool true, .bool y.r, .bool y.w, .bool y.x, .bool true, .bool false, .bool false, .int .i64 y.f] 93)
        exact ⟨HS.out.below hb, Tn.of_below hb, heap_alloc_at _ _⟩
      clear hb1
      go_wp2_with fail
      refine (ST _ H1.out.1).mono ?_
      rintro e w2 ⟨rfl, h2, tn2⟩
      have H2 : Hid (SX B w2 b g D T L gu ⟨set8 z.m F (P % 32) 0, z.S, z.x⟩ ∧ Tn (Pt g T L) B w w2 ∧ EB w2 w1.heap.size true y.r y.w y.x true false false y.f) := ⟨h2, H1.out.2.1.trans tn2.pt, tn2.pt.keep _ _ H1.out.2.2 (H1.out.1.notE H1.out.2.2) (.inr (not_of (by decide)))⟩
      clear h2 tn2 H1
      have hc1' := And.intro H2.out.1.drew.tb.c1 (And.intro H2.out.1.drew.tb.c2 (show w2.drew.cell? ⟨w1.heap.size, 7, none⟩ = some (.int .i64 y.f) from (EB.cs (show EB w2.drew w1.heap.size true y.r y.w y.x true false false y.f from H2.out.2.2)).2.2.2.2.2.2.2))
      have F1 := FR _ H2.out.1.drew
      have dz := H2.out.1.tb.lt
      have dq := lt_of_heap H2.out.2.2
      go_wp2_with fail
      go_region_held2 (fun W => W.cell? ⟨T, 1, none⟩ = some (.pointer (some ⟨D, 0, none⟩)) ∧ W.cell? ⟨T, 2, none⟩ = some (.int .i64 gu) ∧ W.cell? ⟨w1.heap.size, 7, none⟩ = some (.int .i64 y.f))
        (first | exact hc1' | exact hc2')
        (first
          | (go_at_call 56; refine F1.mono ?_; rintro q y2 ⟨rfl, hf2, ht2⟩; (have H3 : Hid (SX B y2 b g D T L gu ⟨set8 z.m F (P % 32) 0, frS z.S y.f gu, z.x⟩ ∧ Tn (Pt g T L) B w y2 ∧ EB y2 w1.heap.size true y.r y.w y.x true false false y.f) := ⟨H2.out.1.drew.frames hf2 ht2, H2.out.2.1.drew.trans (Tn.of_tu ht2), ht2.keep _ _ H2.out.2.2 (.inr (not_of (by decide)))⟩); (have hc2' := And.intro H3.out.1.tb.c1 (And.intro H3.out.1.tb.c2 H3.out.2.2.cs.2.2.2.2.2.2.2))))
      clear hc1' hc2' F1 dz dq H2
      have d5 := H3.out.1.tb.cc (k := k) hk
      have f5 := H3.out.1.tb.fz (5 + k)
      have dz := H3.out.1.tb.lt
      rw [show (Zs.mk (set8 z.m F (P % 32) 0) (frS z.S y.f gu) z.x).x.pg = z.x.pg from rfl, hcc] at d5
      obtain ⟨h4, tn4⟩ := CT y2 H3.out.1
      have H4 : Hid (SX B (y2.setCell ⟨T, 5 + k, none⟩ (.int .i64 ((c - 1 : Nat) : Int))).drew b g D T L gu (unA gu z P) ∧ Tn (Pt g T L) B w (y2.setCell ⟨T, 5 + k, none⟩ (.int .i64 ((c - 1 : Nat) : Int))).drew ∧ EB (y2.setCell ⟨T, 5 + k, none⟩ (.int .i64 ((c - 1 : Nat) : Int))).drew w1.heap.size true y.r y.w y.x true false false y.f) := ⟨(HA.out _ h4).drew, (H3.out.2.1.trans tn4).drew, tn4.keep _ _ H3.out.2.2 (H3.out.1.notE H3.out.2.2) (.inr (not_of (by decide)))⟩
      clear h4 tn4
      go_wp2_with fail
      go_region
      clear d5 f5 dz H3 CT
      have d5 : (y2.setCell ⟨T, 5 + k, none⟩ (.int .i64 ((c - 1 : Nat) : Int))).drew.cell? ⟨T, 5 + k, none⟩ = some (.int .i64 (cnt (upd z.x.pg P none) k)) := H4.out.1.tb.cc (k := k) hk
      have dz := H4.out.1.tb.lt
      have d7 := H4.out.2.2.cs.2.2.2.2.2.2.2
      have dq := lt_of_heap H4.out.2.2
      generalize (y2.setCell ⟨T, 5 + k, none⟩ (.int .i64 ((c - 1 : Nat) : Int))).drew = w4 at *
      have hz1 : ¬ ((cnt (upd z.x.pg P none) k : Nat) : Int) = 0 := by omega
      generalize ((cnt (upd z.x.pg P none) k : Nat) : Int) = v at *
      go_wp2_with fail
      go_ret2
      exact ⟨rfl, H4.out.1, H4.out.2.1⟩
  · have e1 : mdV z p = .agg #[.bool false, .bool false, .bool false, .bool false, .bool false, .bool false, .bool false, .int .i64 0] := by unfold mdV; rw [if_neg h0]
    have e2 : unR z p = 0 := by unfold unR; rw [if_neg h0]
    have e3 : unZ gu z p = z := by unfold unZ; rw [if_neg h0]
    rw [e1] at C
    rw [e2, e3]
    have HS : Hid (SX B w b g D T L gu z) := h
    clear h hi e1 e2 e3
    generalize unQ z p = y at *
    go_enter Tryz.func22, Tryz.ntmps22
    go_wp2_with fail
    refine C.mono ?_
    rintro e w1 ⟨rfl, hb1⟩
    have H1 : Hid (SX B (w1.alloc (.cells #[.bool false, .bool false, .bool false, .bool false, .bool false, .bool false, .bool false, .int .i64 0] 93)) b g D T L gu z ∧ Tn (Pt g T L) B w (w1.alloc (.cells #[.bool false, .bool false, .bool false, .bool false, .bool false, .bool false, .bool false, .int .i64 0] 93))) := by
      have hb := hb1.alloc hb1.size (.cells #[.bool false, .bool false, .bool false, .bool false, .bool false, .bool false, .bool false, .int .i64 0] 93)
      exact ⟨HS.out.below hb, Tn.of_below hb⟩
    clear hb1
    go_wp2_with fail
    go_ret2
    exact ⟨rfl, H1.out⟩
end
end Go.Proofs.YteghkhdpdeiocaaGreatDoor
