/-
  What Protect and Unmap do: their contracts.
-/
import Derived.Test.YteghkhdpdeiocaaDoorTj
namespace Go.Proofs.YteghkhdpdeiocaaDoor
open Go.RowKit Go.Maps
set_option linter.unusedVariables false
set_option maxRecDepth 100000

/-- rights in a block of their own -/
def B3 (W : World) (q : Nat) (a b c : Bool) : Prop := W.heap[q]? = some (.cells #[.bool a, .bool b, .bool c] 23 (0, 0))
theorem B3.cs {W : World} {q : Nat} {a b c : Bool} (h : B3 W q a b c) : W.cell? ⟨q, 0, none⟩ = some (.bool a) ∧ W.cell? ⟨q, 1, none⟩ = some (.bool b) ∧ W.cell? ⟨q, 2, none⟩ = some (.bool c) ∧ q < W.heap.size := by
  unfold B3 at h
  refine ⟨?_, ?_, ?_, lt_of_heap h⟩ <;> rw [cell_at h] <;> rfl
theorem B3.below {W W' : World} {q : Nat} {a b c : Bool} (h : B3 W q a b c) (hb : Below W.heap.size W W') : B3 W' q a b c := (hb.block _ (lt_of_heap h)).trans h
section
variable {B : Nat → Prop} {w w' : World} {b g D T L gu n : Nat} {O : Nat → Prop} {z : Zs}
theorem SX.not3 (h : SX B w b g D T L gu z) {q : Nat} {a' b' c' : Bool} (h3 : B3 w q a' b' c') : ¬ Pt g T L q := by
  obtain ⟨cs, h1, _⟩ := h.tb.blk
  obtain ⟨es, cl, h2⟩ := h.mp.typ
  rintro (e | e | e)
  · exact ne_typ h3 h1 (by decide) e
  · exact ne_map h3 h2 e
  · exact ne_typ h3 h.mm.row (by decide) e
theorem SX.notE (h : SX B w b g D T L gu z) {q : Nat} {v r w' x u s d : Bool} {fr : Int} (h3 : EB w q v r w' x u s d fr) : ¬ Pt g T L q := by
  obtain ⟨cs, h1, _⟩ := h.tb.blk
  obtain ⟨es, cl, h2⟩ := h.mp.typ
  rintro (e | e | e)
  · exact ne_typ h3 h1 (by decide) e
  · exact ne_map h3 h2 e
  · exact ne_typ h3 h.mm.row (by decide) e
theorem prQ_ch (z : Zs) (p : Int) (a b c : Bool) (h : chE z p ≠ 0) : prQ z p a b c = chE z p := by
  unfold prQ chE at *
  by_cases h1 : z.x.rt < 0
  · rw [if_pos h1, if_pos h1]
  · rw [if_neg h1] at h ⊢
    rw [if_neg h1]
    by_cases h2 : 0 ≤ p ∧ p < 1024
    · rw [if_neg (not_not_intro h2)] at h
      exact absurd rfl h
    · rw [if_pos (fun e => h2 ⟨e.1, e.2.1⟩), if_pos h2]
theorem ch_ok {z : Zs} {p : Int} (h0 : chE z p = 0) : ∃ P : Nat, p = P ∧ P < 1024 ∧ ¬ z.x.rt < 0 := by
  unfold chE at h0
  by_cases h1 : z.x.rt < 0
  · rw [if_pos h1] at h0; omega
  · rw [if_neg h1] at h0
    by_cases h2 : 0 ≤ p ∧ p < 1024
    · exact ⟨p.toNat, by omega, by omega, h1⟩
    · rw [if_pos h2] at h0; omega
theorem cnt_some {pg : Nat → Option Pg} {p : Nat} {y y' : Pg} (h : pg p = some y) (k : Nat) : cnt (upd pg p (some y')) k = cnt pg k := by
  unfold cnt
  refine List.countP_congr fun j hj => ?_
  by_cases e : 32 * k + j = p
  · rw [e, upd_self, h]
    simp
  · rw [upd_other _ _ _ e]
set_option maxHeartbeats 1600000 in
theorem protect_sx (h : SX B w b g D T L gu z) (hi : Iv n O z) (p : Int) (a b' c : Bool) : Calls Tryd.prog 11 #[.pointer (some ⟨T, 0, none⟩), .int .i64 p, .agg #[.bool a, .bool b', .bool c]] w fun e w1 => e = .returned (.int .i64 (prQ z p a b' c)) ∧ SX B w1 b g D T L gu (prZ z p a b' c) ∧ Tn (Pt g T L) B w w1 := by
  have HB : Hid (Below w.heap.size w (w.alloc (.cells #[.bool a, .bool b', .bool c] 23))) := (Below.refl _ _).alloc (Nat.le_refl _) _
  have HS : Hid (SX B (w.alloc (.cells #[.bool a, .bool b', .bool c] 23)) b g D T L gu z ∧ B3 (w.alloc (.cells #[.bool a, .bool b', .bool c] 23)) w.heap.size a b' c) := ⟨h.below HB.out, heap_alloc_at _ _⟩
  have C := check_sx HS.out.1 hi.rt.1 p
  by_cases h0 : chE z p = 0
  · rw [h0] at C
    obtain ⟨P, rfl, hP, hrt⟩ := ch_ok h0
    have M0 := mayBe_any a b' c (w.alloc (.cells #[.bool a, .bool b', .bool c] 23))
    cases hm : mayR a b' c
    · have e1 : prQ z P a b' c = 2 := by unfold prQ; rw [if_neg hrt, if_pos (by simp [hm])]
      have e2 : prZ z P a b' c = z := by unfold prZ; rw [if_neg (by omega)]
      rw [e1, e2]
      rw [hm] at M0
      clear e1 e2 h h0 hm
      go_enter Tryd.func11, Tryd.ntmps11
      go_wp2_with fail
      refine C.mono ?_
      rintro e w1 ⟨rfl, rfl⟩
      go_wp2_with fail
      refine M0.mono ?_
      rintro e w1 ⟨rfl, hb1⟩
      have H1 : Hid (SX B w1 b g D T L gu z ∧ Below w.heap.size w w1) := ⟨HS.out.1.below hb1, HB.out.trans (hb1.mono (by simp))⟩
      clear hb1 M0 C
      go_wp2_with fail
      go_ret
      exact ⟨rfl, H1.out.1, Tn.of_below H1.out.2⟩
    · rw [hm] at M0
      have FD := fun (W : World) (hS : SX B W b g D T L gu z) => find_sx hS hi hP
      cases hx : z.x.pg P with
      | none =>
        have e1 : prQ z P a b' c = 14 := by unfold prQ; rw [if_neg hrt, if_neg (not_not_intro ⟨by omega, by omega, hm⟩), Int.toNat_natCast, hx]; rfl
        have e2 : prZ z P a b' c = z := by unfold prZ; rw [if_neg (by omega)]
        rw [e1, e2]
        simp only [hx] at FD
        unfold fnV at FD
        simp only at FD
        clear e1 e2 h h0 hm hx
        go_enter Tryd.func11, Tryd.ntmps11
        go_wp2_with fail
        refine C.mono ?_
        rintro e w1 ⟨rfl, rfl⟩
        go_wp2_with fail
        refine M0.mono ?_
        rintro e w1 ⟨rfl, hb1⟩
        have H1 : Hid (SX B w1 b g D T L gu z ∧ Below w.heap.size w w1) := ⟨HS.out.1.below hb1, HB.out.trans (hb1.mono (by simp))⟩
        clear hb1 M0 C
        go_wp2_with fail
        refine (FD _ H1.out.1).mono ?_
        rintro e w2 ⟨rfl, hb2⟩
        have H2 : Hid (SX B (w2.alloc (.cells #[.bool false, .bool false, .bool false, .bool false, .bool false, .bool false, .bool false, .int .i64 0] 78)) b g D T L gu z ∧ Below w.heap.size w (w2.alloc (.cells #[.bool false, .bool false, .bool false, .bool false, .bool false, .bool false, .bool false, .int .i64 0] 78))) := ⟨(H1.out.1.below hb2).below ((Below.refl _ _).alloc (Nat.le_refl _) _), (H1.out.2.trans (hb2.mono H1.out.2.size)).alloc (by have := H1.out.2.size; have := hb2.size; omega) _⟩
        clear hb2 FD
        go_wp2_with fail
        go_ret
        exact ⟨rfl, H2.out.1, Tn.of_below H2.out.2⟩
      | some y =>
        have e1 : prQ z P a b' c = 0 := by unfold prQ; rw [if_neg hrt, if_neg (not_not_intro ⟨by omega, by omega, hm⟩), Int.toNat_natCast, hx]; rfl
        have e2 : prZ z P a b' c = mapD z P ⟨y.f, a, b', c⟩ := by unfold prZ; rw [if_pos e1, Int.toNat_natCast, hx]; rfl
        rw [e1, e2]
        simp only [hx] at FD
        unfold fnV at FD
        simp only at FD
        have hl := hi.has hP hx
        obtain ⟨F, hF⟩ := Int.eq_ofNat_of_zero_le hl
        have l2 := (hi.lo (P / 32) (by omega)).2
        have hlen := hi.len
        have hn2 := hi.n2
        obtain ⟨yf, ym⟩ := hi.pf P y hP hx
        have PG := fun W => pageOf_any (y.f : Int) a b' c W
        have ST := fun (W : World) (hS : SX B W b g D T L gu z) => set_sx hS hP hF (by omega) true a b' c true false false (y.f : Int)
        have ep : E.packN true a b' c true false false (y.f : Int) = (Pg.mk y.f a b' c).num := pack_page ⟨y.f, a, b', c⟩ (by show y.f < 65536; omega) hm
        simp only [ep] at ST
        have HE : Hid (∀ W, SX B W b g D T L gu ⟨set8 z.m F (P % 32) (Pg.mk y.f a b' c).num, z.S, z.x⟩ → SX B W b g D T L gu (mapD z P ⟨y.f, a, b', c⟩)) := fun W hW => by
          unfold mapD
          rw [hF, Int.toNat_natCast]
          exact ⟨hW.sz, hW.bt, hW.mm, hW.fx, hW.tb.congr (fun k _ => (cnt_some hx k).symm), hW.mp, hW.bl, hW.b01, hW.hB, hW.lo⟩
        clear e1 e2 h h0 hm hl hF l2 hlen hn2 yf ym ep
        unfold E.ent at *
        go_enter Tryd.func11, Tryd.ntmps11
        go_wp2_with fail
        refine C.mono ?_
        rintro e w1 ⟨rfl, rfl⟩
        go_wp2_with fail
        refine M0.mono ?_
        rintro e w1 ⟨rfl, hb1⟩
        have H1 : Hid (SX B w1 b g D T L gu z ∧ Below w.heap.size w w1 ∧ B3 w1 w.heap.size a b' c) := ⟨HS.out.1.below hb1, HB.out.trans (hb1.mono (by simp)), HS.out.2.below hb1⟩
        clear hb1 M0 C HS HB
        go_wp2_with fail
        refine (FD _ H1.out.1).mono ?_
        rintro e w2 ⟨rfl, hb2⟩
        have H2 : Hid (SX B (w2.alloc (.cells #[.bool true, .bool y.r, .bool y.w, .bool y.x, .bool true, .bool false, .bool false, .int .i64 y.f] 78)) b g D T L gu z ∧ Below w.heap.size w (w2.alloc (.cells #[.bool true, .bool y.r, .bool y.w, .bool y.x, .bool true, .bool false, .bool false, .int .i64 y.f] 78)) ∧ B3 (w2.alloc (.cells #[.bool true, .bool y.r, .bool y.w, .bool y.x, .bool true, .bool false, .bool false, .int .i64 y.f] 78)) w.heap.size a b' c) := ⟨(H1.out.1.below hb2).below ((Below.refl _ _).alloc (Nat.le_refl _) _), (H1.out.2.1.trans (hb2.mono H1.out.2.1.size)).alloc (by have := H1.out.2.1.size; have := hb2.size; omega) _, (H1.out.2.2.below hb2).below ((Below.refl _ _).alloc (Nat.le_refl _) _)⟩
        have hq2 : w.heap.size < w2.heap.size := lt_of_heap (H1.out.2.2.below hb2)
        have q2 := H2.out.2.2.cs
        clear hb2 FD H1
        go_wp2_with fail
        refine (PG _).mono ?_
        rintro e w3 ⟨rfl, hb3⟩
        have H3 : Hid (SX B w3 b g D T L gu z ∧ Below w.heap.size w w3) := ⟨H2.out.1.below hb3, H2.out.2.1.trans (hb3.mono H2.out.2.1.size)⟩
        clear hb3 PG H2 q2
        go_wp2_with fail
        refine (ST _ H3.out.1).mono ?_
        rintro e w4 ⟨rfl, h4, tn4⟩
        have H4 : Hid (SX B w4 b g D T L gu (mapD z P ⟨y.f, a, b', c⟩) ∧ Tn (Pt g T L) B w w4) := ⟨HE.out _ h4, (Tn.of_below H3.out.2).trans tn4.pt⟩
        clear h4 tn4 ST
        go_wp2_with fail
        go_ret
        exact ⟨rfl, H4.out⟩
  · have e1 := prQ_ch z p a b' c h0
    have e2 : prZ z p a b' c = z := by unfold prZ; rw [if_neg (by rw [e1]; exact h0)]
    rw [e2, e1]
    clear e1 e2 h
    generalize chE z p = y at *
    go_enter Tryd.func11, Tryd.ntmps11
    go_wp2_with fail
    refine C.mono ?_
    rintro e w1 ⟨rfl, rfl⟩
    go_wp2_with fail
    go_ret
    exact ⟨rfl, HS.out.1, Tn.of_below HB.out⟩
end
end Go.Proofs.YteghkhdpdeiocaaDoor
