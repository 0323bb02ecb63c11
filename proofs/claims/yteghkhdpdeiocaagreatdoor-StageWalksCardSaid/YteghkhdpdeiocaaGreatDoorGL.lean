/-
  The document's tables: what write does.
  The document's tables: what right and wrong tell.
-/
import Derived.Test.YteghkhdpdeiocaaGreatDoorGK
import Derived.Test.YteghkhdpdeiocaaGreatDoorGW
namespace Go.Proofs.YteghkhdpdeiocaaGreatDoor
open Go.RowKit Go.Maps
set_option linter.unusedVariables false
set_option maxRecDepth 100000

section
variable {N0 : Nat} {w w' : World} {c h R r U gu : Nat} {z : Zs}
set_option maxHeartbeats 1600000 in
theorem write_uz (x : UZ N0 w c h R r U gu z) {p F : Nat} (hp : p < 1024) (hF : z.x.lo (p / 32) = F) (hf : F * 256 + 256 ≤ z.m.length) (hy : ∀ y, z.x.pg p = some y → y.f < 65536 ∧ mayR y.r y.w y.x = true) : Calls Tryz.prog 63 #[.pointer (some ⟨U, 0, none⟩), .int .i64 p] w fun e w1 => e = .returned (.tuple #[]) ∧ UZ N0 w1 c h R r U gu ⟨set8 z.m F (p % 32) (pgN (z.x.pg p)), z.S, z.x⟩ ∧ Tq N0 (fun k => k = h) w w1 := by
  obtain ⟨v0, v1⟩ := pgN_fits (z.x.pg p) (fun a ha => (hy a ha).1)
  have hlen := x.rz.rm.len
  have hk : p / 32 < 32 := by omega
  have PUT := fun (W : World) (hS : UZ N0 W c h R r U gu z) => hS.put (j := p % 32) hf (by omega) v0 v1
  have hw : IntKind.i64.wrap ((p : Int) / 32) = ((p / 32 : Nat) : Int) := by rw [quo_w p hp]; omega
  have hm : (p : Int).tmod 32 = ((p % 32 : Nat) : Int) := by rw [rem_w p]; omega
  have m1 : IntKind.i64.wrap ((F : Int) * 256) = (F : Int) * 256 := by rw [IntKind.wrap_i64]; omega
  have m2 : IntKind.i64.wrap (8 * ((p % 32 : Nat) : Int)) = 8 * ((p % 32 : Nat) : Int) := by rw [IntKind.wrap_i64]; omega
  have m3 : IntKind.i64.wrap ((F : Int) * 256 + 8 * ((p % 32 : Nat) : Int)) = ((F * 256 + 8 * (p % 32) : Nat) : Int) := by rw [IntKind.wrap_i64]; omega
  have m4 : IntKind.u64.wrap (((F * 256 + 8 * (p % 32) : Nat) : Int)) = ((F * 256 + 8 * (p % 32) : Nat) : Int) := by rw [IntKind.wrap_u64]; omega
  have hk' : ((p / 32 : Nat) : Int) < 32 := by omega
  have hp1 : (p : Int) < 1024 := by omega
  generalize ((F * 256 + 8 * (p % 32) : Nat) : Int) = at_ at *
  have HX : Hid (UZ N0 w c h R r U gu z) := x
  have hx : U < w.heap.size := x.ub.lt
  obtain ⟨p0, p1, p2, p3, p4⟩ := x.ub.cp hp
  rw [Nat.mul_comm 5 p] at p0 p1 p2 p3 p4
  clear x
  generalize hjj : p % 32 = j32 at *
  generalize hkk : p / 32 = k32 at *
  cases hpg : z.x.pg p with
  | none =>
    rw [hpg] at p0 p1 p2 p3 p4
    simp only [Option.isSome_none, pgF, pgR, pgW, pgX] at p0 p1 p2 p3 p4
    rw [hpg] at PUT v0 v1
    have PK := fun W => E.rpack_yes false false false false false false false 0 (by decide) W
    have ev : E.numD false false false false false false false 0 = pgN none := by decide
    rw [ev] at PK
    have HB : Hid (UZ N0 ((w.alloc (.cells #[.bool false, .int .i64 0, .bool false, .bool false, .bool false] 86)).alloc (.cells #[.bool false, .bool false, .bool false, .bool false, .bool false, .bool false, .bool false, .int .i64 0] 162)) c h R r U gu z ∧ Below w.heap.size w ((w.alloc (.cells #[.bool false, .int .i64 0, .bool false, .bool false, .bool false] 86)).alloc (.cells #[.bool false, .bool false, .bool false, .bool false, .bool false, .bool false, .bool false, .int .i64 0] 162))) := by
      have hb : Below w.heap.size w ((w.alloc (.cells #[.bool false, .int .i64 0, .bool false, .bool false, .bool false] 86)).alloc (.cells #[.bool false, .bool false, .bool false, .bool false, .bool false, .bool false, .bool false, .int .i64 0] 162)) := ((Below.refl _ _).alloc (Nat.le_refl _) _).alloc (by simp) _
      exact ⟨HX.out.below hb, hb⟩
    generalize pgN none = v at *
    clear ev
    unfold E.ent at PK
    go_enter Tryz.func63, Tryz.ntmps63
    go_wp2_with fail
    refine (PK _).mono ?_
    rintro e w1 ⟨rfl, hb1⟩
    have H1 : Hid (UZ N0 w1 c h R r U gu z ∧ Below w.heap.size w w1) := ⟨HB.out.1.below hb1, HB.out.2.trans (hb1.mono (by simp; omega))⟩
    have q0 := H1.out.1.drew.ub.c0
    have q4 := H1.out.1.drew.ub.cl hk
    rw [hF] at q4
    have dl := H1.out.1.ub.lt
    have P1 := PUT _ H1.out.1.drew
    clear hb1 PUT PK
    go_wp2_with fail
    go_region_held2 (fun W => W.cell? ⟨U, 0, none⟩ = some (.pointer (some ⟨c, 0, none⟩)) ∧ W.cell? ⟨U, 4 + k32, none⟩ = some (.int .i64 F))
      (first | exact ⟨q0.1, q4⟩ | exact hc2)
      (first
        | (go_at_call 90; refine P1.mono ?_; rintro q y2 ⟨rfl, h2, t2⟩; (have H2 : Hid (_ ∧ _) := ⟨h2, t2⟩); (have hc2 : y2.cell? ⟨U, 0, none⟩ = some (.pointer (some ⟨c, 0, none⟩)) ∧ y2.cell? ⟨U, 4 + k32, none⟩ = some (.int .i64 F) := ⟨h2.ub.c0.1, by have := h2.ub.cl hk; rwa [show (Zs.mk (set8 z.m F (j32) v) z.S z.x).x.lo (k32) = (F : Int) from hF] at this⟩)))
    go_wp2_with fail
    go_end0
    exact ⟨rfl, H2.out.1, ((Tq.of_below H1.out.2).drew).trans H2.out.2⟩
  | some y =>
    rw [hpg] at p0 p1 p2 p3 p4
    simp only [Option.isSome_some, pgF, pgR, pgW, pgX] at p0 p1 p2 p3 p4
    rw [hpg] at PUT v0 v1
    have PK := fun W => E.rpack_yes true y.r y.w y.x true false false (y.f : Int) (may_page y (hy y hpg).1 (hy y hpg).2) W
    have ev : E.numD true y.r y.w y.x true false false (y.f : Int) = pgN (some y) := rfl
    rw [ev] at PK
    have HB : Hid (UZ N0 ((w.alloc (.cells #[.bool true, .int .i64 y.f, .bool y.r, .bool y.w, .bool y.x] 86)).alloc (.cells #[.bool true, .bool y.r, .bool y.w, .bool y.x, .bool true, .bool false, .bool false, .int .i64 y.f] 162)) c h R r U gu z ∧ Below w.heap.size w ((w.alloc (.cells #[.bool true, .int .i64 y.f, .bool y.r, .bool y.w, .bool y.x] 86)).alloc (.cells #[.bool true, .bool y.r, .bool y.w, .bool y.x, .bool true, .bool false, .bool false, .int .i64 y.f] 162))) := by
      have hb : Below w.heap.size w ((w.alloc (.cells #[.bool true, .int .i64 y.f, .bool y.r, .bool y.w, .bool y.x] 86)).alloc (.cells #[.bool true, .bool y.r, .bool y.w, .bool y.x, .bool true, .bool false, .bool false, .int .i64 y.f] 162)) := ((Below.refl _ _).alloc (Nat.le_refl _) _).alloc (by simp) _
      exact ⟨HX.out.below hb, hb⟩
    generalize pgN (some y) = v at *
    clear ev
    unfold E.ent at PK
    go_enter Tryz.func63, Tryz.ntmps63
    go_wp2_with fail
    refine (PK _).mono ?_
    rintro e w1 ⟨rfl, hb1⟩
    have H1 : Hid (UZ N0 w1 c h R r U gu z ∧ Below w.heap.size w w1) := ⟨HB.out.1.below hb1, HB.out.2.trans (hb1.mono (by simp; omega))⟩
    have q0 := H1.out.1.drew.ub.c0
    have q4 := H1.out.1.drew.ub.cl hk
    rw [hF] at q4
    have dl := H1.out.1.ub.lt
    have P1 := PUT _ H1.out.1.drew
    clear hb1 PUT PK
    go_wp2_with fail
    go_region_held2 (fun W => W.cell? ⟨U, 0, none⟩ = some (.pointer (some ⟨c, 0, none⟩)) ∧ W.cell? ⟨U, 4 + k32, none⟩ = some (.int .i64 F))
      (first | exact ⟨q0.1, q4⟩ | exact hc2)
      (first
        | (go_at_call 90; refine P1.mono ?_; rintro q y2 ⟨rfl, h2, t2⟩; (have H2 : Hid (_ ∧ _) := ⟨h2, t2⟩); (have hc2 : y2.cell? ⟨U, 0, none⟩ = some (.pointer (some ⟨c, 0, none⟩)) ∧ y2.cell? ⟨U, 4 + k32, none⟩ = some (.int .i64 F) := ⟨h2.ub.c0.1, by have := h2.ub.cl hk; rwa [show (Zs.mk (set8 z.m F (j32) v) z.S z.x).x.lo (k32) = (F : Int) from hF] at this⟩)))
    go_wp2_with fail
    go_end0
    exact ⟨rfl, H2.out.1, ((Tq.of_below H1.out.2).drew).trans H2.out.2⟩
end
end Go.Proofs.YteghkhdpdeiocaaGreatDoor
namespace Go.Proofs.YteghkhdpdeiocaaGreatDoor
open Go.RowKit Go.Maps
set_option linter.unusedVariables false
set_option maxRecDepth 100000

theorem right_any (a b c : Bool) (w : World) : Calls Tryz.prog 59 #[.agg #[.bool a, .bool b, .bool c]] w fun e w' => e = .returned (.bool (mayR a b c)) ∧ Below w.heap.size w w' := by
  cases a <;> cases b <;> cases c
  all_goals
    go_enter Tryz.func59, Tryz.ntmps59
    go_wp2_with fail
    go_ret
    exact ⟨rfl, (Below.refl _ _).alloc (Nat.le_refl _) _⟩
section
variable {N0 : Nat} {w w' : World} {c h R r U gu : Nat} {z : Zs}
theorem wrong_uz (x : UZ N0 w c h R r U gu z) (p : Int) : Calls Tryz.prog 65 #[.pointer (some ⟨U, 0, none⟩), .int .i64 p] w fun e w' => e = .returned (.int .i64 (unQ z p)) ∧ w' = w := by
  have c3 := x.ub.c0.2.2.2
  have hx := x.ub.lt
  unfold unQ
  by_cases h1 : z.x.rt < 0
  · rw [if_pos h1]
    clear x
    generalize z.x.rt = y at *
    go_enter Tryz.func65, Tryz.ntmps65
    go_wp2_with fail
    go_ret
    exact ⟨rfl, rfl⟩
  · rw [if_neg h1]
    by_cases h2 : p < 0
    · rw [if_pos (by omega)]
      clear x
      generalize z.x.rt = y at *
      go_enter Tryz.func65, Tryz.ntmps65
      go_wp2_with fail
      go_ret
      exact ⟨rfl, rfl⟩
    · by_cases h3 : 1024 ≤ p
      · rw [if_pos (by omega)]
        clear x
        generalize z.x.rt = y at *
        go_enter Tryz.func65, Tryz.ntmps65
        go_wp2_with fail
        go_ret
        exact ⟨rfl, rfl⟩
      · rw [if_neg (by omega)]
        obtain ⟨P, rfl⟩ := Int.eq_ofNat_of_zero_le (show 0 ≤ p by omega)
        rw [Int.toNat_natCast]
        have hP : P < 1024 := by omega
        have hP' : (P : Int) < 1024 := by omega
        obtain ⟨p0, -⟩ := x.ub.cp hP
        rw [Nat.mul_comm 5 P] at p0
        clear x
        generalize z.x.rt = y at *
        cases hs : (z.x.pg P).isSome
        all_goals
          rw [hs] at p0
          clear hs
          go_enter Tryz.func65, Tryz.ntmps65
          go_wp2_with fail
          go_ret
          exact ⟨rfl, rfl⟩
/-- a page's rights written -/
theorem UB.rights {x : Tp} {y : Pg} (hu : UB w U c R gu x) {p : Nat} (hp : p < 1024) (hy : x.pg p = some y) (a b d : Bool) : UB (((w.setCell ⟨U, 36 + p * 5 + 2, none⟩ (.bool a)).setCell ⟨U, 36 + p * 5 + 3, none⟩ (.bool b)).setCell ⟨U, 36 + p * 5 + 4, none⟩ (.bool d)) U c R gu { x with pg := upd x.pg p (some ⟨y.f, a, b, d⟩) } ∧ Trn (fun k => k = U) w (((w.setCell ⟨U, 36 + p * 5 + 2, none⟩ (.bool a)).setCell ⟨U, 36 + p * 5 + 3, none⟩ (.bool b)).setCell ⟨U, 36 + p * 5 + 4, none⟩ (.bool d)) := by
  obtain ⟨cs, k, h1, h2, h3, h4, h5, h6, h7⟩ := hu.blk
  have k1 := setCell_eq_setRow w U (36 + p * 5 + 2) cs 89 (0, 0) (.bool a) k ▸ setRow_heap w U cs _ 89 _ k
  have k2 := setCell_eq_setRow _ U (36 + p * 5 + 3) _ 89 (0, 0) (.bool b) k1 ▸ setRow_heap _ U _ _ 89 _ k1
  have k3 := setCell_eq_setRow _ U (36 + p * 5 + 4) _ 89 (0, 0) (.bool d) k2 ▸ setRow_heap _ U _ _ 89 _ k2
  have t1 := trn_setCell (fun k => k = U) k rfl (36 + p * 5 + 2) (.bool a)
  have t2 := trn_setCell (fun k => k = U) k1 rfl (36 + p * 5 + 3) (.bool b)
  have t3 := trn_setCell (fun k => k = U) k2 rfl (36 + p * 5 + 4) (.bool d)
  have off : ∀ i, i ≠ 36 + p * 5 + 2 → i ≠ 36 + p * 5 + 3 → i ≠ 36 + p * 5 + 4 → (((cs.setIfInBounds (36 + p * 5 + 2) (.bool a)).setIfInBounds (36 + p * 5 + 3) (.bool b)).setIfInBounds (36 + p * 5 + 4) (.bool d))[i]? = cs[i]? := fun i i1 i2 i3 => by
    rw [Array.getElem?_setIfInBounds, if_neg (Ne.symm i3), Array.getElem?_setIfInBounds, if_neg (Ne.symm i2), Array.getElem?_setIfInBounds, if_neg (Ne.symm i1)]
  refine ⟨⟨_, k3, by simpa using h1, ?_, ?_, ?_, ?_, fun i hi => ?_, fun q hq => ?_⟩, (t1.trans t2).trans t3⟩
  · rw [off _ (by omega) (by omega) (by omega)]; exact h2
  · rw [off _ (by omega) (by omega) (by omega)]; exact h3
  · rw [off _ (by omega) (by omega) (by omega)]; exact h4
  · rw [off _ (by omega) (by omega) (by omega)]; exact h5
  · rw [off _ (by omega) (by omega) (by omega)]; exact h6 i hi
  · obtain ⟨e0, e1, e2, e3, e4⟩ := h7 q hq
    by_cases e : q = p
    · subst e
      show _ = some (Value.bool (upd x.pg q (some ⟨y.f, a, b, d⟩) q).isSome) ∧ _ = some (Value.int .i64 (pgF (upd x.pg q (some ⟨y.f, a, b, d⟩) q))) ∧ _ = some (Value.bool (pgR (upd x.pg q (some ⟨y.f, a, b, d⟩) q))) ∧ _ = some (Value.bool (pgW (upd x.pg q (some ⟨y.f, a, b, d⟩) q))) ∧ _ = some (Value.bool (pgX (upd x.pg q (some ⟨y.f, a, b, d⟩) q)))
      rw [upd_self]
      rw [hy] at e0 e1
      refine ⟨?_, ?_, ?_, ?_, ?_⟩
      · rw [off _ (by omega) (by omega) (by omega)]; exact e0
      · rw [off _ (by omega) (by omega) (by omega)]; exact e1
      · rw [Array.getElem?_setIfInBounds, if_neg (by omega), Array.getElem?_setIfInBounds, if_neg (by omega), Array.getElem?_setIfInBounds, if_pos (by omega), if_pos (by omega)]; rfl
      · rw [Array.getElem?_setIfInBounds, if_neg (by omega), Array.getElem?_setIfInBounds, if_pos (by omega), if_pos (by simp; omega)]; rfl
      · rw [Array.getElem?_setIfInBounds, if_pos (by omega), if_pos (by simp; omega)]; rfl
    · show _ = some (Value.bool (upd x.pg p (some ⟨y.f, a, b, d⟩) q).isSome) ∧ _ = some (Value.int .i64 (pgF (upd x.pg p (some ⟨y.f, a, b, d⟩) q))) ∧ _ = some (Value.bool (pgR (upd x.pg p (some ⟨y.f, a, b, d⟩) q))) ∧ _ = some (Value.bool (pgW (upd x.pg p (some ⟨y.f, a, b, d⟩) q))) ∧ _ = some (Value.bool (pgX (upd x.pg p (some ⟨y.f, a, b, d⟩) q)))
      rw [upd_other _ _ _ e]
      refine ⟨?_, ?_, ?_, ?_, ?_⟩
      · rw [off _ (by omega) (by omega) (by omega)]; exact e0
      · rw [off _ (by omega) (by omega) (by omega)]; exact e1
      · rw [off _ (by omega) (by omega) (by omega)]; exact e2
      · rw [off _ (by omega) (by omega) (by omega)]; exact e3
      · rw [off _ (by omega) (by omega) (by omega)]; exact e4
theorem UZ.block (x : UZ N0 w c h R r U gu z) {x' : Tp} (hu : UB w' U c R gu x') (t : Trn (fun k => k = U) w w') : UZ N0 w' c h R r U gu ⟨z.m, z.S, x'⟩ := by
  obtain ⟨cs, k1, k2, _⟩ := x.ub.blk
  exact ⟨x.rz.other ⟨cs, k1, k2⟩ t, hu⟩
end
end Go.Proofs.YteghkhdpdeiocaaGreatDoor
