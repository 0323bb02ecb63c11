/-
  What a walk of one stage finds in a guest's tables: by plain functions.
-/
import Derived.Test.YteghkhdpdeiocaaGreatDoorGU
import Derived.Test.YteghkhdpdeiocaaGreatDoorGF
namespace Go.Proofs.YteghkhdpdeiocaaGreatDoor
open Go.RowKit
set_option linter.unusedVariables false
set_option maxRecDepth 100000

theorem at_eq (f j : Nat) (hf : f < 65536) (hj : j < 32) : E.atP (f : Int) (j : Int) = ((f * 256 + 8 * j : Nat) : Int) := by
  unfold E.atP
  have w2 : IntKind.u64.wrap ((f : Int) * 256) = f * 256 := by rw [IntKind.wrap_u64]; omega
  rw [w2, IntKind.wrap_u64]
  omega
theorem read_e8 (zs : List Int) {f j : Nat} (hf : f * 256 + 256 ≤ zs.length) (hf2 : f < 65536) (hj : j < 32) {v : Int} (hv : e8 zs f j = v) (hu : E.unpackE v = 0) : E.readP zs (f : Int) (j : Int) = some (E.enOf v) := by
  obtain ⟨l1, l2⟩ := load_e8 zs hf hj
  unfold E.readP
  rw [at_eq f j hf2 hj, l1, l2, hv, if_pos ⟨by omega, rfl, hu⟩]
theorem en_table (F : Nat) (hF : F < 65536) : E.enOf (loN (F : Int)) = ⟨true, false, false, false, false, false, false, F⟩ ∧ E.unpackE (loN (F : Int)) = 0 := by
  unfold loN
  rw [if_pos (by omega)]
  exact E.en_num true false false false false false false F rfl (may_table F hF)
/-- a walk by what is read -/
theorem walk_no1 (zs : List Int) (R : Int) (tt a k : Int) (hR : ¬ R < 0) (h1 : tt < 262144) (hk : tt / 8192 = k) (hd : E.readP zs R k = some E.En.zero) : E.oneP zs R tt a true = none := by
  have d1 : E.rdR zs tt a R k = .ok E.En.zero := by unfold E.rdR; rw [hd]
  unfold E.oneP E.walkR
  rw [if_neg hR, if_pos h1, hk, d1]
  rfl
theorem walk_yes (zs : List Int) (R F : Int) (tt a k j : Int) (e : E.En) (hR : ¬ R < 0) (h1 : tt < 262144) (hk : tt / 8192 = k) (hj : tt / 256 % 32 = j) (hd : E.readP zs R k = some ⟨true, false, false, false, false, false, false, F⟩) (he : E.readP zs F j = some e) :
    E.oneP zs R tt a true = if E.allowP e.v e.r e.w e.x e.u a true = true then some e else none := by
  have d1 : E.rdR zs tt a R k = .ok ⟨true, false, false, false, false, false, false, F⟩ := by unfold E.rdR; rw [hd]
  have d2 : E.rdR zs tt a F j = .ok e := by unfold E.rdR; rw [he]
  unfold E.oneP E.walkR
  rw [if_neg hR, if_pos h1, hk, hj, d1]
  simp only [E.leafP, Bool.or_false, Bool.and_false, Bool.not_false, Bool.and_true, if_true]
  rw [d2]
  simp only
  by_cases hA : E.allowP e.v e.r e.w e.x e.u a true = true
  · rw [if_pos hA, if_pos hA]
  · rw [if_neg hA, if_neg hA]
    rfl
section
variable {n : Nat} {O : Nat → Prop} {z : Zs}
/-- what is found of a page -/
theorem one_page (h : Iv n O z) (hr : 0 ≤ z.x.rt) {P : Nat} (hP : P < 1024) (a : Int) :
    E.oneP z.m z.x.rt ((256 * P : Nat) : Int) a true = (match z.x.pg P with
      | none => none
      | some y => if E.allowP true y.r y.w y.x true a true = true then some ⟨true, y.r, y.w, y.x, true, false, false, y.f⟩ else none) := by
  obtain ⟨R, hR⟩ := Int.eq_ofNat_of_zero_le hr
  have hrt := h.rt
  have hn := h.n2
  have hlen := h.len
  have hk : P / 32 < 32 := by omega
  have t1 : ((256 * P : Nat) : Int) / 8192 = ((P / 32 : Nat) : Int) := by omega
  have t2 : ((256 * P : Nat) : Int) / 256 % 32 = ((P % 32 : Nat) : Int) := by omega
  have t3 : ((256 * P : Nat) : Int) < 262144 := by omega
  have r0 := h.re hr (P / 32) hk
  rw [hR, Int.toNat_natCast] at r0
  have lk := h.lo (P / 32) hk
  have hr' : ¬ (R : Int) < 0 := by omega
  rw [hR]
  by_cases hl : 0 ≤ z.x.lo (P / 32)
  · obtain ⟨F, hF⟩ := Int.eq_ofNat_of_zero_le hl
    obtain ⟨e1, e2⟩ := en_table F (by omega)
    rw [hF] at r0
    have d1 := read_e8 z.m (f := R) (by omega) (by omega) hk r0 e2
    rw [e1] at d1
    have pe := h.pe (P / 32) (P % 32) hk (by omega) hl
    rw [hF, Int.toNat_natCast, show 32 * (P / 32) + P % 32 = P by omega] at pe
    cases hx : z.x.pg P with
    | none =>
      rw [hx] at pe
      have d2 := read_e8 z.m (f := F) (by omega) (by omega) (by omega) pe E.en_none.2
      rw [show pgN none = 0 from rfl, E.en_none.1] at d2
      exact walk_yes z.m R F _ a _ _ _ hr' t3 t1 t2 d1 d2
    | some y =>
      obtain ⟨y1, y2⟩ := h.pf P y hP hx
      obtain ⟨g1, g2⟩ := en_page y (by omega) y2
      rw [hx] at pe
      have d2 := read_e8 z.m (f := F) (by omega) (by omega) (by omega) pe g2
      rw [show pgN (some y) = y.num from rfl, g1] at d2
      exact walk_yes z.m R F _ a _ _ _ hr' t3 t1 t2 d1 d2
  · have e0 : loN (z.x.lo (P / 32)) = 0 := by unfold loN; rw [if_neg hl]
    rw [e0] at r0
    have d1 := read_e8 z.m (f := R) (by omega) (by omega) hk r0 E.en_none.2
    rw [E.en_none.1] at d1
    rw [h.pn P hP (by omega)]
    exact walk_no1 z.m R _ a _ hr' t3 t1 d1
/-- whether it is found -/
theorem one_some (h : Iv n O z) (hr : 0 ≤ z.x.rt) {P : Nat} (hP : P < 1024) {y : Pg} (hx : z.x.pg P = some y) : (E.oneP z.m z.x.rt ((256 * P : Nat) : Int) 1 true).isSome = y.r ∧ (E.oneP z.m z.x.rt ((256 * P : Nat) : Int) 2 true).isSome = y.w := by
  have hm := (h.pf P y hP hx).2
  rw [one_page h hr hP, one_page h hr hP, hx]
  obtain ⟨f, r, w, x⟩ := y
  have key : ∀ r w x : Bool, mayR r w x = true → E.allowP true r w x true 1 true = r ∧ E.allowP true r w x true 2 true = w := by
    intro r w x
    cases r <;> cases w <;> cases x <;> decide
  obtain ⟨k1, k2⟩ := key r w x hm
  simp only [k1, k2]
  cases r <;> cases w <;> simp
end
end Go.Proofs.YteghkhdpdeiocaaGreatDoor
