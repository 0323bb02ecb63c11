/-
  The document's tables: a page's cells as Map sets them.
  The document's tables: what Map refuses.
  The document's tables: what else Map refuses.
-/
import Derived.Test.YteghkhdpdeiocaaGreatDoorUo
import Derived.Test.YteghkhdpdeiocaaGreatDoorTo
namespace Go.Proofs.YteghkhdpdeiocaaGreatDoor
open Go.RowKit Go.Maps
set_option linter.unusedVariables false
set_option maxRecDepth 100000

section
variable {N0 n : Nat} {O : Nat → Prop} {w w' : World} {c h R r U gu : Nat} {z : Zs}
set_option maxHeartbeats 3200000 in
theorem UB.page {x : Tp} (hu : UB w U c R gu x) {P : Nat} (hp : P < 1024) (y : Pg) : UB (((((w.setCell ⟨U, 36 + P * 5, none⟩ (.bool true)).setCell ⟨U, 36 + P * 5 + 1, none⟩ (.int .i64 (y.f : Int))).setCell ⟨U, 36 + P * 5 + 2, none⟩ (.bool y.r)).setCell ⟨U, 36 + P * 5 + 3, none⟩ (.bool y.w)).setCell ⟨U, 36 + P * 5 + 4, none⟩ (.bool y.x)) U c R gu { x with pg := upd x.pg P (some y) } ∧ Trn (fun k => k = U) w (((((w.setCell ⟨U, 36 + P * 5, none⟩ (.bool true)).setCell ⟨U, 36 + P * 5 + 1, none⟩ (.int .i64 (y.f : Int))).setCell ⟨U, 36 + P * 5 + 2, none⟩ (.bool y.r)).setCell ⟨U, 36 + P * 5 + 3, none⟩ (.bool y.w)).setCell ⟨U, 36 + P * 5 + 4, none⟩ (.bool y.x)) := by
  obtain ⟨cs, k, h1, h2, h3, h4, h5, h6, h7⟩ := hu.blk
  have k0 := setCell_eq_setRow w U (36 + P * 5) cs 89 (0, 0) (.bool true) k ▸ setRow_heap w U cs _ 89 _ k
  have k1 := setCell_eq_setRow _ U (36 + P * 5 + 1) _ 89 (0, 0) (.int .i64 (y.f : Int)) k0 ▸ setRow_heap _ U _ _ 89 _ k0
  have k2 := setCell_eq_setRow _ U (36 + P * 5 + 2) _ 89 (0, 0) (.bool y.r) k1 ▸ setRow_heap _ U _ _ 89 _ k1
  have k3 := setCell_eq_setRow _ U (36 + P * 5 + 3) _ 89 (0, 0) (.bool y.w) k2 ▸ setRow_heap _ U _ _ 89 _ k2
  have k4 := setCell_eq_setRow _ U (36 + P * 5 + 4) _ 89 (0, 0) (.bool y.x) k3 ▸ setRow_heap _ U _ _ 89 _ k3
  have t0 := trn_setCell (fun k => k = U) k rfl (36 + P * 5) (.bool true)
  have t1 := trn_setCell (fun k => k = U) k0 rfl (36 + P * 5 + 1) (.int .i64 (y.f : Int))
  have t2 := trn_setCell (fun k => k = U) k1 rfl (36 + P * 5 + 2) (.bool y.r)
  have t3 := trn_setCell (fun k => k = U) k2 rfl (36 + P * 5 + 3) (.bool y.w)
  have t4 := trn_setCell (fun k => k = U) k3 rfl (36 + P * 5 + 4) (.bool y.x)
  have at_ : ∀ i : Nat, ((((((cs.setIfInBounds (36 + P * 5) (.bool true)).setIfInBounds (36 + P * 5 + 1) (.int .i64 (y.f : Int))).setIfInBounds (36 + P * 5 + 2) (.bool y.r)).setIfInBounds (36 + P * 5 + 3) (.bool y.w)).setIfInBounds (36 + P * 5 + 4) (.bool y.x)))[i]? = if i = 36 + P * 5 + 4 then some (.bool y.x) else (if i = 36 + P * 5 + 3 then some (.bool y.w) else (if i = 36 + P * 5 + 2 then some (.bool y.r) else (if i = 36 + P * 5 + 1 then some (.int .i64 (y.f : Int)) else (if i = 36 + P * 5 then some (.bool true) else (cs[i]?))))) := fun i => by
    simp only [Array.getElem?_setIfInBounds, Array.size_setIfInBounds]
    by_cases a4 : 36 + P * 5 + 4 = i
    · rw [if_pos a4, if_pos (by omega), if_pos (by omega)]
    rw [if_neg a4]
    by_cases a3 : 36 + P * 5 + 3 = i
    · rw [if_pos a3, if_pos (by omega), if_neg (by omega), if_pos (by omega)]
    rw [if_neg a3]
    by_cases a2 : 36 + P * 5 + 2 = i
    · rw [if_pos a2, if_pos (by omega), if_neg (by omega), if_neg (by omega), if_pos (by omega)]
    rw [if_neg a2]
    by_cases a1 : 36 + P * 5 + 1 = i
    · rw [if_pos a1, if_pos (by omega), if_neg (by omega), if_neg (by omega), if_neg (by omega), if_pos (by omega)]
    rw [if_neg a1]
    by_cases a0 : 36 + P * 5 = i
    · rw [if_pos a0, if_pos (by omega), if_neg (by omega), if_neg (by omega), if_neg (by omega), if_neg (by omega), if_pos (by omega)]
    rw [if_neg a0]
    rw [if_neg (by omega), if_neg (by omega), if_neg (by omega), if_neg (by omega), if_neg (by omega)]
  refine ⟨⟨_, k4, by simpa using h1, ?_, ?_, ?_, ?_, fun i hi => ?_, fun q hq => ?_⟩, (((t0.trans t1).trans t2).trans t3).trans t4⟩
  · rw [at_, if_neg (by omega), if_neg (by omega), if_neg (by omega), if_neg (by omega), if_neg (by omega)]; exact h2
  · rw [at_, if_neg (by omega), if_neg (by omega), if_neg (by omega), if_neg (by omega), if_neg (by omega)]; exact h3
  · rw [at_, if_neg (by omega), if_neg (by omega), if_neg (by omega), if_neg (by omega), if_neg (by omega)]; exact h4
  · rw [at_, if_neg (by omega), if_neg (by omega), if_neg (by omega), if_neg (by omega), if_neg (by omega)]; exact h5
  · rw [at_, if_neg (by omega), if_neg (by omega), if_neg (by omega), if_neg (by omega), if_neg (by omega)]; exact h6 i hi
  · obtain ⟨e0, e1, e2, e3, e4⟩ := h7 q hq
    show _ = some (Value.bool (upd x.pg P (some y) q).isSome) ∧ _ = some (Value.int .i64 (pgF (upd x.pg P (some y) q))) ∧ _ = some (Value.bool (pgR (upd x.pg P (some y) q))) ∧ _ = some (Value.bool (pgW (upd x.pg P (some y) q))) ∧ _ = some (Value.bool (pgX (upd x.pg P (some y) q)))
    by_cases e : q = P
    · subst e
      rw [upd_self]
      refine ⟨?_, ?_, ?_, ?_, ?_⟩
      · rw [at_, if_neg (by omega), if_neg (by omega), if_neg (by omega), if_neg (by omega), if_pos (by omega)]; rfl
      · rw [at_, if_neg (by omega), if_neg (by omega), if_neg (by omega), if_pos (by omega)]; rfl
      · rw [at_, if_neg (by omega), if_neg (by omega), if_pos (by omega)]; rfl
      · rw [at_, if_neg (by omega), if_pos (by omega)]; rfl
      · rw [at_, if_pos (by omega)]; rfl
    · rw [upd_other _ _ _ e]
      refine ⟨?_, ?_, ?_, ?_, ?_⟩
      · rw [at_, if_neg (by omega), if_neg (by omega), if_neg (by omega), if_neg (by omega), if_neg (by omega)]; exact e0
      · rw [at_, if_neg (by omega), if_neg (by omega), if_neg (by omega), if_neg (by omega), if_neg (by omega)]; exact e1
      · rw [at_, if_neg (by omega), if_neg (by omega), if_neg (by omega), if_neg (by omega), if_neg (by omega)]; exact e2
      · rw [at_, if_neg (by omega), if_neg (by omega), if_neg (by omega), if_neg (by omega), if_neg (by omega)]; exact e3
      · rw [at_, if_neg (by omega), if_neg (by omega), if_neg (by omega), if_neg (by omega), if_neg (by omega)]; exact e4
end
end Go.Proofs.YteghkhdpdeiocaaGreatDoor
namespace Go.Proofs.YteghkhdpdeiocaaGreatDoor
open Go.RowKit Go.Maps
set_option linter.unusedVariables false
set_option maxRecDepth 100000

section
variable {N0 n : Nat} {O : Nat → Prop} {w w' : World} {c h R r U gu : Nat} {z : Zs}
set_option maxHeartbeats 3200000 in
theorem rmap_arg (x : UZ N0 w c h R r U gu z) (hi : Iv n O z) (p f : Int) (a b d : Bool) (hq : z.x.rt < 0 ∨ ¬ (0 ≤ p ∧ p < 1024 ∧ mayR a b d = true ∧ 0 ≤ f ∧ f < n)) : Calls Tryz.prog 21 #[.pointer (some ⟨U, 0, none⟩), .int .i64 p, .int .i64 f, .agg #[.bool a, .bool b, .bool d]] w fun e w1 => e = .returned (.int .i64 (if z.x.rt < 0 then 21 else 2)) ∧ UZ N0 w1 c h R r U gu z ∧ Below w.heap.size w w1 := by
  have HB : Hid (Below w.heap.size w (w.alloc (.cells #[.bool a, .bool b, .bool d] 76))) := (Below.refl _ _).alloc (Nat.le_refl _) _
  have HS : Hid (UZ N0 (w.alloc (.cells #[.bool a, .bool b, .bool d] 76)) c h R r U gu z ∧ B4 (w.alloc (.cells #[.bool a, .bool b, .bool d] 76)) w.heap.size a b d) := ⟨x.below HB.out, heap_alloc_at _ _⟩
  have c3 := HS.out.1.ub.c0.2.2.2
  have hx := x.ub.lt
  have hlen := hi.len
  have hn2 := hi.n2
  clear x hi
  by_cases h1 : z.x.rt < 0
  · rw [if_pos h1]
    clear hq
    generalize z.x.rt = y at *
    go_enter Tryz.func21, Tryz.ntmps21
    go_wp2_with fail
    go_ret
    exact ⟨rfl, HS.out.1, HB.out⟩
  rw [if_neg h1]
  have hq := hq.resolve_left h1
  by_cases p0 : p < 0
  · clear hq hlen
    generalize z.x.rt = y at *
    go_enter Tryz.func21, Tryz.ntmps21
    go_wp2_with fail
    go_ret
    exact ⟨rfl, HS.out.1, HB.out⟩
  by_cases p1 : p < 1024
  case neg =>
    clear hq hlen
    generalize z.x.rt = y at *
    go_enter Tryz.func21, Tryz.ntmps21
    go_wp2_with fail
    go_ret
    exact ⟨rfl, HS.out.1, HB.out⟩
  have R0 := right_any a b d
  cases hm : mayR a b d
  · rw [hm] at R0
    clear hq hm hlen
    have HH := HS
    generalize z.x.rt = y at *
    go_enter Tryz.func21, Tryz.ntmps21
    go_wp2_with fail
    refine (R0 _).mono ?_
    rintro e w1 ⟨rfl, hb1⟩
    have H1 : Hid (UZ N0 w1 c h R r U gu z ∧ Below w.heap.size w w1) := ⟨HS.out.1.below hb1, HB.out.trans (hb1.mono (by simp))⟩
    clear hb1
    go_wp2_with fail
    go_ret
    exact ⟨rfl, H1.out.1, H1.out.2⟩
  rw [hm] at R0
  by_cases f0 : f < 0
  · clear hq hm hlen
    generalize z.x.rt = y at *
    go_enter Tryz.func21, Tryz.ntmps21
    go_wp2_with fail
    refine (R0 _).mono ?_
    rintro e w1 ⟨rfl, hb1⟩
    have H1 : Hid (UZ N0 w1 c h R r U gu z ∧ Below w.heap.size w w1) := ⟨HS.out.1.below hb1, HB.out.trans (hb1.mono (by simp))⟩
    clear hb1
    go_wp2_with fail
    go_ret
    exact ⟨rfl, H1.out.1, H1.out.2⟩
  have f1 : ¬ f < n := fun e => hq ⟨by omega, p1, hm, by omega, e⟩
  have hdiv : IntKind.i64.wrap ((z.m.length : Int) / 256) = n := by rw [IntKind.wrap_i64]; omega
  have MB : Hid (∀ W, UZ N0 W c h R r U gu z → W.cell? ⟨c, 0, none⟩ = some (.slice (some ⟨h, 0, none⟩) z.m.length z.m.length) ∧ c < W.heap.size) := fun W hW => ⟨hW.rz.rm.cell0, hW.rz.rm.blt⟩
  clear hq hm
  generalize z.x.rt = y at *
  generalize hml : z.m.length = ml at *
  go_enter Tryz.func21, Tryz.ntmps21
  go_wp2_with fail
  refine (R0 _).mono ?_
  rintro e w1 ⟨rfl, hb1⟩
  have H1 : Hid (UZ N0 w1 c h R r U gu z ∧ Below w.heap.size w w1) := ⟨HS.out.1.below hb1, HB.out.trans (hb1.mono (by simp))⟩
  have c0 := H1.out.1.ub.c0.1
  obtain ⟨mb, mlt⟩ := MB.out _ H1.out.1
  have dl := H1.out.1.ub.lt
  clear hb1 c3
  go_wp2_with fail
  go_ret
  exact ⟨rfl, H1.out.1, H1.out.2⟩
end
end Go.Proofs.YteghkhdpdeiocaaGreatDoor
namespace Go.Proofs.YteghkhdpdeiocaaGreatDoor
open Go.RowKit Go.Maps
set_option linter.unusedVariables false
set_option maxRecDepth 100000

section
variable {N0 n : Nat} {O : Nat → Prop} {w w' : World} {c h R r U gu : Nat} {z : Zs}
set_option maxHeartbeats 3200000 in
theorem rmap_there (x : UZ N0 w c h R r U gu z) (hi : Iv n O z) (hg : 1 ≤ gu ∧ gu ≤ 16) {P F : Nat} {a b d : Bool} (hr : ¬ z.x.rt < 0) (hP : P < 1024) (hm : mayR a b d = true) (hF : F < n) (hq : (z.x.pg P).isSome = true ∨ ¬ F < z.S.n) : Calls Tryz.prog 21 #[.pointer (some ⟨U, 0, none⟩), .int .i64 P, .int .i64 F, .agg #[.bool a, .bool b, .bool d]] w fun e w1 => e = .returned (.int .i64 (if (z.x.pg P).isSome = true then 13 else 15)) ∧ UZ N0 w1 c h R r U gu z ∧ Below w.heap.size w w1 := by
  have HB : Hid (Below w.heap.size w (w.alloc (.cells #[.bool a, .bool b, .bool d] 76))) := (Below.refl _ _).alloc (Nat.le_refl _) _
  have HS : Hid (UZ N0 (w.alloc (.cells #[.bool a, .bool b, .bool d] 76)) c h R r U gu z ∧ B4 (w.alloc (.cells #[.bool a, .bool b, .bool d] 76)) w.heap.size a b d) := ⟨x.below HB.out, heap_alloc_at _ _⟩
  have c3 := HS.out.1.ub.c0.2.2.2
  have hx := x.ub.lt
  have hlen := hi.len
  have hn2 := hi.n2
  have ho := hi.ok
  have R0 := right_any a b d
  rw [hm] at R0
  have hP' : (P : Int) < 1024 := by omega
  have hF' : (F : Int) < n := by omega
  have hdiv : IntKind.i64.wrap ((z.m.length : Int) / 256) = n := by rw [IntKind.wrap_i64]; omega
  have MB : Hid (∀ W, UZ N0 W c h R r U gu z → W.cell? ⟨c, 0, none⟩ = some (.slice (some ⟨h, 0, none⟩) z.m.length z.m.length) ∧ c < W.heap.size) := fun W hW => ⟨hW.rz.rm.cell0, hW.rz.rm.blt⟩
  have RB : Hid (∀ W, UZ N0 W c h R r U gu z → W.cell? ⟨R, 0, none⟩ = some (.slice (some ⟨r, 0, none⟩) z.S.n z.S.n) ∧ R < W.heap.size) := fun W hW => ⟨hW.rz.rf.c0, hW.rz.rf.lt⟩
  have CC : Hid (∀ W, UZ N0 W c h R r U gu z → W.cell? ⟨U, 0, none⟩ = some (.pointer (some ⟨c, 0, none⟩)) ∧ W.cell? ⟨U, 1, none⟩ = some (.pointer (some ⟨R, 0, none⟩)) ∧ W.cell? ⟨U, 2, none⟩ = some (.int .i64 gu) ∧ W.cell? ⟨U, 3, none⟩ = some (.int .i64 z.x.rt)) := fun W hW => hW.ub.c0
  have PC : Hid (∀ W, UZ N0 W c h R r U gu z → W.cell? ⟨U, 36 + P * 5, none⟩ = some (.bool (z.x.pg P).isSome)) := fun W hW => by
    have := (hW.ub.cp hP).1
    rwa [Nat.mul_comm 5 P] at this
  have RR : Hid (F < z.S.n → ∀ W, UZ N0 W c h R r U gu z → W.cell? ⟨r, F * 2, none⟩ = some (.int .i64 (rO z.S F)) ∧ W.cell? ⟨r, F * 2 + 1, none⟩ = some (.int .i64 (z.S.ti F)) ∧ r < W.heap.size) := fun hf W hW => ⟨hW.rz.rf.r0 hf, hW.rz.rf.r1 hf, hW.rz.rf.rlt⟩
  clear x hi hm
  generalize hml : z.m.length = ml at *
  generalize z.x.rt = y at *
  by_cases hs : (z.x.pg P).isSome = true
  · rw [if_pos hs]
    simp only [hs] at PC
    clear hq
    go_enter Tryz.func21, Tryz.ntmps21
    go_wp2_with fail
    refine (R0 _).mono ?_
    rintro e w1 ⟨rfl, hb1⟩
    have H1 : Hid (UZ N0 w1 c h R r U gu z ∧ Below w.heap.size w w1) := ⟨HS.out.1.below hb1, HB.out.trans (hb1.mono (by simp))⟩
    obtain ⟨c0, c1, c2, c4⟩ := CC.out _ H1.out.1
    obtain ⟨mb, mlt⟩ := MB.out _ H1.out.1
    obtain ⟨rb, rlt⟩ := RB.out _ H1.out.1
    have q0 := PC.out _ H1.out.1
    have dl := H1.out.1.ub.lt
    clear hb1 c3 c4
    go_wp2_with fail
    go_ret
    exact ⟨rfl, H1.out.1, H1.out.2⟩
  rw [if_neg hs]
  have hq := hq.resolve_left hs
  simp only [Bool.not_eq_true] at hs
  simp only [hs] at PC
  by_cases hn : F < z.S.n
  case neg =>
    have hn' : ¬ (F : Int) < z.S.n := by omega
    generalize z.S.n = sn at *
    clear RR ho
    go_enter Tryz.func21, Tryz.ntmps21
    go_wp2_with fail
    refine (R0 _).mono ?_
    rintro e w1 ⟨rfl, hb1⟩
    have H1 : Hid (UZ N0 w1 c h R r U gu z ∧ Below w.heap.size w w1) := ⟨HS.out.1.below hb1, HB.out.trans (hb1.mono (by simp))⟩
    obtain ⟨c0, c1, c2, c4⟩ := CC.out _ H1.out.1
    obtain ⟨mb, mlt⟩ := MB.out _ H1.out.1
    obtain ⟨rb, rlt⟩ := RB.out _ H1.out.1
    have q0 := PC.out _ H1.out.1
    have dl := H1.out.1.ub.lt
    clear hb1 c3 c4
    go_wp2_with fail
    go_region
    go_wp2_with fail
    go_ret
    exact ⟨rfl, H1.out.1.drew, H1.out.2.drew⟩
  exact absurd hn hq
end
end Go.Proofs.YteghkhdpdeiocaaGreatDoor
