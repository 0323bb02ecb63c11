/-
  What mapped, take, raise and raze do: their contracts.
-/
import Derived.Test.YteghkhdpdeiocaaDoorTh
namespace Go.Proofs.YteghkhdpdeiocaaDoor
open Go.RowKit Go.Maps
set_option linter.unusedVariables false
set_option maxRecDepth 100000

section
variable {B : Nat → Prop} {w w' : World} {b g D T L gu n : Nat} {O : Nat → Prop} {z : Zs}
/-- what mapped tells -/
def mdV (z : Zs) (p : Int) : Value := if unQ z p = 0 then (match z.x.pg p.toNat with
    | none => .agg #[.bool false, .bool false, .bool false, .bool false, .bool false, .bool false, .bool false, .int .i64 0]
    | some a => .agg #[.bool true, .bool a.r, .bool a.w, .bool a.x, .bool true, .bool false, .bool false, .int .i64 a.f]) else .agg #[.bool false, .bool false, .bool false, .bool false, .bool false, .bool false, .bool false, .int .i64 0]
theorem mapped_sx (h : SX B w b g D T L gu z) (hi : Iv n O z) (p : Int) : Calls Tryd.prog 22 #[.pointer (some ⟨T, 0, none⟩), .int .i64 p] w fun e w1 => e = .returned (.tuple #[mdV z p, .int .i64 (unQ z p)]) ∧ Below w.heap.size w w1 := by
  have HB : Hid (Below w.heap.size w (w.alloc (.cells #[.bool false, .bool false, .bool false, .bool false, .bool false, .bool false, .bool false, .int .i64 0] 78))) := (Below.refl _ _).alloc (Nat.le_refl _) _
  have HS : Hid (SX B (w.alloc (.cells #[.bool false, .bool false, .bool false, .bool false, .bool false, .bool false, .bool false, .int .i64 0] 78)) b g D T L gu z) := h.below HB.out
  have C := check_sx HS.out hi.rt.1 p
  by_cases h0 : chE z p = 0
  · rw [h0] at C
    obtain ⟨P, rfl, hP, hrt⟩ : ∃ P : Nat, p = P ∧ P < 1024 ∧ ¬ z.x.rt < 0 := by
      unfold chE at h0
      by_cases h1 : z.x.rt < 0
      · rw [if_pos h1] at h0; omega
      · rw [if_neg h1] at h0
        by_cases h2 : 0 ≤ p ∧ p < 1024
        · exact ⟨p.toNat, by omega, by omega, h1⟩
        · rw [if_pos h2] at h0; omega
    have F := find_sx HS.out hi hP
    have e1 : unQ z P = if (z.x.pg P).isSome = true then 0 else 14 := by
      unfold unQ
      rw [if_neg hrt, if_neg (by omega), Int.toNat_natCast]
    have e2 : mdV z P = if unQ z P = 0 then (match z.x.pg P with
        | none => .agg #[.bool false, .bool false, .bool false, .bool false, .bool false, .bool false, .bool false, .int .i64 0]
        | some a => .agg #[.bool true, .bool a.r, .bool a.w, .bool a.x, .bool true, .bool false, .bool false, .int .i64 a.f]) else .agg #[.bool false, .bool false, .bool false, .bool false, .bool false, .bool false, .bool false, .int .i64 0] := by
      unfold mdV
      rw [Int.toNat_natCast]
    rw [e2, e1]
    clear e1 e2 h hi h0
    cases hx : z.x.pg P with
    | none =>
      rw [hx] at F
      simp only [Option.isSome_none, Bool.false_eq_true, if_false, show ¬ (14 : Int) = 0 by decide]
      unfold fnV at F
      simp only at F
      go_enter Tryd.func22, Tryd.ntmps22
      go_wp2_with fail
      refine C.mono ?_
      rintro e w1 ⟨rfl, rfl⟩
      go_wp2_with fail
      refine F.mono ?_
      rintro e w1 ⟨rfl, hb⟩
      have hs1 : w.heap.size < w1.heap.size := by have := hb.size; simp at this; omega
      have H1 : Hid (Below w.heap.size w (w1.alloc (.cells #[.bool false, .bool false, .bool false, .bool false, .bool false, .bool false, .bool false, .int .i64 0] 78)) ∧ EB (w1.alloc (.cells #[.bool false, .bool false, .bool false, .bool false, .bool false, .bool false, .bool false, .int .i64 0] 78)) w.heap.size false false false false false false false 0) := ⟨(HB.out.trans (hb.mono (by simp))).alloc (by omega) _, (heap_alloc_past _ _ hs1).trans ((hb.block _ (by simp)).trans (heap_alloc_at w _))⟩
      have hi78 : (Tryd.prog.info? 78).map (·.size) = some 8 := by kernel_rfl
      have hone : (#[.bool false, .bool false, .bool false, .bool false, .bool false, .bool false, .bool false, .int .i64 0] : Array Value).all (·.oneCell') = true := by simp [Value.oneCell']
      have H2 : Hid (Below w.heap.size w ((w1.alloc (.cells #[.bool false, .bool false, .bool false, .bool false, .bool false, .bool false, .bool false, .int .i64 0] 78)).setRow w.heap.size #[.bool false, .bool false, .bool false, .bool false, .bool false, .bool false, .bool false, .int .i64 0]) ∧ EB ((w1.alloc (.cells #[.bool false, .bool false, .bool false, .bool false, .bool false, .bool false, .bool false, .int .i64 0] 78)).setRow w.heap.size #[.bool false, .bool false, .bool false, .bool false, .bool false, .bool false, .bool false, .int .i64 0]) w.heap.size false false false false false false false 0) :=
        ⟨H1.out.1.trans ⟨rfl, rfl, rfl, by simp [World.setRow], fun k hk => setRow_other _ w.heap.size k _ (by omega)⟩, setRow_heap _ _ _ _ 78 _ H1.out.2⟩
      clear hb F C HS HB
      go_wp2_with (refine wpList_store_row rfl 78 _ _ rfl w.heap.size #[.bool false, .bool false, .bool false, .bool false, .bool false, .bool false, .bool false, .int .i64 0] rfl rfl 78 _ H1.out.2 hi78 rfl hone ?_)
      have q1 := H2.out.2.cs
      have q3 := lt_of_heap H2.out.2
      refine bodyPost_ret (v := .tuple #[.agg #[.bool false, .bool false, .bool false, .bool false, .bool false, .bool false, .bool false, .int .i64 0], .int .i64 14]) ?h1 rfl ⟨rfl, H2.out.1⟩
      case h1 => simp [results, Tryd.results22, go_sem, q1]
    | some a =>
      rw [hx] at F
      simp only [Option.isSome_some, if_true]
      unfold fnV at F
      simp only at F
      go_enter Tryd.func22, Tryd.ntmps22
      go_wp2_with fail
      refine C.mono ?_
      rintro e w1 ⟨rfl, rfl⟩
      go_wp2_with fail
      refine F.mono ?_
      rintro e w1 ⟨rfl, hb⟩
      have hs1 : w.heap.size < w1.heap.size := by have := hb.size; simp at this; omega
      have H1 : Hid (Below w.heap.size w (w1.alloc (.cells #[.bool true, .bool a.r, .bool a.w, .bool a.x, .bool true, .bool false, .bool false, .int .i64 a.f] 78)) ∧ EB (w1.alloc (.cells #[.bool true, .bool a.r, .bool a.w, .bool a.x, .bool true, .bool false, .bool false, .int .i64 a.f] 78)) w.heap.size false false false false false false false 0) := ⟨(HB.out.trans (hb.mono (by simp))).alloc (by omega) _, (heap_alloc_past _ _ hs1).trans ((hb.block _ (by simp)).trans (heap_alloc_at w _))⟩
      have hi78 : (Tryd.prog.info? 78).map (·.size) = some 8 := by kernel_rfl
      have hone : (#[.bool true, .bool a.r, .bool a.w, .bool a.x, .bool true, .bool false, .bool false, .int .i64 a.f] : Array Value).all (·.oneCell') = true := by simp [Value.oneCell']
      have H2 : Hid (Below w.heap.size w ((w1.alloc (.cells #[.bool true, .bool a.r, .bool a.w, .bool a.x, .bool true, .bool false, .bool false, .int .i64 a.f] 78)).setRow w.heap.size #[.bool true, .bool a.r, .bool a.w, .bool a.x, .bool true, .bool false, .bool false, .int .i64 a.f]) ∧ EB ((w1.alloc (.cells #[.bool true, .bool a.r, .bool a.w, .bool a.x, .bool true, .bool false, .bool false, .int .i64 a.f] 78)).setRow w.heap.size #[.bool true, .bool a.r, .bool a.w, .bool a.x, .bool true, .bool false, .bool false, .int .i64 a.f]) w.heap.size true a.r a.w a.x true false false a.f) :=
        ⟨H1.out.1.trans ⟨rfl, rfl, rfl, by simp [World.setRow], fun k hk => setRow_other _ w.heap.size k _ (by omega)⟩, setRow_heap _ _ _ _ 78 _ H1.out.2⟩
      clear hb F C HS HB
      go_wp2_with (refine wpList_store_row rfl 78 _ _ rfl w.heap.size #[.bool true, .bool a.r, .bool a.w, .bool a.x, .bool true, .bool false, .bool false, .int .i64 a.f] rfl rfl 78 _ H1.out.2 hi78 rfl hone ?_)
      have q1 := H2.out.2.cs
      have q3 := lt_of_heap H2.out.2
      refine bodyPost_ret (v := .tuple #[.agg #[.bool true, .bool a.r, .bool a.w, .bool a.x, .bool true, .bool false, .bool false, .int .i64 a.f], .int .i64 0]) ?h1 rfl ⟨rfl, H2.out.1⟩
      case h1 => simp [results, Tryd.results22, go_sem, q1]
  · have e1 : unQ z p = chE z p := by
      unfold unQ chE at *
      by_cases h1 : z.x.rt < 0
      · rw [if_pos h1, if_pos h1]
      · rw [if_neg h1] at h0 ⊢
        rw [if_neg h1]
        by_cases h2 : 0 ≤ p ∧ p < 1024
        · rw [if_neg (not_not_intro h2)] at h0
          exact absurd rfl h0
        · rw [if_pos h2, if_pos h2]
    have e2 : mdV z p = .agg #[.bool false, .bool false, .bool false, .bool false, .bool false, .bool false, .bool false, .int .i64 0] := by
      unfold mdV
      rw [e1, if_neg h0]
    rw [e2, e1]
    clear e1 e2 h hi
    generalize chE z p = y at *
    go_enter Tryd.func22, Tryd.ntmps22
    go_wp2_with fail
    refine C.mono ?_
    rintro e w1 ⟨rfl, rfl⟩
    go_wp2_with fail
    refine bodyPost_ret (v := .tuple #[.agg #[.bool false, .bool false, .bool false, .bool false, .bool false, .bool false, .bool false, .int .i64 0], .int .i64 y]) ?h1 rfl ⟨rfl, HB.out⟩
    case h1 => simp [results, Tryd.results22, go_sem]
/-- a frame for a table -/
theorem take_sx (h : SX B w b g D T L gu z) (hl : z.m.length = n * 256) (hn : n ≤ 65536) : Calls Tryd.prog 39 #[.pointer (some ⟨T, 0, none⟩)] w fun e w1 => e = .returned (.tuple #[.int .i64 (if takeE n z.S = 0 then alR z.S 0 else 0), .int .i64 (takeE n z.S)]) ∧ SX B w1 b g D T L gu ⟨takeM n z.m z.S, takeS n z.S, z.x⟩ ∧ Tn (fun k => k = g) B w w1 := by
  have c1 := h.tb.c1
  have hz := h.tb.lt
  have C1 := alloc_fx h.fx h.hB 0
  unfold takeM
  by_cases h0 : alE z.S 0 = 0
  · obtain ⟨a, ha, ha1, aR, aS, l1, l2⟩ := al_at h0
    have CC := fun (W : World) (hS : SX B W b g D T L gu ⟨z.m, alS z.S 0, z.x⟩) => mclear_mm b g z.m (alR z.S 0) W hS.mm
    by_cases h1 : alR z.S 0 < n
    · have e1 : takeE n z.S = 0 := by unfold takeE; rw [if_neg (not_not_intro h0), if_pos h1]
      have e2 : takeS n z.S = alS z.S 0 := by unfold takeS; rw [if_neg (not_not_intro h0), if_pos h1]
      have e3 : clrE z.m.length (alR z.S 0) = 0 := by unfold clrE; rw [if_pos (by omega)]
      rw [e1, e2, if_pos rfl, if_pos rfl]
      simp only [e3] at CC
      rw [h0] at C1
      have HS : Hid (SX B w b g D T L gu z) := h
      clear h e1 e2 e3 h1 aR aS l1 l2 ha ha1 hl hn
      generalize alR z.S 0 = y at *
      go_enter Tryd.func39, Tryd.ntmps39
      go_wp2_with fail
      refine C1.mono ?_
      rintro e w1 ⟨rfl, hf, ht⟩
      have H1 : Hid (SX B w1 b g D T L gu ⟨z.m, alS z.S 0, z.x⟩ ∧ Tn (fun k => k = g) B w w1) := ⟨HS.out.frames hf ht, Tn.of_tu ht⟩
      clear hf ht c1 hz C1
      have c0 := H1.out.1.tb.c0
      have hz := H1.out.1.tb.lt
      go_wp2_with fail
      refine (CC _ H1.out.1).mono ?_
      rintro e w2 ⟨rfl, hm, hg⟩
      have H2 : Hid (SX B w2 b g D T L gu ⟨clearV z.m y, alS z.S 0, z.x⟩ ∧ Tn (fun k => k = g) B w w2) := ⟨H1.out.1.mem hm hg, H1.out.2.trans (Tn.of_grown hg rfl)⟩
      clear hm hg
      go_wp2_with fail
      go_ret2
      exact ⟨rfl, H2.out⟩
    · have e1 : takeE n z.S = 12 := by unfold takeE; rw [if_neg (not_not_intro h0), if_neg h1]
      have e2 : takeS n z.S = frS (alS z.S 0) (alR z.S 0) 0 := by unfold takeS; rw [if_neg (not_not_intro h0), if_neg h1]
      have e3 : clrE z.m.length (alR z.S 0) = 12 := by unfold clrE; rw [if_neg (by omega)]
      have e4 : clearV z.m (alR z.S 0) = z.m := by unfold clearV; rw [if_neg (by omega)]
      rw [e1, e2, if_neg (by decide), if_neg (by decide)]
      simp only [e3, e4] at CC
      rw [h0] at C1
      have HS : Hid (SX B w b g D T L gu z) := h
      clear h e1 e2 e3 e4 h1 aR aS l1 l2 ha ha1 hl hn
      generalize alR z.S 0 = y at *
      go_enter Tryd.func39, Tryd.ntmps39
      go_wp2_with fail
      refine C1.mono ?_
      rintro e w1 ⟨rfl, hf, ht⟩
      have H1 : Hid (SX B w1 b g D T L gu ⟨z.m, alS z.S 0, z.x⟩ ∧ Tn (fun k => k = g) B w w1) := ⟨HS.out.frames hf ht, Tn.of_tu ht⟩
      clear hf ht c1 hz C1
      have c0 := H1.out.1.tb.c0
      have hz := H1.out.1.tb.lt
      go_wp2_with fail
      refine (CC _ H1.out.1).mono ?_
      rintro e w2 ⟨rfl, hm, hg⟩
      have H2 : Hid (SX B w2 b g D T L gu ⟨z.m, alS z.S 0, z.x⟩ ∧ Tn (fun k => k = g) B w w2) := ⟨H1.out.1.mem hm hg, H1.out.2.trans (Tn.of_grown hg rfl)⟩
      clear hm hg c0 hz
      have c1 := H2.out.1.tb.c1
      have hz := H2.out.1.tb.lt
      have F := free_fx H2.out.1.fx y 0
      go_wp2_with fail
      refine F.mono ?_
      rintro e w3 ⟨rfl, hf, ht⟩
      have H3 : Hid (SX B w3 b g D T L gu ⟨z.m, frS (alS z.S 0) y 0, z.x⟩ ∧ Tn (fun k => k = g) B w w3) := ⟨H2.out.1.frames hf ht, H2.out.2.trans (Tn.of_tu ht)⟩
      clear hf ht
      go_wp2_with fail
      go_ret2
      exact ⟨rfl, H3.out⟩
  · have e1 : takeE n z.S = alE z.S 0 := by unfold takeE; rw [if_pos h0]
    have e2 : takeS n z.S = z.S := by unfold takeS; rw [if_pos h0]
    obtain ⟨a1, a2⟩ := al_no h0
    rw [e1, e2, if_neg h0, if_neg h0]
    rw [a1, a2] at C1
    have HS : Hid (SX B w b g D T L gu z) := h
    clear h e1 e2 a1 a2 hl hn
    generalize alE z.S 0 = y at *
    go_enter Tryd.func39, Tryd.ntmps39
    go_wp2_with fail
    refine C1.mono ?_
    rintro e w1 ⟨rfl, hf, ht⟩
    have H1 : Hid (SX B w1 b g D T L gu ⟨z.m, z.S, z.x⟩ ∧ Tn (fun k => k = g) B w w1) := ⟨HS.out.frames hf ht, Tn.of_tu ht⟩
    clear hf ht c1 hz C1
    go_wp2_with fail
    go_ret2
    exact ⟨rfl, H1.out⟩
end
end Go.Proofs.YteghkhdpdeiocaaDoor
