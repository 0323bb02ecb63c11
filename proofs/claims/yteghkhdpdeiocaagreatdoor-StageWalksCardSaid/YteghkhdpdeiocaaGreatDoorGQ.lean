/-
  What mapped, take, raise and raze do: their contracts.
  What raise and raze do: their contracts.
-/
import Derived.Test.YteghkhdpdeiocaaGreatDoorTh
namespace Go.Proofs.YteghkhdpdeiocaaGreatDoor
open Go.RowKit Go.Maps
set_option linter.unusedVariables false
set_option maxRecDepth 100000

section
variable {B : Nat → Prop} {w w' : World} {b g D T L gu n : Nat} {O : Nat → Prop} {z : Zs}
/-- what mapped tells -/
def mdV (z : Zs) (p : Int) : Value := if unQ z p = 0 then (match z.x.pg p.toNat with
    | none => .agg #[.bool false, .bool false, .bool false, .bool false, .bool false, .bool false, .bool false, .int .i64 0]
    | some a => .agg #[.bool true, .bool a.r, .bool a.w, .bool a.x, .bool true, .bool false, .bool false, .int .i64 a.f]) else .agg #[.bool false, .bool false, .bool false, .bool false, .bool false, .bool false, .bool false, .int .i64 0]
theorem mapped_sx (h : SX B w b g D T L gu z) (hi : Iv n O z) (p : Int) : Calls Tryz.prog 36 #[.pointer (some ⟨T, 0, none⟩), .int .i64 p] w fun e w1 => e = .returned (.tuple #[mdV z p, .int .i64 (unQ z p)]) ∧ Below w.heap.size w w1 := by
  have HB : Hid (Below w.heap.size w (w.alloc (.cells #[.bool false, .bool false, .bool false, .bool false, .bool false, .bool false, .bool false, .int .i64 0] 93))) := (Below.refl _ _).alloc (Nat.le_refl _) _
  have HS : Hid (SX B (w.alloc (.cells #[.bool false, .bool false, .bool false, .bool false, .bool false, .bool false, .bool false, .int .i64 0] 93)) b g D T L gu z) := h.below HB.out
  have C := check_sx HS.out hi.rt.1 p
  by_cases h0 : chE z p = 0
  · rw [h0] at C
    obtain ⟨P, rfl, hP, hrt⟩ : ∃ P : Nat, p = P ∧ P < 1024 ∧ ¬ z.x.rt < 0 := by
      unfold chE at h0
      by_cases h1 : z.x.rt < 0
      · rw [if_pos h1] at h0; omega
      · rw [if_neg h1] at h0
        by_cases h2 : 0 ≤ p ∧ p < 1024
        · exact ⟨p.toNat, by omega, by omega, h1⟩
        · rw [if_pos h2] at h0; omega
    have F := find_sx HS.out hi hP
    have e1 : unQ z P = if (z.x.pg P).isSome = true then 0 else 14 := by
      unfold unQ
      rw [if_neg hrt, if_neg (by omega), Int.toNat_natCast]
    have e2 : mdV z P = if unQ z P = 0 then (match z.x.pg P with
        | none => .agg #[.bool false, .bool false, .bool false, .bool false, .bool false, .bool false, .bool false, .int .i64 0]
        | some a => .agg #[.bool true, .bool a.r, .bool a.w, .bool a.x, .bool true, .bool false, .bool false, .int .i64 a.f]) else .agg #[.bool false, .bool false, .bool false, .bool false, .bool false, .bool false, .bool false, .int .i64 0] := by
      unfold mdV
      rw [Int.toNat_natCast]
    rw [e2, e1]
    clear e1 e2 h hi h0
    cases hx : z.x.pg P with
    | none =>
      rw [hx] at F
      simp only [Option.isSome_none, Bool.false_eq_true, if_false, show ¬ (14 : Int) = 0 by decide]
      unfold fnV at F
      simp only at F
      go_enter Tryz.func36, Tryz.ntmps36
      go_wp2_with fail
      refine C.mono ?_
      rintro e w1 ⟨rfl, rfl⟩
      go_wp2_with fail
      refine F.mono ?_
      rintro e w1 ⟨rfl, hb⟩
      have hs1 : w.heap.size < w1.heap.size := by have := hb.size; simp at this; omega
      have H1 : Hid (Below w.heap.size w (w1.alloc (.cells #[.bool false, .bool false, .bool false, .bool false, .bool false, .bool false, .bool false, .int .i64 0] 93)) ∧ EB (w1.alloc (.cells #[.bool false, .bool false, .bool false, .bool false, .bool false, .bool false, .bool false, .int .i64 0] 93)) w.heap.size false false false false false false false 0) := ⟨(HB.out.trans (hb.mono (by simp))).alloc (by omega) _, (heap_alloc_past _ _ hs1).trans ((hb.block _ (by simp)).trans (heap_alloc_at w _))⟩
      have hi78 : (Tryz.prog.info? 93).map (·.size) = some 8 := by kernel_rfl
      have hone : (#[.bool false, .bool false, .bool false, .bool false, .bool false, .bool false, .bool false, .int .i64 0] : Array Value).all (·.oneCell') = true := by simp [Value.oneCell']
      have H2 : Hid (Below w.heap.size w ((w1.alloc (.cells #[.bool false, .bool false, .bool false, .bool false, .bool false, .bool false, .bool false, .int .i64 0] 93)).setRow w.heap.size #[.bool false, .bool false, .bool false, .bool false, .bool false, .bool false, .bool false, .int .i64 0]) ∧ EB ((w1.alloc (.cells #[.bool false, .bool false, .bool false, .bool false, .bool false, .bool false, .bool false, .int .i64 0] 93)).setRow w.heap.size #[.bool false, .bool false, .bool false, .bool false, .bool false, .bool false, .bool false, .int .i64 0]) w.heap.size false false false false false false false 0) :=
        ⟨H1.out.1.trans ⟨rfl, rfl, rfl, by simp [World.setRow], fun k hk => setRow_other _ w.heap.size k _ (by omega)⟩, setRow_heap _ _ _ _ 93 _ H1.out.2⟩
      clear hb F C HS HB
      go_wp2_with (refine wpList_store_row rfl 93 _ _ rfl w.heap.size #[.bool false, .bool false, .bool false, .bool false, .bool false, .bool false, .bool false, .int .i64 0] rfl rfl 93 _ H1.out.2 hi78 rfl hone ?_)
      have q1 := H2.out.2.cs
      have q3 := lt_of_heap H2.out.2
      refine bodyPost_ret (v := .tuple #[.agg #[.bool false, .bool false, .bool false, .bool false, .bool false, .bool false, .bool false, .int .i64 0], .int .i64 14]) ?h1 rfl ⟨rfl, H2.out.1⟩
      case h1 => simp [results, Tryz.results36, go_sem, q1]
    | some a =>
      rw [hx] at F
      simp only [Option.isSome_some, if_true]
      unfold fnV at F
      simp only at F
      go_enter Tryz.func36, Tryz.ntmps36
      go_wp2_with fail
      refine C.mono ?_
      rintro e w1 ⟨rfl, rfl⟩
      go_wp2_with fail
      refine F.mono ?_
      rintro e w1 ⟨rfl, hb⟩
      have hs1 : w.heap.size < w1.heap.size := by have := hb.size; simp at this; omega
      have H1 : Hid (Below w.heap.size w (w1.alloc (.cells #[.bool true, .bool a.r, .bool a.w, .bool a.x, .bool true, .bool false, .bool false, .int .i64 a.f] 93)) ∧ EB (w1.alloc (.cells #[.bool true, .bool a.r, .bool a.w, .bool a.x, .bool true, .bool false, .bool false, .int .i64 a.f] 93)) w.heap.size false false false false false false false 0) := ⟨(HB.out.trans (hb.mono (by simp))).alloc (by omega) _, (heap_alloc_past _ _ hs1).trans ((hb.block _ (by simp)).trans (heap_alloc_at w _))⟩
      have hi78 : (Tryz.prog.info? 93).map (·.size) = some 8 := by kernel_rfl
      have hone : (#[.bool true, .bool a.r, .bool a.w, .bool a.x, .bool true, .bool false, .bool false, .int .i64 a.f] : Array Value).all (·.oneCell') = true := by simp [Value.oneCell']
      have H2 : Hid (Below w.heap.size w ((w1.alloc (.cells #[.bool true, .bool a.r, .bool a.w, .bool a.x, .bool true, .bool false, .bool false, .int .i64 a.f] 93)).setRow w.heap.size #[.bool true, .bool a.r, .bool a.w, .bool a.x, .bool true, .bool false, .bool false, .int .i64 a.f]) ∧ EB ((w1.alloc (.cells #[.bool true, .bool a.r, .bool a.w, .bool a.x, .bool true, .bool false, .bool false, .int .i64 a.f] 93)).setRow w.heap.size #[.bool true, .bool a.r, .bool a.w, .bool a.x, .bool true, .bool false, .bool false, .int .i64 a.f]) w.heap.size true a.r a.w a.x true false false a.f) :=
        ⟨H1.out.1.trans ⟨rfl, rfl, rfl, by simp [World.setRow], fun k hk => setRow_other _ w.heap.size k _ (by omega)⟩, setRow_heap _ _ _ _ 93 _ H1.out.2⟩
      clear hb F C HS HB
      go_wp2_with (refine wpList_store_row rfl 93 _ _ rfl w.heap.size #[.bool true, .bool a.r, .bool a.w, .bool a.x, .bool true, .bool false, .bool false, .int .i64 a.f] rfl rfl 93 _ H1.out.2 hi78 rfl hone ?_)
      have q1 := H2.out.2.cs
      have q3 := lt_of_heap H2.out.2
      refine bodyPost_ret (v := .tuple #[.agg #[.bool true, .bool a.r, .bool a.w, .bool a.x, .bool true, .bool false, .bool false, .int .i64 a.f], .int .i64 0]) ?h1 rfl ⟨rfl, H2.out.1⟩
      case h1 => simp [results, Tryz.results36, go_sem, q1]
  · have e1 : unQ z p = chE z p := by
      unfold unQ chE at *
      by_cases h1 : z.x.rt < 0
      · rw [if_pos h1, if_pos h1]
      · rw [if_neg h1] at h0 ⊢
        rw [if_neg h1]
        by_cases h2 : 0 ≤ p ∧ p < 1024
        · rw [if_neg (not_not_intro h2)] at h0
          exact absurd rfl h0
        · rw [if_pos h2, if_pos h2]
    have e2 : mdV z p = .agg #[.bool false, .bool false, .bool false, .bool false, .bool false, .bool false, .bool false, .int .i64 0] := by
      unfold mdV
      rw [e1, if_neg h0]
    rw [e2, e1]
    clear e1 e2 h hi
    generalize chE z p = y at *
    go_enter Tryz.func36, Tryz.ntmps36
    go_wp2_with fail
    refine C.mono ?_
    rintro e w1 ⟨rfl, rfl⟩
    go_wp2_with fail
    refine bodyPost_ret (v := .tuple #[.agg #[.bool false, .bool false, .bool false, .bool false, .bool false, .bool false, .bool false, .int .i64 0], .int .i64 y]) ?h1 rfl ⟨rfl, HB.out⟩
    case h1 => simp [results, Tryz.results36, go_sem]
/-- a frame for a table -/
theorem take_sx (h : SX B w b g D T L gu z) (hl : z.m.length = n * 256) (hn : n ≤ 65536) : Calls Tryz.prog 48 #[.pointer (some ⟨T, 0, none⟩)] w fun e w1 => e = .returned (.tuple #[.int .i64 (if takeE n z.S = 0 then alR z.S 0 else 0), .int .i64 (takeE n z.S)]) ∧ SX B w1 b g D T L gu ⟨takeM n z.m z.S, takeS n z.S, z.x⟩ ∧ Tn (fun k => k = g) B w w1 := by
  have c1 := h.tb.c1
  have hz := h.tb.lt
  have C1 := alloc_fx h.fx h.hB 0
  unfold takeM
  by_cases h0 : alE z.S 0 = 0
  · obtain ⟨a, ha, ha1, aR, aS, l1, l2⟩ := al_at h0
    have CC := fun (W : World) (hS : SX B W b g D T L gu ⟨z.m, alS z.S 0, z.x⟩) => mclear_mm b g z.m (alR z.S 0) W hS.mm
    by_cases h1 : alR z.S 0 < n
    · have e1 : takeE n z.S = 0 := by unfold takeE; rw [if_neg (not_not_intro h0), if_pos h1]
      have e2 : takeS n z.S = alS z.S 0 := by unfold takeS; rw [if_neg (not_not_intro h0), if_pos h1]
      have e3 : clrE z.m.length (alR z.S 0) = 0 := by unfold clrE; rw [if_pos (by omega)]
      rw [e1, e2, if_pos rfl, if_pos rfl]
      simp only [e3] at CC
      rw [h0] at C1
      have HS : Hid (SX B w b g D T L gu z) := h
      clear h e1 e2 e3 h1 aR aS l1 l2 ha ha1 hl hn
      generalize alR z.S 0 = y at *
      go_enter Tryz.func48, Tryz.ntmps48
      go_wp2_with fail
      refine C1.mono ?_
      rintro e w1 ⟨rfl, hf, ht⟩
      have H1 : Hid (SX B w1 b g D T L gu ⟨z.m, alS z.S 0, z.x⟩ ∧ Tn (fun k => k = g) B w w1) := ⟨HS.out.frames hf ht, Tn.of_tu ht⟩
      clear hf ht c1 hz C1
      have c0 := H1.out.1.tb.c0
      have hz := H1.out.1.tb.lt
      go_wp2_with fail
      refine (CC _ H1.out.1).mono ?_
      rintro e w2 ⟨rfl, hm, hg⟩
      have H2 : Hid (SX B w2 b g D T L gu ⟨clearV z.m y, alS z.S 0, z.x⟩ ∧ Tn (fun k => k = g) B w w2) := ⟨H1.out.1.mem hm hg, H1.out.2.trans (Tn.of_grown hg rfl)⟩
      clear hm hg
      go_wp2_with fail
      go_ret2
      exact ⟨rfl, H2.out⟩
    · have e1 : takeE n z.S = 12 := by unfold takeE; rw [if_neg (not_not_intro h0), if_neg h1]
      have e2 : takeS n z.S = frS (alS z.S 0) (alR z.S 0) 0 := by unfold takeS; rw [if_neg (not_not_intro h0), if_neg h1]
      have e3 : clrE z.m.length (alR z.S 0) = 12 := by unfold clrE; rw [if_neg (by omega)]
      have e4 : clearV z.m (alR z.S 0) = z.m := by unfold clearV; rw [if_neg (by omega)]
      rw [e1, e2, if_neg (by decide), if_neg (by decide)]
      simp only [e3, e4] at CC
      rw [h0] at C1
      have HS : Hid (SX B w b g D T L gu z) := h
      clear h e1 e2 e3 e4 h1 aR aS l1 l2 ha ha1 hl hn
      generalize alR z.S 0 = y at *
      go_enter Tryz.func48, Tryz.ntmps48
      go_wp2_with fail
      refine C1.mono ?_
      rintro e w1 ⟨rfl, hf, ht⟩
      have H1 : Hid (SX B w1 b g D T L gu ⟨z.m, alS z.S 0, z.x⟩ ∧ Tn (fun k => k = g) B w w1) := ⟨HS.out.frames hf ht, Tn.of_tu ht⟩
      clear hf ht c1 hz C1
      have c0 := H1.out.1.tb.c0
      have hz := H1.out.1.tb.lt
      go_wp2_with fail
      refine (CC _ H1.out.1).mono ?_
      rintro e w2 ⟨rfl, hm, hg⟩
      have H2 : Hid (SX B w2 b g D T L gu ⟨z.m, alS z.S 0, z.x⟩ ∧ Tn (fun k => k = g) B w w2) := ⟨H1.out.1.mem hm hg, H1.out.2.trans (Tn.of_grown hg rfl)⟩
      clear hm hg c0 hz
      have c1 := H2.out.1.tb.c1
      have hz := H2.out.1.tb.lt
      have F := free_fx H2.out.1.fx y 0
      go_wp2_with fail
      refine F.mono ?_
      rintro e w3 ⟨rfl, hf, ht⟩
      have H3 : Hid (SX B w3 b g D T L gu ⟨z.m, frS (alS z.S 0) y 0, z.x⟩ ∧ Tn (fun k => k = g) B w w3) := ⟨H2.out.1.frames hf ht, H2.out.2.trans (Tn.of_tu ht)⟩
      clear hf ht
      go_wp2_with fail
      go_ret2
      exact ⟨rfl, H3.out⟩
  · have e1 : takeE n z.S = alE z.S 0 := by unfold takeE; rw [if_pos h0]
    have e2 : takeS n z.S = z.S := by unfold takeS; rw [if_pos h0]
    obtain ⟨a1, a2⟩ := al_no h0
    rw [e1, e2, if_neg h0, if_neg h0]
    rw [a1, a2] at C1
    have HS : Hid (SX B w b g D T L gu z) := h
    clear h e1 e2 a1 a2 hl hn
    generalize alE z.S 0 = y at *
    go_enter Tryz.func48, Tryz.ntmps48
    go_wp2_with fail
    refine C1.mono ?_
    rintro e w1 ⟨rfl, hf, ht⟩
    have H1 : Hid (SX B w1 b g D T L gu ⟨z.m, z.S, z.x⟩ ∧ Tn (fun k => k = g) B w w1) := ⟨HS.out.frames hf ht, Tn.of_tu ht⟩
    clear hf ht c1 hz C1
    go_wp2_with fail
    go_ret2
    exact ⟨rfl, H1.out⟩
end
end Go.Proofs.YteghkhdpdeiocaaGreatDoor
namespace Go.Proofs.YteghkhdpdeiocaaGreatDoor
open Go.RowKit Go.Maps
set_option linter.unusedVariables false
set_option maxRecDepth 100000

section
variable {B : Nat → Prop} {w w' : World} {b g D T L gu n : Nat} {O : Nat → Prop} {z : Zs}
/-- a lower table put into the map -/
theorem SX.put (h : SX B w b g D T L gu z) {k : Nat} (hk : k < 32) (hl : z.x.lo k < 0) (t : Nat) : ∃ w1, (Instr.mapUpdate 108 (.map (some L)) (.int .i64 (k : Int)) (.int .i64 (t : Int))).run Tryz.prog w = .ok () w1 ∧ SX B w1 b g D T L gu ⟨z.m, z.S, { z.x with lo := upd z.x.lo k t }⟩ ∧ Tn (Pt g T L) B w w1 := by
  have hN := nlo_le z.x.lo
  obtain ⟨w1, h1, h2, h3⟩ := store_run h.mp k (by omega) (.int .i64 (t : Int)) (by unfold maxLen; omega)
  rw [loM_none hl] at h2
  have e1 : nlo z.x.lo + 1 = nlo (upd z.x.lo k (t : Int)) := by
    have := nlo_upd z.x.lo hk (t : Int)
    rw [if_neg (by omega), if_pos (by omega)] at this
    omega
  have h4 : MapIs w1 L (nlo (upd z.x.lo k (t : Int))) (loM (upd z.x.lo k (t : Int))) := h2.congr (by simpa using e1) (fun i _ => by rw [loM_upd z.x.lo hk, if_pos (by omega)])
  exact ⟨w1, h1, h.lower h4 h3, Tn.of_map h3 (.inr (.inl rfl))⟩
/-- one taken off -/
theorem SX.cut (h : SX B w b g D T L gu z) {k : Nat} (hk : k < 32) (hl : 0 ≤ z.x.lo k) (ty : TypeId) : ∃ w1, (Builtin.delete_ #[108, 3] ty #[.map (some L), .int .i64 (k : Int)]).run Tryz.prog w = .ok (.tuple #[]) w1 ∧ SX B w1 b g D T L gu ⟨z.m, z.S, { z.x with lo := upd z.x.lo k (-1) }⟩ ∧ Tn (Pt g T L) B w w1 := by
  obtain ⟨w1, h1, h2, h3⟩ := drop_run h.mp k (by omega) ty
  rw [loM_some hk hl] at h2
  have e1 : nlo z.x.lo - 1 = nlo (upd z.x.lo k (-1)) := by
    have := nlo_upd z.x.lo hk (-1)
    rw [if_pos hl, if_neg (by omega)] at this
    omega
  have h4 : MapIs w1 L (nlo (upd z.x.lo k (-1))) (loM (upd z.x.lo k (-1))) := h2.congr (by simpa using e1) (fun i _ => by rw [loM_upd z.x.lo hk, if_neg (by omega)])
  exact ⟨w1, h1, h.lower h4 h3, Tn.of_map h3 (.inr (.inl rfl))⟩
theorem Tn.pt {w w' : World} (h : Tn (fun k => k = g) B w w') : Tn (Pt g T L) B w w' := h.mono fun k e => .inr (.inr e)
set_option maxHeartbeats 1600000 in
theorem raise_sx (h : SX B w b g D T L gu z) (hi : Iv n O z) (hr : 0 ≤ z.x.rt) {k : Nat} (hk : k < 32) : Calls Tryz.prog 55 #[.pointer (some ⟨T, 0, none⟩), .int .i64 k] w fun e w1 => e = .returned (.int .i64 (raiE n z k)) ∧ SX B w1 b g D T L gu (raiZ n z k) ∧ Tn (Pt g T L) B w w1 := by
  have c4 := h.tb.c4
  have hz := h.tb.lt
  unfold raiE raiZ
  by_cases hl : 0 ≤ z.x.lo k
  · rw [if_pos hl, if_pos hl]
    have lk := look_ok h.mp k (by omega)
    rw [loM_some hk hl] at lk
    simp only [Option.getD_some, Option.isSome_some] at lk
    have HS : Hid (SX B w b g D T L gu z) := h
    clear h hi
    generalize z.x.lo k = y at *
    go_enter Tryz.func55, Tryz.ntmps55
    go_wp2_with fail
    go_ret
    exact ⟨rfl, HS.out, Tn.refl _ _ _⟩
  · rw [if_neg hl, if_neg hl]
    have lk := look_ok h.mp k (by omega)
    rw [loM_none (by omega)] at lk
    simp only [Option.getD_none, Option.isSome_none] at lk
    unfold zv at lk
    have C1 := take_sx h hi.len hi.n2
    by_cases h0 : takeE n z.S = 0
    · obtain ⟨t, t1, t2, t3, t4, t5, t6⟩ := take_ok h0
      obtain ⟨R, hR⟩ := Int.eq_ofNat_of_zero_le hr
      have hrt := hi.rt
      have hlen := hi.len
      have hn2 := hi.n2
      rw [h0, if_pos rfl, t2] at C1
      rw [h0, if_pos rfl, t2]
      have ef : R * 256 + 256 ≤ (takeM n z.m z.S).length := by
        unfold takeM
        rw [if_pos h0, t2, clear_len _ (by omega)]
        omega
      have HT : Hid (∀ W, Calls Tryz.prog 86 #[.int .i64 (t : Int)] W fun e W' => e = .returned (E.ent true false false false false false false t) ∧ Below W.heap.size W W') := fun W => tableOf_any t W
      have CW := fun (W : World) (hS : SX B W b g D T L gu ⟨takeM n z.m z.S, takeS n z.S, { z.x with lo := upd z.x.lo k t }⟩) => write_sx hS R k ef hk true false false false false false false t
      rw [pack_table t (by omega)] at CW
      have eR : z.x.rt.toNat = R := by omega
      rw [eR]
      have PUT := fun (W : World) (hS : SX B W b g D T L gu ⟨takeM n z.m z.S, takeS n z.S, z.x⟩) => hS.put hk (by show z.x.lo k < 0; omega) t
      clear h hi h0 hr t1 t2 t3 t4 t5 t6 ef hrt hlen hn2 hl
      unfold E.ent at *
      go_enter Tryz.func55, Tryz.ntmps55
      go_wp2_with fail
      refine C1.mono ?_
      rintro e w1 ⟨rfl, h1, tn1⟩
      obtain ⟨w2, r2, h2, tn2⟩ := PUT w1 h1
      have H2 : Hid (SX B w2 b g D T L gu ⟨takeM n z.m z.S, takeS n z.S, { z.x with lo := upd z.x.lo k t }⟩ ∧ Tn (Pt g T L) B w w2) := ⟨h2, tn1.pt.trans tn2⟩
      have d4 := h1.tb.c4
      have dz := h1.tb.lt
      clear h1 tn1 h2 tn2 c4 hz C1 PUT lk
      have d3 := H2.out.1.drew.tb.c3
      rw [show (Zs.mk (takeM n z.m z.S) (takeS n z.S) { z.x with lo := upd z.x.lo k t }).x.rt = (R : Int) from hR] at d3
      have dl := H2.out.1.tb.lt
      go_wp2_with fail
      go_region_held2 (fun W => W.cell? ⟨T, 3, none⟩ = some (.int .i64 (R : Int)))
        (first | exact d3 | exact e3 | exact e4)
        (first
          | (go_at_call 86; refine (HT.out _).mono ?_; rintro q y1 ⟨rfl, hY1⟩; (have H3 : Hid (SX B y1 b g D T L gu ⟨takeM n z.m z.S, takeS n z.S, { z.x with lo := upd z.x.lo k t }⟩ ∧ Tn (Pt g T L) B w y1) := ⟨H2.out.1.drew.below hY1, (H2.out.2.drew).trans (Tn.of_below hY1)⟩); (have e3 : y1.cell? ⟨T, 3, none⟩ = some (.int .i64 (R : Int)) := by have q := H3.out.1.tb.c3; rw [show (Zs.mk (takeM n z.m z.S) (takeS n z.S) { z.x with lo := upd z.x.lo k t }).x.rt = (R : Int) from hR] at q; exact q))
          | (go_at_call 85; refine (CW _ H3.out.1).mono ?_; rintro q y2 ⟨rfl, hY2, tY2⟩; (have H4 : Hid (SX B y2 b g D T L gu ⟨set8 (takeM n z.m z.S) R k (loN t), takeS n z.S, { z.x with lo := upd z.x.lo k t }⟩ ∧ Tn (Pt g T L) B w y2) := ⟨hY2, H3.out.2.trans tY2.pt⟩); (have e4 : y2.cell? ⟨T, 3, none⟩ = some (.int .i64 (R : Int)) := by have q := H4.out.1.tb.c3; rw [show (Zs.mk (set8 (takeM n z.m z.S) R k (loN t)) (takeS n z.S) { z.x with lo := upd z.x.lo k t }).x.rt = (R : Int) from hR] at q; exact q)))
      go_wp2_with fail
      go_ret
      exact ⟨rfl, H4.out⟩
    · rw [if_neg h0] at C1 ⊢
      have eM : takeM n z.m z.S = z.m := by unfold takeM; rw [if_neg h0]
      rw [eM] at C1
      clear h hi hl
      generalize takeE n z.S = y at *
      go_enter Tryz.func55, Tryz.ntmps55
      go_wp2_with fail
      refine C1.mono ?_
      rintro e w1 ⟨rfl, h1, tn1⟩
      have H1 : Hid (_ ∧ _) := ⟨h1, tn1⟩
      clear h1 tn1 C1
      go_wp2_with fail
      go_ret
      exact ⟨rfl, H1.out.1, H1.out.2.pt⟩
set_option maxHeartbeats 1600000 in
theorem raze_sx (h : SX B w b g D T L gu z) {R F : Nat} (hR : z.x.rt = R) (hf : R * 256 + 256 ≤ z.m.length) {k : Nat} (hk : k < 32) (hF : z.x.lo k = F) : Calls Tryz.prog 64 #[.pointer (some ⟨T, 0, none⟩), .int .i64 k] w fun e w1 => e = .returned (.tuple #[]) ∧ SX B w1 b g D T L gu (razZ z k) ∧ Tn (Pt g T L) B w w1 := by
  have c3 := h.tb.c3
  rw [hR] at c3
  have hz := h.tb.lt
  have C1 := write_sx h R k hf hk false false false false false false false 0
  rw [pack_none] at C1
  have FR := fun (W : World) (hS : SX B W b g D T L gu ⟨set8 z.m R k 0, z.S, z.x⟩) => free_fx hS.fx F 0
  have CUT := fun (W : World) (hS : SX B W b g D T L gu ⟨set8 z.m R k 0, frS z.S F 0, z.x⟩) => hS.cut hk (by show 0 ≤ z.x.lo k; omega) 0
  have LK : ∀ W m' S', SX B W b g D T L gu ⟨m', S', z.x⟩ → (Instr.lookup 108 (.map (some L)) (.int .i64 (k : Int)) false).run Tryz.prog W = .ok (.int .i64 F) W := fun W m' S' hW => by
    have lr : (Instr.lookup 108 (.map (some L)) (.int .i64 ((k : Nat) : Int)) false).run Tryz.prog W = .ok ((loM z.x.lo k).getD zv) W := look_run hW.mp k (by omega)
    rw [lr, loM_some hk (by rw [hF]; omega), hF]
    rfl
  have HLK : Hid (_) := LK
  unfold razZ
  rw [hR, hF, Int.toNat_natCast]
  clear h LK
  unfold E.ent at *
  go_enter Tryz.func64, Tryz.ntmps64
  go_wp2_with fail
  refine C1.mono ?_
  rintro e w1 ⟨rfl, h1, tn1⟩
  have H1 : Hid (SX B w1 b g D T L gu ⟨set8 z.m R k 0, z.S, z.x⟩ ∧ Tn (Pt g T L) B w w1) := ⟨h1, tn1.pt⟩
  have dz := h1.tb.lt
  have hc1 := And.intro h1.drew.tb.c1 (And.intro h1.drew.tb.c4 (HLK.out _ _ _ h1.drew))
  have F1 := FR _ h1.drew
  clear h1 tn1 C1 FR c3 hz
  go_wp2_with fail
  go_region_held2 (fun W => W.cell? ⟨T, 1, none⟩ = some (.pointer (some ⟨D, 0, none⟩)) ∧ W.cell? ⟨T, 4, none⟩ = some (.map (some L)) ∧ (Instr.lookup 108 (.map (some L)) (.int .i64 (k : Int)) false).run Tryz.prog W = .ok (.int .i64 F) W)
    (first | exact hc1 | exact hc2)
    (first
      | (go_at_call 56; refine F1.mono ?_; rintro q y2 ⟨rfl, hf2, ht2⟩; (have H2 : Hid (SX B y2 b g D T L gu ⟨set8 z.m R k 0, frS z.S F 0, z.x⟩ ∧ Tn (Pt g T L) B w y2) := ⟨H1.out.1.drew.frames hf2 ht2, H1.out.2.drew.trans (Tn.of_tu ht2)⟩); (have hc2 := And.intro H2.out.1.tb.c1 (And.intro H2.out.1.tb.c4 (HLK.out _ _ _ H2.out.1)))))
  obtain ⟨w3, r3, h3, tn3⟩ := CUT y2 H2.out.1
  have H3 : Hid (_ ∧ Tn (Pt g T L) B w w3) := ⟨h3, H2.out.2.trans tn3⟩
  have d4 := H2.out.1.tb.c4
  have dl := H2.out.1.tb.lt
  clear h3 tn3 hc1 hc2 CUT
  go_wp2_with fail
  go_end0
  exact ⟨rfl, H3.out⟩
end
end Go.Proofs.YteghkhdpdeiocaaGreatDoor
