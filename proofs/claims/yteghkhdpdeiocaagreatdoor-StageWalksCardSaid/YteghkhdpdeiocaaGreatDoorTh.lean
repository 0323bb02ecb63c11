/-
  What find does: its contract.
-/
import Derived.Test.YteghkhdpdeiocaaGreatDoorGW
import Derived.Deep.MidRow
import Derived.Deep.RegionHeld
namespace Go.Proofs.YteghkhdpdeiocaaGreatDoor
open Go.RowKit Go.Maps
set_option linter.unusedVariables false
set_option maxRecDepth 100000

theorem range_eb {W : World} {q : Nat} {v r w' x u s d : Bool} {fr : Int} (h : EB W q v r w' x u s d fr) : W.rangeAt q 0 [.bool v, .bool r, .bool w', .bool x, .bool u, .bool s, .bool d, .int .i64 fr] := by
  intro j v hj
  unfold EB at h
  rw [Nat.zero_add, cell_at h]
  simpa using hj
section
variable {B : Nat → Prop} {w w' : World} {b g D T L gu : Nat} {z : Zs}
set_option maxHeartbeats 800000 in
theorem find_page (h : SX B w b g D T L gu z) {p F : Nat} (hp : p < 1024) (hl : z.x.lo (p / 32) = F) (hf : F * 256 + 256 ≤ z.m.length) (r x y : Bool) (f : Int) (V : Int) (hV : e8 z.m F (p % 32) = V) (hV0 : 0 ≤ V) (hV1 : V < 18446744073709551616) (hE : E.enOf V = ⟨true, r, x, y, true, false, false, f⟩) : Calls Tryz.prog 53 #[.pointer (some ⟨T, 0, none⟩), .int .i64 p] w fun e w1 => e = .returned (.tuple #[.agg #[.bool true, .bool r, .bool x, .bool y, .bool true, .bool false, .bool false, .int .i64 f], .bool true]) ∧ Below w.heap.size w w1 := by
  have hp1 : (p : Int) < 1024 := by omega
  have hw := quo_w p hp
  have hm := rem_w p
  have hlen := h.mm.len
  have lk : (Instr.lookup 108 (.map (some L)) (.int .i64 ((p : Int) / 32)) true).run Tryz.prog (w.alloc (.cells #[.bool false, .bool false, .bool false, .bool false, .bool false, .bool false, .bool false, .int .i64 0] 93)) = .ok (.tuple #[.int .i64 F, .bool true]) (w.alloc (.cells #[.bool false, .bool false, .bool false, .bool false, .bool false, .bool false, .bool false, .int .i64 0] 93)) := by
    have lr := look_ok (h.below ((Below.refl _ _).alloc (Nat.le_refl _) (.cells #[.bool false, .bool false, .bool false, .bool false, .bool false, .bool false, .bool false, .int .i64 0] 93))).mp (p / 32) (by omega)
    rw [loM_some (by omega) (by rw [hl]; omega), hl] at lr
    rw [show (p : Int) / 32 = ((p / 32 : Nat) : Int) by omega]
    exact lr
  have HB : Hid (Below w.heap.size w (w.alloc (.cells #[.bool false, .bool false, .bool false, .bool false, .bool false, .bool false, .bool false, .int .i64 0] 93))) := (Below.refl _ _).alloc (Nat.le_refl _) _
  have HS : Hid (SX B (w.alloc (.cells #[.bool false, .bool false, .bool false, .bool false, .bool false, .bool false, .bool false, .int .i64 0] 93)) b g D T L gu z) := h.below HB.out
  have E0 := entryAt_any F (p % 32) (by omega) (by omega)
  rw [show ((p % 32 : Nat) : Int) = (p : Int) % 32 by omega] at E0
  obtain ⟨eL, eN⟩ := load_e8 z.m (f := F) (j := p % 32) hf (by omega)
  have LD := fun (W : World) (hS : SX B W b g D T L gu z) => mload_mm b g z.m ((F * 256 + 8 * (p % 32) : Nat) : Int) 8 W hS.sz hS.mm (by omega) (by omega) (by omega)
  simp only [eL, eN, hV] at LD
  have UP := fun (W : World) (hT : E.BT W) => E.unpack_en V hV0 hV1 W hT
  rw [hE] at UP
  unfold E.En.val E.ent at UP
  have c4 := HS.out.tb.c4
  have c0 := HS.out.tb.c0
  have hz := h.tb.lt
  have C2 := LD _ HS.out.drew
  clear h hV hE LD eL eN
  generalize ((F * 256 + 8 * (p % 32) : Nat) : Int) = at_ at *
  go_enter Tryz.func53, Tryz.ntmps53
  go_wp2_with fail
  go_region_held2 (fun W => W.cell? ⟨T, 0, none⟩ = some (.pointer (some ⟨b, 0, none⟩)))
    (first | exact c0 | exact hc2)
    (first
      | (go_at_call 83; refine (E0 _).mono ?_; rintro q y1 ⟨rfl, rfl⟩)
      | (go_at_call 82; refine C2.mono ?_; rintro q y2 ⟨rfl, hY⟩; (have H2 : Hid (SX B y2 b g D T L gu z ∧ Below w.heap.size w y2 ∧ EB y2 w.heap.size false false false false false false false 0) := ⟨HS.out.drew.below hY, HB.out.drew.trans (hY.mono (by simp)), (hY.block _ (by simp)).trans (heap_alloc_at w _)⟩); (have hc2 := H2.out.1.tb.c0)))
  go_wp2_with fail
  refine (UP _ H2.out.1.bt).mono ?_
  rintro e w3 ⟨rfl, hb3⟩
  have H3 : Hid (Below w.heap.size w w3 ∧ EB w3 w.heap.size false false false false false false false 0) := ⟨H2.out.2.1.trans (hb3.mono (by have := H2.out.2.1.size; omega)), (hb3.block _ (lt_of_heap H2.out.2.2)).trans H2.out.2.2⟩
  clear hb3 H2 UP C2 E0 hY hc2 c4 c0 lk HB HS
  have H4 : Hid (Below w.heap.size w (w3.alloc (.cells #[.bool true, .bool r, .bool x, .bool y, .bool true, .bool false, .bool false, .int .i64 f] 93)).drew ∧ EB (w3.alloc (.cells #[.bool true, .bool r, .bool x, .bool y, .bool true, .bool false, .bool false, .int .i64 f] 93)).drew w.heap.size false false false false false false false 0 ∧ EB (w3.alloc (.cells #[.bool true, .bool r, .bool x, .bool y, .bool true, .bool false, .bool false, .int .i64 f] 93)).drew w3.heap.size true r x y true false false f) := ⟨(H3.out.1.alloc H3.out.1.size _).drew, (heap_alloc_past _ _ (lt_of_heap H3.out.2)).trans H3.out.2, heap_alloc_at _ _⟩
  have hQ : w.heap.size < w3.heap.size := lt_of_heap H3.out.2
  have hQ1 : w.heap.size ≠ w3.heap.size := by omega
  have hQ2 : w3.heap.size ≠ w.heap.size := by omega
  have e1 := H4.out.2.2.cs
  have R0 := rightsOf_any true r x y true false false f
  have P0 := pageOf_any f r x y
  have eqE : ∀ W : World, (Op.equalIn 10000 93 (.agg #[.bool true, .bool r, .bool x, .bool y, .bool true, .bool false, .bool false, .int .i64 f]) (.agg #[.bool true, .bool r, .bool x, .bool y, .bool true, .bool false, .bool false, .int .i64 f])).run Tryz.prog W = .ok true W := by
    intro W
    rw [eq_ent]
    simp
  have eqG : Tryz.prog.eqGuardType Tryz.prog.depth 93 = false := by kernel_rfl
  unfold E.ent at R0 P0
  have hu78 := Tryz.underlying93
  have hi78 : (Tryz.prog.info? 93).map (·.size) = some 8 := by kernel_rfl
  have rg : ∀ W : World, EB W w3.heap.size true r x y true false false f → W.rangeAt w3.heap.size 0 [.bool true, .bool r, .bool x, .bool y, .bool true, .bool false, .bool false, .int .i64 f] := fun W h => range_eb h
  go_wp2_with fail
  clear H3
  have HSS : (fun W : World => EB W w3.heap.size true r x y true false false f) (w3.alloc (.cells #[.bool true, .bool r, .bool x, .bool y, .bool true, .bool false, .bool false, .int .i64 f] 93)).drew := H4.out.2.2
  refine wp_region_held_drew (S := fun W => EB W w3.heap.size true r x y true false false f) (by kernel_rfl) HSS (fun _ => ?_)
  refine wpAnyH_take (i := 0) (v := .agg #[.bool true, .bool r, .bool x, .bool y, .bool true, .bool false, .bool false, .int .i64 f]) rfl (by kernel_rfl) (by kernel_rfl) (by kernel_rfl) (fun _ _ _ h => h) (yieldsIf_load_mid (by rfl) 93 _ rfl w3.heap.size 0 rfl [.bool true, .bool r, .bool x, .bool y, .bool true, .bool false, .bool false, .int .i64 f] _ (fun w h => rg w h) hu78 rfl hi78) HSS ?_
  try simp only [Act.put, List.getElem_toArray, List.getElem_cons_zero, List.setIfInBounds_toArray, List.set_cons_zero, List.set_cons_succ]
  refine wpAnyH_take (i := 1) (v := .agg #[.bool true, .bool r, .bool x, .bool y, .bool true, .bool false, .bool false, .int .i64 f]) rfl (by kernel_rfl) (by kernel_rfl) (by kernel_rfl) (fun _ _ _ h => h) (yieldsIf_load_mid (by rfl) 93 _ rfl w3.heap.size 0 rfl [.bool true, .bool r, .bool x, .bool y, .bool true, .bool false, .bool false, .int .i64 f] _ (fun w h => rg w h) hu78 rfl hi78) HSS ?_
  try simp only [Act.put, List.getElem_toArray, List.getElem_cons_succ, List.getElem_cons_zero, List.setIfInBounds_toArray, List.set_cons_zero, List.set_cons_succ]
  refine wpAnyH_take (i := 2) (v := .pointer (some ⟨w3.heap.size, 7, none⟩)) rfl (by kernel_rfl) (by kernel_rfl) (by kernel_rfl) (fun _ _ _ h => h) (Or.inl ⟨by rfl, ?_⟩) HSS ?_
  · intro w hw; go_simp
  try simp only [Act.put, List.getElem_toArray, List.getElem_cons_succ, List.getElem_cons_zero, List.setIfInBounds_toArray, List.set_cons_zero, List.set_cons_succ]
  refine wpAnyH_take (i := 3) (v := .int .i64 f) rfl (by kernel_rfl) (by kernel_rfl) (by kernel_rfl) (fun _ _ _ h => h) (Or.inl ⟨by rfl, ?_⟩) HSS ?_
  · intro w hw
    have hw7 := (EB.cs hw).2.2.2.2.2.2.2
    go_simp
  try simp only [Act.put, List.getElem_toArray, List.getElem_cons_succ, List.getElem_cons_zero, List.setIfInBounds_toArray, List.set_cons_zero, List.set_cons_succ]
  refine wpAnyH_take (i := 4) (v := .agg #[.bool true, .bool r, .bool x, .bool y, .bool true, .bool false, .bool false, .int .i64 f]) rfl (by kernel_rfl) (by kernel_rfl) (by kernel_rfl) (fun _ _ _ h => h) (yieldsIf_load_mid (by rfl) 93 _ rfl w3.heap.size 0 rfl [.bool true, .bool r, .bool x, .bool y, .bool true, .bool false, .bool false, .int .i64 f] _ (fun w h => rg w h) hu78 rfl hi78) HSS ?_
  try simp only [Act.put, List.getElem_toArray, List.getElem_cons_succ, List.getElem_cons_zero, List.setIfInBounds_toArray, List.set_cons_zero, List.set_cons_succ]
  refine wpAnyH_ready (rs := [5]) (by kernel_rfl) (by simp) ?_
  refine AllReadyH.cons rfl (fun K hK => ?_) AllReadyH.nil
  go_simp
  go_wp2_with (go_at_call 37; refine (R0 _).mono ?_; rintro q y1 ⟨rfl, hY1⟩)
  have H5 : Hid (Below w.heap.size w y1 ∧ EB y1 w.heap.size false false false false false false false 0 ∧ EB y1 w3.heap.size true r x y true false false f) := ⟨H4.out.1.trans (hY1.mono (by have := H4.out.1.size; omega)), (hY1.block _ (lt_of_heap H4.out.2.1)).trans H4.out.2.1, (hY1.block _ (lt_of_heap H4.out.2.2)).trans H4.out.2.2⟩
  refine hK.out _ _ H5.out.2.2 (fun hS1 => ?_)
  clear hK K HSS
  try simp only [Act.put, List.getElem_toArray, List.getElem_cons_succ, List.getElem_cons_zero, List.setIfInBounds_toArray, List.set_cons_zero, List.set_cons_succ]
  refine wpAnyH_ready (rs := [6]) (by kernel_rfl) (by simp) ?_
  refine AllReadyH.cons rfl (fun K hK => ?_) AllReadyH.nil
  go_simp
  go_wp2_with (go_at_call 58; refine (P0 _).mono ?_; rintro q y2 ⟨rfl, hY2⟩)
  have H6 : Hid (Below w.heap.size w y2 ∧ EB y2 w.heap.size false false false false false false false 0 ∧ EB y2 w3.heap.size true r x y true false false f) := ⟨H5.out.1.trans (hY2.mono (by have := H5.out.1.size; omega)), (hY2.block _ (lt_of_heap H5.out.2.1)).trans H5.out.2.1, (hY2.block _ (lt_of_heap H5.out.2.2)).trans H5.out.2.2⟩
  refine hK.out _ _ H6.out.2.2 (fun hS2 => ?_)
  clear hK K H5 hY1 hY2 hS1
  try simp only [Act.put, List.getElem_toArray, List.getElem_cons_succ, List.getElem_cons_zero, List.setIfInBounds_toArray, List.set_cons_zero, List.set_cons_succ]
  refine wpAnyH_take (i := 7) (v := .bool true) rfl (by kernel_rfl) (by kernel_rfl) (by kernel_rfl) (fun _ _ _ h => h) (Or.inl ⟨by rfl, ?_⟩) hS2 ?_
  · intro w hw; go_simp
  try simp only [Act.put, List.getElem_toArray, List.getElem_cons_succ, List.getElem_cons_zero, List.setIfInBounds_toArray, List.set_cons_zero, List.set_cons_succ]
  refine wpAnyH_ready (rs := [8]) (by kernel_rfl) (by simp) ?_
  refine AllReadyH.cons rfl (fun K hK => ?_) AllReadyH.nil
  rw [if_pos (by rfl)]
  refine wp_store_row 93 _ _ rfl w.heap.size #[.bool true, .bool r, .bool x, .bool y, .bool true, .bool false, .bool false, .int .i64 f] rfl rfl 93 _ H6.out.2.1 hi78 rfl (by simp [Value.oneCell']) ?_
  have H7 : Hid (Below w.heap.size w (y2.setRow w.heap.size #[.bool true, .bool r, .bool x, .bool y, .bool true, .bool false, .bool false, .int .i64 f]) ∧ EB (y2.setRow w.heap.size #[.bool true, .bool r, .bool x, .bool y, .bool true, .bool false, .bool false, .int .i64 f]) w.heap.size true r x y true false false f ∧ EB (y2.setRow w.heap.size #[.bool true, .bool r, .bool x, .bool y, .bool true, .bool false, .bool false, .int .i64 f]) w3.heap.size true r x y true false false f) :=
    ⟨H6.out.1.trans ⟨rfl, rfl, rfl, by simp [World.setRow], fun k hk => setRow_other y2 w.heap.size k _ (by omega)⟩, setRow_heap y2 _ _ _ 93 _ H6.out.2.1, (setRow_other y2 w.heap.size w3.heap.size _ hQ2).trans H6.out.2.2⟩
  refine hK.out _ _ H7.out.2.2 (fun hS3 => ?_)
  clear hK K
  obtain ⟨y3, hy3⟩ : ∃ y3, y2.setRow w.heap.size #[.bool true, .bool r, .bool x, .bool y, .bool true, .bool false, .bool false, .int .i64 f] = y3 := ⟨_, rfl⟩
  rw [hy3] at H7 hS3 ⊢
  clear hy3 H6 hS2
  try simp only [Act.put, List.getElem_toArray, List.getElem_cons_succ, List.getElem_cons_zero]
  refine wpAnyH_take (i := 9) (v := .bool true) rfl (by kernel_rfl) (by kernel_rfl) (by kernel_rfl) (fun _ _ _ h => h) (Or.inl ⟨by rfl, ?_⟩) hS3 ?_
  · intro w hw; go_simp
  try simp only [Act.put, List.getElem_toArray, List.getElem_cons_succ, List.getElem_cons_zero, List.setIfInBounds_toArray, List.set_cons_zero, List.set_cons_succ]
  refine wpAnyH_done (by kernel_rfl) ?_ _
  have q1 := H7.out.2.1.cs
  have q2 := lt_of_heap H7.out.2.1
  go_wp2_with fail
  refine bodyPost_ret (v := .tuple #[.agg #[.bool true, .bool r, .bool x, .bool y, .bool true, .bool false, .bool false, .int .i64 f], .bool true]) ?h1 rfl ⟨rfl, H7.out.1⟩
  case h1 => simp [results, Tryz.results53, go_sem, q1]
set_option maxHeartbeats 800000 in
theorem find_zero (h : SX B w b g D T L gu z) {p F : Nat} (hp : p < 1024) (hl : z.x.lo (p / 32) = F) (hf : F * 256 + 256 ≤ z.m.length) (V : Int) (hV : e8 z.m F (p % 32) = V) (hV0 : 0 ≤ V) (hV1 : V < 18446744073709551616) (hE : E.enOf V = ⟨false, false, false, false, false, false, false, 0⟩) : Calls Tryz.prog 53 #[.pointer (some ⟨T, 0, none⟩), .int .i64 p] w fun e w1 => e = .returned (.tuple #[.agg #[.bool false, .bool false, .bool false, .bool false, .bool false, .bool false, .bool false, .int .i64 0], .bool false]) ∧ Below w.heap.size w w1 := by
  have hp1 : (p : Int) < 1024 := by omega
  have hw := quo_w p hp
  have hm := rem_w p
  have hlen := h.mm.len
  have lk : (Instr.lookup 108 (.map (some L)) (.int .i64 ((p : Int) / 32)) true).run Tryz.prog (w.alloc (.cells #[.bool false, .bool false, .bool false, .bool false, .bool false, .bool false, .bool false, .int .i64 0] 93)) = .ok (.tuple #[.int .i64 F, .bool true]) (w.alloc (.cells #[.bool false, .bool false, .bool false, .bool false, .bool false, .bool false, .bool false, .int .i64 0] 93)) := by
    have lr := look_ok (h.below ((Below.refl _ _).alloc (Nat.le_refl _) (.cells #[.bool false, .bool false, .bool false, .bool false, .bool false, .bool false, .bool false, .int .i64 0] 93))).mp (p / 32) (by omega)
    rw [loM_some (by omega) (by rw [hl]; omega), hl] at lr
    rw [show (p : Int) / 32 = ((p / 32 : Nat) : Int) by omega]
    exact lr
  have HB : Hid (Below w.heap.size w (w.alloc (.cells #[.bool false, .bool false, .bool false, .bool false, .bool false, .bool false, .bool false, .int .i64 0] 93))) := (Below.refl _ _).alloc (Nat.le_refl _) _
  have HS : Hid (SX B (w.alloc (.cells #[.bool false, .bool false, .bool false, .bool false, .bool false, .bool false, .bool false, .int .i64 0] 93)) b g D T L gu z) := h.below HB.out
  have E0 := entryAt_any F (p % 32) (by omega) (by omega)
  rw [show ((p % 32 : Nat) : Int) = (p : Int) % 32 by omega] at E0
  obtain ⟨eL, eN⟩ := load_e8 z.m (f := F) (j := p % 32) hf (by omega)
  have LD := fun (W : World) (hS : SX B W b g D T L gu z) => mload_mm b g z.m ((F * 256 + 8 * (p % 32) : Nat) : Int) 8 W hS.sz hS.mm (by omega) (by omega) (by omega)
  simp only [eL, eN, hV] at LD
  have UP := fun (W : World) (hT : E.BT W) => E.unpack_en V hV0 hV1 W hT
  rw [hE] at UP
  unfold E.En.val E.ent at UP
  have c4 := HS.out.tb.c4
  have c0 := HS.out.tb.c0
  have hz := h.tb.lt
  have C2 := LD _ HS.out.drew
  clear h hV hE LD eL eN
  generalize ((F * 256 + 8 * (p % 32) : Nat) : Int) = at_ at *
  go_enter Tryz.func53, Tryz.ntmps53
  go_wp2_with fail
  go_region_held2 (fun W => W.cell? ⟨T, 0, none⟩ = some (.pointer (some ⟨b, 0, none⟩)))
    (first | exact c0 | exact hc2)
    (first
      | (go_at_call 83; refine (E0 _).mono ?_; rintro q y1 ⟨rfl, rfl⟩)
      | (go_at_call 82; refine C2.mono ?_; rintro q y2 ⟨rfl, hY⟩; (have H2 : Hid (SX B y2 b g D T L gu z ∧ Below w.heap.size w y2 ∧ EB y2 w.heap.size false false false false false false false 0) := ⟨HS.out.drew.below hY, HB.out.drew.trans (hY.mono (by simp)), (hY.block _ (by simp)).trans (heap_alloc_at w _)⟩); (have hc2 := H2.out.1.tb.c0)))
  go_wp2_with fail
  refine (UP _ H2.out.1.bt).mono ?_
  rintro e w3 ⟨rfl, hb3⟩
  have H3 : Hid (Below w.heap.size w w3 ∧ EB w3 w.heap.size false false false false false false false 0) := ⟨H2.out.2.1.trans (hb3.mono (by have := H2.out.2.1.size; omega)), (hb3.block _ (lt_of_heap H2.out.2.2)).trans H2.out.2.2⟩
  clear hb3 H2 UP C2 E0 hY hc2 c4 c0 lk HB HS
  have H4 : Hid (Below w.heap.size w (w3.alloc (.cells #[.bool false, .bool false, .bool false, .bool false, .bool false, .bool false, .bool false, .int .i64 0] 93)).drew ∧ EB (w3.alloc (.cells #[.bool false, .bool false, .bool false, .bool false, .bool false, .bool false, .bool false, .int .i64 0] 93)).drew w.heap.size false false false false false false false 0 ∧ EB (w3.alloc (.cells #[.bool false, .bool false, .bool false, .bool false, .bool false, .bool false, .bool false, .int .i64 0] 93)).drew w3.heap.size false false false false false false false 0) := ⟨(H3.out.1.alloc H3.out.1.size _).drew, (heap_alloc_past _ _ (lt_of_heap H3.out.2)).trans H3.out.2, heap_alloc_at _ _⟩
  have hQ : w.heap.size < w3.heap.size := lt_of_heap H3.out.2
  have hQ1 : w.heap.size ≠ w3.heap.size := by omega
  have hQ2 : w3.heap.size ≠ w.heap.size := by omega
  have e1 := H4.out.2.2.cs
  have R0 := rightsOf_any false false false false false false false 0
  have P0 := pageOf_any 0 false false false
  have eqE : ∀ W : World, (Op.equalIn 10000 93 (.agg #[.bool false, .bool false, .bool false, .bool false, .bool false, .bool false, .bool false, .int .i64 0]) (.agg #[.bool true, .bool false, .bool false, .bool false, .bool true, .bool false, .bool false, .int .i64 0])).run Tryz.prog W = .ok false W := by
    intro W
    rw [eq_ent]
    simp
  have eqG : Tryz.prog.eqGuardType Tryz.prog.depth 93 = false := by kernel_rfl
  unfold E.ent at R0 P0
  have hu78 := Tryz.underlying93
  have hi78 : (Tryz.prog.info? 93).map (·.size) = some 8 := by kernel_rfl
  have rg : ∀ W : World, EB W w3.heap.size false false false false false false false 0 → W.rangeAt w3.heap.size 0 [.bool false, .bool false, .bool false, .bool false, .bool false, .bool false, .bool false, .int .i64 0] := fun W h => range_eb h
  go_wp2_with fail
  clear H3
  have HSS : (fun W : World => EB W w3.heap.size false false false false false false false 0) (w3.alloc (.cells #[.bool false, .bool false, .bool false, .bool false, .bool false, .bool false, .bool false, .int .i64 0] 93)).drew := H4.out.2.2
  refine wp_region_held_drew (S := fun W => EB W w3.heap.size false false false false false false false 0) (by kernel_rfl) HSS (fun _ => ?_)
  refine wpAnyH_take (i := 0) (v := .agg #[.bool false, .bool false, .bool false, .bool false, .bool false, .bool false, .bool false, .int .i64 0]) rfl (by kernel_rfl) (by kernel_rfl) (by kernel_rfl) (fun _ _ _ h => h) (yieldsIf_load_mid (by rfl) 93 _ rfl w3.heap.size 0 rfl [.bool false, .bool false, .bool false, .bool false, .bool false, .bool false, .bool false, .int .i64 0] _ (fun w h => rg w h) hu78 rfl hi78) HSS ?_
  try simp only [Act.put, List.getElem_toArray, List.getElem_cons_zero, List.setIfInBounds_toArray, List.set_cons_zero, List.set_cons_succ]
  refine wpAnyH_take (i := 1) (v := .agg #[.bool false, .bool false, .bool false, .bool false, .bool false, .bool false, .bool false, .int .i64 0]) rfl (by kernel_rfl) (by kernel_rfl) (by kernel_rfl) (fun _ _ _ h => h) (yieldsIf_load_mid (by rfl) 93 _ rfl w3.heap.size 0 rfl [.bool false, .bool false, .bool false, .bool false, .bool false, .bool false, .bool false, .int .i64 0] _ (fun w h => rg w h) hu78 rfl hi78) HSS ?_
  try simp only [Act.put, List.getElem_toArray, List.getElem_cons_succ, List.getElem_cons_zero, List.setIfInBounds_toArray, List.set_cons_zero, List.set_cons_succ]
  refine wpAnyH_take (i := 2) (v := .pointer (some ⟨w3.heap.size, 7, none⟩)) rfl (by kernel_rfl) (by kernel_rfl) (by kernel_rfl) (fun _ _ _ h => h) (Or.inl ⟨by rfl, ?_⟩) HSS ?_
  · intro w hw; go_simp
  try simp only [Act.put, List.getElem_toArray, List.getElem_cons_succ, List.getElem_cons_zero, List.setIfInBounds_toArray, List.set_cons_zero, List.set_cons_succ]
  refine wpAnyH_take (i := 3) (v := .int .i64 0) rfl (by kernel_rfl) (by kernel_rfl) (by kernel_rfl) (fun _ _ _ h => h) (Or.inl ⟨by rfl, ?_⟩) HSS ?_
  · intro w hw
    have hw7 := (EB.cs hw).2.2.2.2.2.2.2
    go_simp
  try simp only [Act.put, List.getElem_toArray, List.getElem_cons_succ, List.getElem_cons_zero, List.setIfInBounds_toArray, List.set_cons_zero, List.set_cons_succ]
  refine wpAnyH_take (i := 4) (v := .agg #[.bool false, .bool false, .bool false, .bool false, .bool false, .bool false, .bool false, .int .i64 0]) rfl (by kernel_rfl) (by kernel_rfl) (by kernel_rfl) (fun _ _ _ h => h) (yieldsIf_load_mid (by rfl) 93 _ rfl w3.heap.size 0 rfl [.bool false, .bool false, .bool false, .bool false, .bool false, .bool false, .bool false, .int .i64 0] _ (fun w h => rg w h) hu78 rfl hi78) HSS ?_
  try simp only [Act.put, List.getElem_toArray, List.getElem_cons_succ, List.getElem_cons_zero, List.setIfInBounds_toArray, List.set_cons_zero, List.set_cons_succ]
  refine wpAnyH_ready (rs := [5]) (by kernel_rfl) (by simp) ?_
  refine AllReadyH.cons rfl (fun K hK => ?_) AllReadyH.nil
  go_simp
  go_wp2_with (go_at_call 37; refine (R0 _).mono ?_; rintro q y1 ⟨rfl, hY1⟩)
  have H5 : Hid (Below w.heap.size w y1 ∧ EB y1 w.heap.size false false false false false false false 0 ∧ EB y1 w3.heap.size false false false false false false false 0) := ⟨H4.out.1.trans (hY1.mono (by have := H4.out.1.size; omega)), (hY1.block _ (lt_of_heap H4.out.2.1)).trans H4.out.2.1, (hY1.block _ (lt_of_heap H4.out.2.2)).trans H4.out.2.2⟩
  refine hK.out _ _ H5.out.2.2 (fun hS1 => ?_)
  clear hK K HSS
  try simp only [Act.put, List.getElem_toArray, List.getElem_cons_succ, List.getElem_cons_zero, List.setIfInBounds_toArray, List.set_cons_zero, List.set_cons_succ]
  refine wpAnyH_ready (rs := [6]) (by kernel_rfl) (by simp) ?_
  refine AllReadyH.cons rfl (fun K hK => ?_) AllReadyH.nil
  go_simp
  go_wp2_with (go_at_call 58; refine (P0 _).mono ?_; rintro q y2 ⟨rfl, hY2⟩)
  have H6 : Hid (Below w.heap.size w y2 ∧ EB y2 w.heap.size false false false false false false false 0 ∧ EB y2 w3.heap.size false false false false false false false 0) := ⟨H5.out.1.trans (hY2.mono (by have := H5.out.1.size; omega)), (hY2.block _ (lt_of_heap H5.out.2.1)).trans H5.out.2.1, (hY2.block _ (lt_of_heap H5.out.2.2)).trans H5.out.2.2⟩
  refine hK.out _ _ H6.out.2.2 (fun hS2 => ?_)
  clear hK K H5 hY1 hY2 hS1
  try simp only [Act.put, List.getElem_toArray, List.getElem_cons_succ, List.getElem_cons_zero, List.setIfInBounds_toArray, List.set_cons_zero, List.set_cons_succ]
  refine wpAnyH_take (i := 7) (v := .bool false) rfl (by kernel_rfl) (by kernel_rfl) (by kernel_rfl) (fun _ _ _ h => h) (Or.inl ⟨by rfl, ?_⟩) hS2 ?_
  · intro w hw; go_simp
  try simp only [Act.put, List.getElem_toArray, List.getElem_cons_succ, List.getElem_cons_zero, List.setIfInBounds_toArray, List.set_cons_zero, List.set_cons_succ]
  refine wpAnyH_ready (rs := [8]) (by kernel_rfl) (by simp) ?_
  refine AllReadyH.cons rfl (fun K hK => ?_) AllReadyH.nil
  rw [if_pos (by rfl)]
  refine wp_store_row 93 _ _ rfl w.heap.size #[.bool false, .bool false, .bool false, .bool false, .bool false, .bool false, .bool false, .int .i64 0] rfl rfl 93 _ H6.out.2.1 hi78 rfl (by simp [Value.oneCell']) ?_
  have H7 : Hid (Below w.heap.size w (y2.setRow w.heap.size #[.bool false, .bool false, .bool false, .bool false, .bool false, .bool false, .bool false, .int .i64 0]) ∧ EB (y2.setRow w.heap.size #[.bool false, .bool false, .bool false, .bool false, .bool false, .bool false, .bool false, .int .i64 0]) w.heap.size false false false false false false false 0 ∧ EB (y2.setRow w.heap.size #[.bool false, .bool false, .bool false, .bool false, .bool false, .bool false, .bool false, .int .i64 0]) w3.heap.size false false false false false false false 0) :=
    ⟨H6.out.1.trans ⟨rfl, rfl, rfl, by simp [World.setRow], fun k hk => setRow_other y2 w.heap.size k _ (by omega)⟩, setRow_heap y2 _ _ _ 93 _ H6.out.2.1, (setRow_other y2 w.heap.size w3.heap.size _ hQ2).trans H6.out.2.2⟩
  refine hK.out _ _ H7.out.2.2 (fun hS3 => ?_)
  clear hK K
  obtain ⟨y3, hy3⟩ : ∃ y3, y2.setRow w.heap.size #[.bool false, .bool false, .bool false, .bool false, .bool false, .bool false, .bool false, .int .i64 0] = y3 := ⟨_, rfl⟩
  rw [hy3] at H7 hS3 ⊢
  clear hy3 H6 hS2
  try simp only [Act.put, List.getElem_toArray, List.getElem_cons_succ, List.getElem_cons_zero]
  refine wpAnyH_take (i := 9) (v := .bool false) rfl (by kernel_rfl) (by kernel_rfl) (by kernel_rfl) (fun _ _ _ h => h) (Or.inl ⟨by rfl, ?_⟩) hS3 ?_
  · intro w hw; go_simp
  try simp only [Act.put, List.getElem_toArray, List.getElem_cons_succ, List.getElem_cons_zero, List.setIfInBounds_toArray, List.set_cons_zero, List.set_cons_succ]
  refine wpAnyH_done (by kernel_rfl) ?_ _
  have q1 := H7.out.2.1.cs
  have q2 := lt_of_heap H7.out.2.1
  go_wp2_with fail
  refine bodyPost_ret (v := .tuple #[.agg #[.bool false, .bool false, .bool false, .bool false, .bool false, .bool false, .bool false, .int .i64 0], .bool false]) ?h1 rfl ⟨rfl, H7.out.1⟩
  case h1 => simp [results, Tryz.results53, go_sem, q1]
theorem find_none (h : SX B w b g D T L gu z) {p : Nat} (hp : p < 1024) (hl : z.x.lo (p / 32) < 0) : Calls Tryz.prog 53 #[.pointer (some ⟨T, 0, none⟩), .int .i64 p] w fun e w1 => e = .returned (.tuple #[.agg #[.bool false, .bool false, .bool false, .bool false, .bool false, .bool false, .bool false, .int .i64 0], .bool false]) ∧ Below w.heap.size w w1 := by
  have hp1 : (p : Int) < 1024 := by omega
  have hw := quo_w p hp
  have lk : (Instr.lookup 108 (.map (some L)) (.int .i64 ((p : Int) / 32)) true).run Tryz.prog (w.alloc (.cells #[.bool false, .bool false, .bool false, .bool false, .bool false, .bool false, .bool false, .int .i64 0] 93)) = .ok (.tuple #[.int .i64 0, .bool false]) (w.alloc (.cells #[.bool false, .bool false, .bool false, .bool false, .bool false, .bool false, .bool false, .int .i64 0] 93)) := by
    have lr := look_ok (h.below ((Below.refl _ _).alloc (Nat.le_refl _) (.cells #[.bool false, .bool false, .bool false, .bool false, .bool false, .bool false, .bool false, .int .i64 0] 93))).mp (p / 32) (by omega)
    rw [loM_none hl] at lr
    rw [show (p : Int) / 32 = ((p / 32 : Nat) : Int) by omega]
    exact lr
  have c4 := (h.below ((Below.refl _ _).alloc (Nat.le_refl _) (.cells #[.bool false, .bool false, .bool false, .bool false, .bool false, .bool false, .bool false, .int .i64 0] 93))).tb.c4
  have hz := h.tb.lt
  clear h
  go_enter Tryz.func53, Tryz.ntmps53
  go_wp2_with fail
  refine bodyPost_ret (v := .tuple #[.agg #[.bool false, .bool false, .bool false, .bool false, .bool false, .bool false, .bool false, .int .i64 0], .bool false]) ?h1 rfl ⟨rfl, (Below.refl _ _).alloc (Nat.le_refl _) _⟩
  case h1 => simp [results, Tryz.results53, go_sem]
/-- what find tells -/
def fnV : Option Pg → Value
  | none => .tuple #[.agg #[.bool false, .bool false, .bool false, .bool false, .bool false, .bool false, .bool false, .int .i64 0], .bool false]
  | some a => .tuple #[.agg #[.bool true, .bool a.r, .bool a.w, .bool a.x, .bool true, .bool false, .bool false, .int .i64 a.f], .bool true]
theorem find_sx {n : Nat} {O : Nat → Prop} (h : SX B w b g D T L gu z) (hi : Iv n O z) {p : Nat} (hp : p < 1024) : Calls Tryz.prog 53 #[.pointer (some ⟨T, 0, none⟩), .int .i64 p] w fun e w1 => e = .returned (fnV (z.x.pg p)) ∧ Below w.heap.size w w1 := by
  by_cases hl : z.x.lo (p / 32) < 0
  · rw [hi.pn p hp hl]
    exact find_none h hp hl
  · obtain ⟨F, hF⟩ := Int.eq_ofNat_of_zero_le (show 0 ≤ z.x.lo (p / 32) by omega)
    have hk : p / 32 < 32 := by omega
    have l2 := (hi.lo _ hk).2
    have hlen := hi.len
    have pe := hi.pe (p / 32) (p % 32) hk (by omega) (by omega)
    rw [hF, Int.toNat_natCast, show 32 * (p / 32) + p % 32 = p by omega] at pe
    cases hx : z.x.pg p with
    | none =>
      rw [hx] at pe
      exact find_zero h hp hF (by omega) 0 pe (by omega) (by omega) E.en_none.1
    | some a =>
      obtain ⟨a1, a2⟩ := hi.pf p a hp hx
      rw [hx] at pe
      have n2 := hi.n2
      obtain ⟨v0, v1⟩ := pgN_fits (some a) (fun x e => by cases e; omega)
      exact find_page h hp hF (by omega) a.r a.w a.x a.f a.num pe v0 v1 (en_page a (by omega) a2).1
end
end Go.Proofs.YteghkhdpdeiocaaGreatDoor
