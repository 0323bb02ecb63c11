/-
  does: a frame for a guest, the program's and the document's; a call of no kind.
-/
import Derived.Test.YteghkhdpdeiocaaGreatDoorDb
namespace Go.Proofs.YteghkhdpdeiocaaGreatDoor
open Go.RowKit Go.Maps
set_option linter.unusedVariables false
set_option maxRecDepth 100000
theorem lt_cell' {W : World} {b o : Nat} {v : Value} (h : W.cell? ⟨b, o, none⟩ = some v) : b < W.heap.size := World.block_lt_of_cell? W ⟨b, o, none⟩ h
section
variable {w0 w w' : World} {N1 n i : Nat} {B : Nat → Prop} {Q b g D T L gu T' L' gu' c h R r U U' A : Nat} {q k : Array Value} {m m' m2 m2' : List Int} {S S' S2 S2' : Fs} {x x' y x2 x2' y2 : Tp} {a : Ac}
set_option maxHeartbeats 6400000 in
theorem does_k3 (p : PF w0 w N1 B Q b g D T L gu T' L' gu' c h R r U U' q m S x y m S x y) (iv : Iv n (TF y) ⟨m, S, x⟩) (hg : 1 ≤ gu ∧ gu ≤ 16) (hq : QB q i D T R U) (hi : i < 2) (hgu : (1 : Int) + i = gu) (a : Ac) (hw : bits .and .i64 a.wh 1 = (i : Int)) (hk : a.kd = 3) : Calls Tryz.prog 7 #[.pointer (some ⟨Q, 0, none⟩), .agg (acA a)] w fun e w' => e = .returned (.bool true) ∧ PF w0 w' N1 B Q b g D T L gu T' L' gu' c h R r U U' q ((⟨m, alS S gu, x⟩ : Zs)).m ((⟨m, alS S gu, x⟩ : Zs)).S ((⟨m, alS S gu, x⟩ : Zs)).x y ((⟨m, alS S gu, x⟩ : Zs)).m ((⟨m, alS S gu, x⟩ : Zs)).S ((⟨m, alS S gu, x⟩ : Zs)).x y := by
  have hi2 : (i : Int) < 2 := by omega
  have HL : Hid (∃ y1 A, w.alloc (.cells (acA a) 31) = y1 ∧ w.heap.size = A ∧ PB w0 y1 N1 B Q b g D T L gu T' L' gu' c h R r U U' A q (acA a) m S x y m S x y) := ⟨_, _, rfl, rfl, p.box (acA a)⟩
  have HIV : Hid (_) := iv
  have HQ : Hid (_) := hq
  have HG : Hid (_) := hg
  clear p iv hq hg
  go_enter Tryz.func7, Tryz.ntmps7
  go_upto_region 1 with fail
  obtain ⟨y1, A, hy, hA, P1⟩ := HL.out
  rw [hy, hA]
  have H1 : Hid (_) := P1
  obtain ⟨a0, a1, a2, a3, a4, a5, a6, lA⟩ := P1.acs
  obtain ⟨q0, q1, q2, q3, lQ⟩ := P1.qs HQ.out
  clear HL hy hA P1
  rw [hk] at a0
  obtain ⟨wh, hwh⟩ : ∃ wh, a.wh = wh := ⟨_, rfl⟩
  rw [hwh] at a1 hw
  go_quiet (fail)
  have H2 : Hid (PB w0 (y1.drewN nq) N1 B Q b g D T L gu T' L' gu' c h R r U U' A q (acA a) m S x y m S x y) := H1.out.below (below_drewN' (Below.refl _ _) nq)
  clear H1 a1 a2 a3 a4 a5 a6 lA q0 q1 q2 q3 lQ
  have a0 : (y1.drewN nq).cell? ⟨A, 0, none⟩ = _ := a0
  generalize y1.drewN nq = y2 at *
  have lA := H2.out.acs.2.2.2.2.2.2.2
  go_upto_region 12 with fail
  have C0 := alloc_fx H2.out.drew.pf.s.fx H2.out.drew.pf.s.hB gu
  obtain ⟨re, hre⟩ : ∃ re, alR S gu = re := ⟨_, rfl⟩
  obtain ⟨qe, hqe⟩ : ∃ qe, alE S gu = qe := ⟨_, rfl⟩
  rw [hre, hqe] at C0
  have C1 : Calls Tryz.prog 26 #[.pointer (some ⟨D, 0, none⟩), .int .i64 (1 + (i : Int))] y2.drew fun e w' => e = .returned (.tuple #[.int .i64 re, .int .i64 qe]) ∧ FX B w' D (alS S gu) ∧ Tu Of B y2.drew w' := by rw [hgu]; exact C0
  have HGU : Hid ((1 : Int) + i = gu) := hgu
  have HR : Hid (alR S gu = re ∧ alE S gu = qe) := ⟨hre, hqe⟩
  have hwb := hw
  have hwr : IntKind.i64.wrap (1 + (i : Int)) = 1 + i := by rw [IntKind.wrap_i64]; omega
  clear C0 hgu hre hqe hw
  have hS0 : (fun W : World => W.cell? ⟨A, 1, none⟩ = some (.int .i64 wh) ∧ W.cell? ⟨Q, 1, none⟩ = some (.pointer (some ⟨D, 0, none⟩))) y2.drew := ⟨H2.out.drew.acs.2.1.trans (by rw [hwh]), (H2.out.drew.qs HQ.out).2.2.1⟩
  refine wp_region_held_drew (S := fun W : World => W.cell? ⟨A, 1, none⟩ = some (.int .i64 wh) ∧ W.cell? ⟨Q, 1, none⟩ = some (.pointer (some ⟨D, 0, none⟩))) (by kernel_rfl) hS0 (fun _ => ?_)
  refine wpAnyH_take (i := 0) (v := .pointer (some ⟨Q, 0, none⟩)) rfl (by kernel_rfl) (by kernel_rfl) (by kernel_rfl) (fun _ _ _ h => h) (Or.inl ⟨by rfl, ?_⟩) hS0 ?_
  · intro wq hw
    go_simp
  try simp only [Act.put, List.getElem_toArray, List.getElem_cons_zero, List.setIfInBounds_toArray, List.set_cons_zero, List.set_cons_succ]
  refine wpAnyH_take (i := 1) (v := .pointer (some ⟨Q, 0, none⟩)) rfl (by kernel_rfl) (by kernel_rfl) (by kernel_rfl) (fun _ _ _ h => h) (Or.inl ⟨by rfl, ?_⟩) hS0 ?_
  · intro wq hw
    go_simp
  try simp only [Act.put, List.getElem_toArray, List.getElem_cons_succ, List.getElem_cons_zero, List.setIfInBounds_toArray, List.set_cons_zero, List.set_cons_succ]
  refine wpAnyH_take (i := 2) (v := .pointer (some ⟨Q, 1, none⟩)) rfl (by kernel_rfl) (by kernel_rfl) (by kernel_rfl) (fun _ _ _ h => h) (Or.inl ⟨by rfl, ?_⟩) hS0 ?_
  · intro wq hw
    go_simp
  try simp only [Act.put, List.getElem_toArray, List.getElem_cons_succ, List.getElem_cons_zero, List.setIfInBounds_toArray, List.set_cons_zero, List.set_cons_succ]
  refine wpAnyH_take (i := 3) (v := .pointer (some ⟨D, 0, none⟩)) rfl (by kernel_rfl) (by kernel_rfl) (by kernel_rfl) (fun _ _ _ h => h) (Or.inl ⟨by rfl, ?_⟩) hS0 ?_
  · intro wq hw
    have hc := hw.2
    have hl := lt_cell' hc
    go_simp
  try simp only [Act.put, List.getElem_toArray, List.getElem_cons_succ, List.getElem_cons_zero, List.setIfInBounds_toArray, List.set_cons_zero, List.set_cons_succ]
  refine wpAnyH_take (i := 4) (v := .pointer (some ⟨A, 1, none⟩)) rfl (by kernel_rfl) (by kernel_rfl) (by kernel_rfl) (fun _ _ _ h => h) (Or.inl ⟨by rfl, ?_⟩) hS0 ?_
  · intro wq hw
    go_simp
  try simp only [Act.put, List.getElem_toArray, List.getElem_cons_succ, List.getElem_cons_zero, List.setIfInBounds_toArray, List.set_cons_zero, List.set_cons_succ]
  refine wpAnyH_take (i := 5) (v := .int .i64 wh) rfl (by kernel_rfl) (by kernel_rfl) (by kernel_rfl) (fun _ _ _ h => h) (Or.inl ⟨by rfl, ?_⟩) hS0 ?_
  · intro wq hw
    have hc := hw.1
    have hl := lt_cell' hc
    go_simp
  try simp only [Act.put, List.getElem_toArray, List.getElem_cons_succ, List.getElem_cons_zero, List.setIfInBounds_toArray, List.set_cons_zero, List.set_cons_succ]
  refine wpAnyH_take (i := 6) (v := .int .i64 i) rfl (by kernel_rfl) (by kernel_rfl) (by kernel_rfl) (fun _ _ _ h => h) (Or.inl ⟨by rfl, ?_⟩) hS0 ?_
  · intro wq hw
    go_simp
  try simp only [Act.put, List.getElem_toArray, List.getElem_cons_succ, List.getElem_cons_zero, List.setIfInBounds_toArray, List.set_cons_zero, List.set_cons_succ]
  refine wpAnyH_take (i := 7) (v := .int .i64 (1 + (i : Int))) rfl (by kernel_rfl) (by kernel_rfl) (by kernel_rfl) (fun _ _ _ h => h) (Or.inl ⟨by rfl, ?_⟩) hS0 ?_
  · intro wq hw
    go_simp
  try simp only [Act.put, List.getElem_toArray, List.getElem_cons_succ, List.getElem_cons_zero, List.setIfInBounds_toArray, List.set_cons_zero, List.set_cons_succ]
  refine wpAnyH_ready (rs := [8]) (by kernel_rfl) (by simp) ?_
  refine AllReadyH.cons rfl (fun K hK => ?_) AllReadyH.nil
  go_simp
  go_wp2_with (go_at_call 26; refine C1.mono ?_; rintro e y3 ⟨rfl, hf3, ht3⟩)
  have H3 : Hid (PB w0 y3 N1 B Q b g D T L gu T' L' gu' c h R r U U' A q (acA a) m (alS S gu) x y m S x y) := H2.out.drew.prog (H2.out.drew.pf.s.frames hf3 ht3) (Tn.of_tu ht3)
  have hS1 : (fun W : World => W.cell? ⟨A, 1, none⟩ = some (.int .i64 wh) ∧ W.cell? ⟨Q, 1, none⟩ = some (.pointer (some ⟨D, 0, none⟩))) y3 := ⟨H3.out.acs.2.1.trans (by rw [hwh]), (H3.out.qs HQ.out).2.2.1⟩
  refine hK.out _ _ hS1 (fun hS2 => ?_)
  clear hK K C1 hf3 ht3
  try simp only [Act.put, List.getElem_toArray, List.getElem_cons_succ, List.getElem_cons_zero, List.setIfInBounds_toArray, List.set_cons_zero, List.set_cons_succ]
  refine wpAnyH_take (i := 9) (v := .tuple #[.int .i64 re, .int .i64 qe]) rfl (by kernel_rfl) (by kernel_rfl) (by kernel_rfl) (fun _ _ _ h => h) (Or.inl ⟨by rfl, ?_⟩) hS1 ?_
  · intro wq hw
    go_simp
  try simp only [Act.put, List.getElem_toArray, List.getElem_cons_succ, List.getElem_cons_zero, List.setIfInBounds_toArray, List.set_cons_zero, List.set_cons_succ]
  refine wpAnyH_take (i := 10) (v := .int .i64 re) rfl (by kernel_rfl) (by kernel_rfl) (by kernel_rfl) (fun _ _ _ h => h) (Or.inl ⟨by rfl, ?_⟩) hS1 ?_
  · intro wq hw
    go_simp
  try simp only [Act.put, List.getElem_toArray, List.getElem_cons_succ, List.getElem_cons_zero, List.setIfInBounds_toArray, List.set_cons_zero, List.set_cons_succ]
  refine wpAnyH_take (i := 11) (v := .int .i64 qe) rfl (by kernel_rfl) (by kernel_rfl) (by kernel_rfl) (fun _ _ _ h => h) (Or.inl ⟨by rfl, ?_⟩) hS1 ?_
  · intro wq hw
    go_simp
  try simp only [Act.put, List.getElem_toArray, List.getElem_cons_succ, List.getElem_cons_zero, List.setIfInBounds_toArray, List.set_cons_zero, List.set_cons_succ]
  refine wpAnyH_take (i := 12) (v := .int .i64 re) rfl (by kernel_rfl) (by kernel_rfl) (by kernel_rfl) (fun _ _ _ h => h) (Or.inl ⟨by rfl, ?_⟩) hS1 ?_
  · intro wq hw
    go_simp
  try simp only [Act.put, List.getElem_toArray, List.getElem_cons_succ, List.getElem_cons_zero, List.setIfInBounds_toArray, List.set_cons_zero, List.set_cons_succ]
  refine wpAnyH_take (i := 13) (v := .int .i64 qe) rfl (by kernel_rfl) (by kernel_rfl) (by kernel_rfl) (fun _ _ _ h => h) (Or.inl ⟨by rfl, ?_⟩) hS1 ?_
  · intro wq hw
    go_simp
  try simp only [Act.put, List.getElem_toArray, List.getElem_cons_succ, List.getElem_cons_zero, List.setIfInBounds_toArray, List.set_cons_zero, List.set_cons_succ]
  refine wpAnyH_done (by kernel_rfl) ?_ _
  clear hS0 hS1 hS2 H2 a0 lA
  go_upto_region 13 with fail
  have C0 := ralloc H3.out.drew.pf.u.rz.rf gu
  rw [HR.out.1, HR.out.2] at C0
  have C1 : Calls Tryz.prog 27 #[.pointer (some ⟨R, 0, none⟩), .int .i64 (1 + (i : Int))] y3.drew fun e w' => e = .returned (.tuple #[.int .i64 re, .int .i64 qe]) ∧ RF (Lw N1) w' R r (alS S gu) ∧ Tu Or (Lw N1) y3.drew w' := by rw [HGU.out]; exact C0
  clear C0
  have hS0 : (fun W : World => W.cell? ⟨A, 1, none⟩ = some (.int .i64 wh) ∧ W.cell? ⟨Q, 5, none⟩ = some (.pointer (some ⟨R, 0, none⟩))) y3.drew := ⟨H3.out.drew.acs.2.1.trans (by rw [hwh]), (H3.out.drew.qs HQ.out).2.2.2.1⟩
  refine wp_region_held_drew (S := fun W : World => W.cell? ⟨A, 1, none⟩ = some (.int .i64 wh) ∧ W.cell? ⟨Q, 5, none⟩ = some (.pointer (some ⟨R, 0, none⟩))) (by kernel_rfl) hS0 (fun _ => ?_)
  refine wpAnyH_take (i := 0) (v := .pointer (some ⟨Q, 0, none⟩)) rfl (by kernel_rfl) (by kernel_rfl) (by kernel_rfl) (fun _ _ _ h => h) (Or.inl ⟨by rfl, ?_⟩) hS0 ?_
  · intro wq hw
    go_simp
  try simp only [Act.put, List.getElem_toArray, List.getElem_cons_zero, List.setIfInBounds_toArray, List.set_cons_zero, List.set_cons_succ]
  refine wpAnyH_take (i := 1) (v := .pointer (some ⟨Q, 0, none⟩)) rfl (by kernel_rfl) (by kernel_rfl) (by kernel_rfl) (fun _ _ _ h => h) (Or.inl ⟨by rfl, ?_⟩) hS0 ?_
  · intro wq hw
    go_simp
  try simp only [Act.put, List.getElem_toArray, List.getElem_cons_succ, List.getElem_cons_zero, List.setIfInBounds_toArray, List.set_cons_zero, List.set_cons_succ]
  refine wpAnyH_take (i := 2) (v := .pointer (some ⟨Q, 5, none⟩)) rfl (by kernel_rfl) (by kernel_rfl) (by kernel_rfl) (fun _ _ _ h => h) (Or.inl ⟨by rfl, ?_⟩) hS0 ?_
  · intro wq hw
    go_simp
  try simp only [Act.put, List.getElem_toArray, List.getElem_cons_succ, List.getElem_cons_zero, List.setIfInBounds_toArray, List.set_cons_zero, List.set_cons_succ]
  refine wpAnyH_take (i := 3) (v := .pointer (some ⟨R, 0, none⟩)) rfl (by kernel_rfl) (by kernel_rfl) (by kernel_rfl) (fun _ _ _ h => h) (Or.inl ⟨by rfl, ?_⟩) hS0 ?_
  · intro wq hw
    have hc := hw.2
    have hl := lt_cell' hc
    go_simp
  try simp only [Act.put, List.getElem_toArray, List.getElem_cons_succ, List.getElem_cons_zero, List.setIfInBounds_toArray, List.set_cons_zero, List.set_cons_succ]
  refine wpAnyH_take (i := 4) (v := .pointer (some ⟨A, 1, none⟩)) rfl (by kernel_rfl) (by kernel_rfl) (by kernel_rfl) (fun _ _ _ h => h) (Or.inl ⟨by rfl, ?_⟩) hS0 ?_
  · intro wq hw
    go_simp
  try simp only [Act.put, List.getElem_toArray, List.getElem_cons_succ, List.getElem_cons_zero, List.setIfInBounds_toArray, List.set_cons_zero, List.set_cons_succ]
  refine wpAnyH_take (i := 5) (v := .int .i64 wh) rfl (by kernel_rfl) (by kernel_rfl) (by kernel_rfl) (fun _ _ _ h => h) (Or.inl ⟨by rfl, ?_⟩) hS0 ?_
  · intro wq hw
    have hc := hw.1
    have hl := lt_cell' hc
    go_simp
  try simp only [Act.put, List.getElem_toArray, List.getElem_cons_succ, List.getElem_cons_zero, List.setIfInBounds_toArray, List.set_cons_zero, List.set_cons_succ]
  refine wpAnyH_take (i := 6) (v := .int .i64 i) rfl (by kernel_rfl) (by kernel_rfl) (by kernel_rfl) (fun _ _ _ h => h) (Or.inl ⟨by rfl, ?_⟩) hS0 ?_
  · intro wq hw
    go_simp
  try simp only [Act.put, List.getElem_toArray, List.getElem_cons_succ, List.getElem_cons_zero, List.setIfInBounds_toArray, List.set_cons_zero, List.set_cons_succ]
  refine wpAnyH_take (i := 7) (v := .int .i64 (1 + (i : Int))) rfl (by kernel_rfl) (by kernel_rfl) (by kernel_rfl) (fun _ _ _ h => h) (Or.inl ⟨by rfl, ?_⟩) hS0 ?_
  · intro wq hw
    go_simp
  try simp only [Act.put, List.getElem_toArray, List.getElem_cons_succ, List.getElem_cons_zero, List.setIfInBounds_toArray, List.set_cons_zero, List.set_cons_succ]
  refine wpAnyH_ready (rs := [8]) (by kernel_rfl) (by simp) ?_
  refine AllReadyH.cons rfl (fun K hK => ?_) AllReadyH.nil
  go_simp
  go_wp2_with (go_at_call 27; refine C1.mono ?_; rintro e y4 ⟨rfl, hf3, ht3⟩)
  have H4 : Hid (PB w0 y4 N1 B Q b g D T L gu T' L' gu' c h R r U U' A q (acA a) m (alS S gu) x y m (alS S gu) x y) := H3.out.drew.doc (H3.out.drew.pf.u.frames hf3 ht3) (Tq.of_tu ht3)
  have hS1 : (fun W : World => W.cell? ⟨A, 1, none⟩ = some (.int .i64 wh) ∧ W.cell? ⟨Q, 5, none⟩ = some (.pointer (some ⟨R, 0, none⟩))) y4 := ⟨H4.out.acs.2.1.trans (by rw [hwh]), (H4.out.qs HQ.out).2.2.2.1⟩
  refine hK.out _ _ hS1 (fun hS2 => ?_)
  clear hK K C1 hf3 ht3
  try simp only [Act.put, List.getElem_toArray, List.getElem_cons_succ, List.getElem_cons_zero, List.setIfInBounds_toArray, List.set_cons_zero, List.set_cons_succ]
  refine wpAnyH_take (i := 9) (v := .tuple #[.int .i64 re, .int .i64 qe]) rfl (by kernel_rfl) (by kernel_rfl) (by kernel_rfl) (fun _ _ _ h => h) (Or.inl ⟨by rfl, ?_⟩) hS1 ?_
  · intro wq hw
    go_simp
  try simp only [Act.put, List.getElem_toArray, List.getElem_cons_succ, List.getElem_cons_zero, List.setIfInBounds_toArray, List.set_cons_zero, List.set_cons_succ]
  refine wpAnyH_take (i := 10) (v := .int .i64 re) rfl (by kernel_rfl) (by kernel_rfl) (by kernel_rfl) (fun _ _ _ h => h) (Or.inl ⟨by rfl, ?_⟩) hS1 ?_
  · intro wq hw
    go_simp
  try simp only [Act.put, List.getElem_toArray, List.getElem_cons_succ, List.getElem_cons_zero, List.setIfInBounds_toArray, List.set_cons_zero, List.set_cons_succ]
  refine wpAnyH_take (i := 11) (v := .int .i64 qe) rfl (by kernel_rfl) (by kernel_rfl) (by kernel_rfl) (fun _ _ _ h => h) (Or.inl ⟨by rfl, ?_⟩) hS1 ?_
  · intro wq hw
    go_simp
  try simp only [Act.put, List.getElem_toArray, List.getElem_cons_succ, List.getElem_cons_zero, List.setIfInBounds_toArray, List.set_cons_zero, List.set_cons_succ]
  refine wpAnyH_take (i := 12) (v := .int .i64 re) rfl (by kernel_rfl) (by kernel_rfl) (by kernel_rfl) (fun _ _ _ h => h) (Or.inl ⟨by rfl, ?_⟩) hS1 ?_
  · intro wq hw
    go_simp
  try simp only [Act.put, List.getElem_toArray, List.getElem_cons_succ, List.getElem_cons_zero, List.setIfInBounds_toArray, List.set_cons_zero, List.set_cons_succ]
  refine wpAnyH_take (i := 13) (v := .int .i64 qe) rfl (by kernel_rfl) (by kernel_rfl) (by kernel_rfl) (fun _ _ _ h => h) (Or.inl ⟨by rfl, ?_⟩) hS1 ?_
  · intro wq hw
    go_simp
  try simp only [Act.put, List.getElem_toArray, List.getElem_cons_succ, List.getElem_cons_zero, List.setIfInBounds_toArray, List.set_cons_zero, List.set_cons_succ]
  refine wpAnyH_done (by kernel_rfl) ?_ _
  clear hS0 hS1 hS2 H3
  go_wp2_with fail
  go_ret
  exact ⟨rfl, H4.out.pf⟩
set_option maxHeartbeats 6400000 in
theorem does_o (p : PF w0 w N1 B Q b g D T L gu T' L' gu' c h R r U U' q m S x y m S x y) (iv : Iv n (TF y) ⟨m, S, x⟩) (hg : 1 ≤ gu ∧ gu ≤ 16) (hq : QB q i D T R U) (hi : i < 2) (hgu : (1 : Int) + i = gu) (a : Ac) (hw : bits .and .i64 a.wh 1 = (i : Int)) (hk : ∀ j : Nat, j < 5 → a.kd ≠ j) : Calls Tryz.prog 7 #[.pointer (some ⟨Q, 0, none⟩), .agg (acA a)] w fun e w' => e = .returned (.bool true) ∧ PF w0 w' N1 B Q b g D T L gu T' L' gu' c h R r U U' q ((⟨m, S, x⟩ : Zs)).m ((⟨m, S, x⟩ : Zs)).S ((⟨m, S, x⟩ : Zs)).x y ((⟨m, S, x⟩ : Zs)).m ((⟨m, S, x⟩ : Zs)).S ((⟨m, S, x⟩ : Zs)).x y := by
  have hi2 : (i : Int) < 2 := by omega
  have HL : Hid (∃ y1 A, w.alloc (.cells (acA a) 31) = y1 ∧ w.heap.size = A ∧ PB w0 y1 N1 B Q b g D T L gu T' L' gu' c h R r U U' A q (acA a) m S x y m S x y) := ⟨_, _, rfl, rfl, p.box (acA a)⟩
  have HIV : Hid (_) := iv
  have HQ : Hid (_) := hq
  have HG : Hid (_) := hg
  clear p iv hq hg
  go_enter Tryz.func7, Tryz.ntmps7
  go_upto_region 1 with fail
  obtain ⟨y1, A, hy, hA, P1⟩ := HL.out
  rw [hy, hA]
  have H1 : Hid (_) := P1
  obtain ⟨a0, a1, a2, a3, a4, a5, a6, lA⟩ := P1.acs
  obtain ⟨q0, q1, q2, q3, lQ⟩ := P1.qs HQ.out
  clear HL hy hA P1
  obtain ⟨kd, hkd⟩ : ∃ kd, a.kd = kd := ⟨_, rfl⟩
  rw [hkd] at a0 hk
  obtain ⟨wh, hwh⟩ : ∃ wh, a.wh = wh := ⟨_, rfl⟩
  rw [hwh] at a1 hw
  go_quiet (fail)
  have H2 : Hid (PB w0 (y1.drewN nq) N1 B Q b g D T L gu T' L' gu' c h R r U U' A q (acA a) m S x y m S x y) := H1.out.below (below_drewN' (Below.refl _ _) nq)
  clear H1 a1 a2 a3 a4 a5 a6 lA q0 q1 q2 q3 lQ
  have a0 : (y1.drewN nq).cell? ⟨A, 0, none⟩ = _ := a0
  generalize y1.drewN nq = y2 at *
  have lA := H2.out.acs.2.2.2.2.2.2.2
  have n0 : (kd == 0) = false := by simpa using hk 0 (by decide)
  have n1 : (kd == 1) = false := by simpa using hk 1 (by decide)
  have n2 : (kd == 2) = false := by simpa using hk 2 (by decide)
  have n3 : (kd == 3) = false := by simpa using hk 3 (by decide)
  have n4 : (kd == 4) = false := by simpa using hk 4 (by decide)
  have m0 : ¬ kd = 0 := hk 0 (by decide)
  have m1 : ¬ kd = 1 := hk 1 (by decide)
  have m2 : ¬ kd = 2 := hk 2 (by decide)
  have m3 : ¬ kd = 3 := hk 3 (by decide)
  have m4 : ¬ kd = 4 := hk 4 (by decide)
  clear hk
  go_wp2_with fail
  go_ret
  exact ⟨rfl, H2.out.pf⟩
end
end Go.Proofs.YteghkhdpdeiocaaGreatDoor
