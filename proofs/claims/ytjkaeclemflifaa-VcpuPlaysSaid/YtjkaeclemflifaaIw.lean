/-
  The walk of VcpuImages.
-/
import Derived.Test.YtjkaeclemflifaaSw
import Derived.Test.YtjkaeclemflifaaFw
namespace Go.Proofs.Ytjkaeclemflifaa
open Go.RowKit
set_option linter.unusedVariables false
set_option maxRecDepth 100000
theorem yieldsIf_neq {P : Program} {ops : Array Oper} {S : World → Prop} {op : Oper} {a : Act} (hw : Region.wanted op (yielded ops a.tmps) = true) (t : TypeId) (x y : Operand) (ho : op.op = .binOp .neq t x y t)
    (xs ys : Array Value) (hx : a.eval x = .agg xs) (hy : a.eval y = .agg ys) (hm : P.eqGuardType P.depth t = false) (b : Bool) (he : ∀ w, (Op.equalIn 10000 t (.agg xs) (.agg ys)).run P w = .ok b w) : YieldsIf P ops S op (.bool (!b)) a :=
  .inl ⟨hw, fun w hw' => by
    simp only [execOp, ho, hx, hy, Sem.run_bind, run_eqGuard_agg w .neq t x y xs ys hm, Result.andThen_ok, run_neq_struct, he, Sem.run_pure]⟩
theorem yieldsIf_eql {P : Program} {ops : Array Oper} {S : World → Prop} {op : Oper} {a : Act} (hw : Region.wanted op (yielded ops a.tmps) = true) (t : TypeId) (x y : Operand) (ho : op.op = .binOp .eql t x y t)
    (xs ys : Array Value) (hx : a.eval x = .agg xs) (hy : a.eval y = .agg ys) (hm : P.eqGuardType P.depth t = false) (b : Bool) (he : ∀ w, (Op.equalIn 10000 t (.agg xs) (.agg ys)).run P w = .ok b w) : YieldsIf P ops S op (.bool b) a :=
  .inl ⟨hw, fun w hw' => by
    simp only [execOp, ho, hx, hy, Sem.run_bind, run_eqGuard_agg w .eql t x y xs ys hm, Result.andThen_ok, run_eql_struct, he, Sem.run_pure]⟩
section
variable {w0 w w' : World} {M mb cr n : Nat} {o : Nat → Nat} {x : Nat → Value} {V : Nat} {g : Int} {F : Nat} {ix s c : Int} {N R : Nat → Int}
/-- it enters or leaves a core -/
theorem S1.onto (h : S1 w0 w M mb cr n o x V g F ix s c N R) (ho : ∀ k, own M mb cr n o k → w0.heap.size ≤ k) {i : Nat} (hi : i < n) {x' : Nat → Value} {s' c' : Int} {N' : Nat → Int} (hm : MS w' M mb cr n 1 o x') (hv : VS w' V g F ix s' c' N') (ht : Trn (fun k => k = V ∨ k = o i) w w') : S1 w0 w' M mb cr n o x' V g F ix s' c' N' R := by
  obtain ⟨fs, hf, _⟩ := h.f.blk
  obtain ⟨cs, hc⟩ := (h.m.co i hi).ob
  refine ⟨hm, hv, h.f.keep (ht.block _ h.f.lt ?_), h.bl.trans (ht.below h.bl.size ?_), h.wv, h.wf⟩
  · rintro (e | e)
    · exact ne_typ hf h.v (by decide) e
    · exact ne_typ hf hc (by decide) e
  · rintro k (rfl | rfl)
    · exact h.wv
    · exact ho _ (.inr (.inr (.inr ⟨i, hi, rfl⟩)))
theorem S1.keeps {A B : Nat} {ps qs : Array Value} (h : S1 w0 w M mb cr n o x V g F ix s c N R) (hp : w.heap[A]? = some (.cells ps 63 (0, 0)) ∧ w.heap[B]? = some (.cells qs 63 (0, 0))) {i : Nat} (hi : i < n) (ht : Trn (fun k => k = V ∨ k = o i) w w') : w'.heap[A]? = some (.cells ps 63 (0, 0)) ∧ w'.heap[B]? = some (.cells qs 63 (0, 0)) := by
  obtain ⟨cs, hc⟩ := (h.m.co i hi).ob
  refine ⟨(ht.block _ (lt_of_heap hp.1) ?_).trans hp.1, (ht.block _ (lt_of_heap hp.2) ?_).trans hp.2⟩
  · rintro (e | e)
    · exact ne_typ hp.1 h.v (by decide) e
    · exact ne_typ hp.1 hc (by decide) e
  · rintro (e | e)
    · exact ne_typ hp.2 h.v (by decide) e
    · exact ne_typ hp.2 hc (by decide) e
end
theorem quiet_neqv {P : Program} {C : World → Prop} {a : Act} {o : Oper} {K : Act → Prop} (t : TypeId) (x y : Operand) (ho : o.op = .binOp .neq t x y t) (u v : Value) (hx : a.eval x = u) (hy : a.eval y = v) (r : Value) (hg : ∀ w, (eqGuard .neq t x y u v).run P w = .ok () w)
    (he : ∀ w, (binOp .neq t u v).run P w = .ok r w) (hk : K (a.put o.dst r)) : o.quiet P a C K :=
  ⟨_, fun w hw => by
    unfold Oper.quietAt
    simp only [execOp, ho, hx, hy, Sem.run_bind, hg, Result.andThen_ok, he, Sem.run_pure]
    exact ⟨rfl, rfl⟩, hk⟩
theorem neq_file (F : Nat) (w : World) : (binOp .neq 54 (.pointer (some ⟨F, 0, none⟩)) (.pointer (some ⟨F, 0, none⟩))).run Try.prog w = .ok (.bool false) w := by
  have h := eq_file 9999 F w
  rw [show (9999 + 1 : Nat) = 10000 from rfl] at h
  simp only [binOp]
  simp [Op.equal, Op.maxDepth, h]
theorem want_im (N R : Nat → Int) : (((imA N R).setIfInBounds 0 (.int .u64 0)).setIfInBounds 17 (.int .u64 (bits .and .u64 (N 17) 1))).setIfInBounds 29 (.int .u64 2) = imA (al N) (ld (newP 2) R 12) := rfl
set_option maxHeartbeats 12800000 in
theorem imagesWalk (N R : Nat → Int) (hN : W18 N) (hR : ∀ k, k < 12 → U (R k)) (core : Int) (w : World) : Calls Try.prog 5 #[.agg (imA N R), .int .i64 core] w fun e w' => e = .returned (.bool true) ∧ Below w.heap.size w w' := by
  obtain ⟨i, hi, ei⟩ := and_low core 1 1 rfl (by decide)
  have hi2 : i < 2 := by omega
  have b0 := below_box w (.cells (imA N R) 63)
  have a0 := heap_alloc_at w (.cells (imA N R) 63)
  have C1 := new_m 2 1 (by decide) (by decide) (by decide) (by decide) (w.alloc (.cells (imA N R) 63))
  have HB0 : Hid (_) := And.intro a0 b0
  clear a0 b0
  go_enter Try.func5, Try.ntmps5
  go_wp2_with fail
  generalize w.alloc (.cells (imA N R) 63) = y at *
  refine C1.mono ?_
  rintro e w1 ⟨M, mb, cr, o, rfl, m1, a1, b1⟩
  have H1 : Hid (w1.heap[w.heap.size]? = some (.cells (imA N R) 63 (0, 0)) ∧ MS w1 M mb cr 2 1 o (fun _ => .pointer none) ∧ Below w.heap.size w w1) := ⟨keepB HB0.out.1 b1, m1, HB0.out.2.trans (b1.mono HB0.out.2.size)⟩
  have HO : Hid (∀ k, own M mb cr 2 o k → w.heap.size ≤ k) := fun k hk => Nat.le_trans HB0.out.2.size (a1 k hk)
  clear C1 m1 a1 b1 HB0
  have C2 := vnew_yes 3 2 0 (by decide) (by decide) (by decide) (by decide) ⟨by decide, by decide⟩ w1
  go_wp2_with fail
  refine C2.mono ?_
  rintro e w2 ⟨V, F, rfl, v2, f2, l2, k2, b2⟩
  have H2 : Hid (w2.heap[w.heap.size]? = some (.cells (imA N R) 63 (0, 0)) ∧ S1 w w2 M mb cr 2 o (fun _ => .pointer none) V 3 F 2 1 (-1) (newN 0) (newP 2)) := ⟨keepB H1.out.1 b2, H1.out.2.1.below b2, v2, f2, H1.out.2.2.trans (b2.mono H1.out.2.2.size), Nat.le_trans H1.out.2.2.size l2, Nat.le_trans H1.out.2.2.size k2⟩
  clear C2 v2 f2 l2 k2 b2 H1
  have C3 := load_yes H2.out.2.v H2.out.2.f rfl N R hR
  have HR1 : Hid (w2.rangeAt w.heap.size 0 (imA N R).toList) := range_of H2.out.1
  have yl := lt_of_heap H2.out.1
  go_wp2_with (first
    | refine wpList_load_at rfl 63 _ rfl w.heap.size 0 rfl (imA N R).toList _ HR1.out Try.underlying63 rfl inf63 ?_
    | fail)
  refine C3.mono ?_
  rintro e w3 ⟨rfl, v3, f3, t3⟩
  have H3 : Hid (w3.heap[w.heap.size]? = some (.cells (imA N R) 63 (0, 0)) ∧ S1 w w3 M mb cr 2 o (fun _ => .pointer none) V 3 F 2 1 (-1) (al N) (ld (newP 2) R 12)) := by
    obtain ⟨fs, hfs, _⟩ := H2.out.2.f.blk
    refine ⟨(t3.block _ (lt_of_heap H2.out.1) ?_).trans H2.out.1, H2.out.2.loaded v3 f3 t3⟩
    rintro (e | e)
    · exact ne_typ H2.out.1 H2.out.2.v (by decide) e
    · exact ne_typ H2.out.1 hfs (by decide) e
  clear C3 v3 f3 t3 H2 HR1 yl
  obtain ⟨a, ha⟩ : ∃ a, w3.alloc (.cells zeros30 63) = a := ⟨_, rfl⟩
  have ba : Below w3.heap.size w3 a := by rw [← ha]; exact below_box _ _
  have m0 : a.heap[w3.heap.size]? = some (.cells zeros30 63 (0, 0)) := by rw [← ha]; exact heap_alloc_at _ _
  have HM0 : Hid (_) := m0
  obtain ⟨b, hb⟩ : ∃ b, a.setRow w3.heap.size (imA N R) = b := ⟨_, rfl⟩
  have bb : Below w3.heap.size a b := by rw [← hb]; exact below_setRow' _ _ (Nat.le_refl _) _
  have m1 : b.heap[w3.heap.size]? = some (.cells (imA N R) 63 (0, 0)) := by rw [← hb]; exact setRow_heap _ _ _ _ _ _ m0
  have HL : Hid (_) := H3.out.1
  have n0 := heap_setCell m1 0 (.int .u64 0)
  have n1 := heap_setCell n0 17 (.int .u64 (bits .and .u64 (N 17) 1))
  have n2 := heap_setCell n1 29 (.int .u64 2)
  rw [want_im] at n2
  have nn : w.heap.size ≠ w3.heap.size := by have := lt_of_heap H3.out.1; omega
  have tt := ((trn_set1 m1 0 (.int .u64 0)).trans (trn_set1 n0 17 (.int .u64 (bits .and .u64 (N 17) 1)))).trans (trn_set1 n1 29 (.int .u64 2))
  have wb := ba.trans bb
  have lb := keepB H3.out.1 wb
  have bd := wb.trans (tt.below wb.size fun k e => by omega)
  have c17 : b.cell? ⟨w.heap.size, 17, none⟩ = some (.int .u64 (N 17)) := (cell_at lb 17).trans rfl
  have e0 : b.cell? ⟨w3.heap.size, 0, none⟩ = some (.int .u64 (N 0)) := (cell_at m1 0).trans rfl
  have e17 : b.cell? ⟨w3.heap.size, 17, none⟩ = some (.int .u64 (N 17)) := (cell_at m1 17).trans rfl
  have e29 : b.cell? ⟨w3.heap.size, 29, none⟩ = some (.int .u64 (R 11)) := (cell_at m1 29).trans rfl
  have g0 := fz_at m1 0
  have g17 := fz_at m1 17
  have g29 := fz_at m1 29
  have l1 := lt_of_heap lb
  have l2 := lt_of_heap m1
  have HD : Hid (((((b.setCell ⟨w3.heap.size, 0, none⟩ (.int .u64 0)).setCell ⟨w3.heap.size, 17, none⟩ (.int .u64 (bits .and .u64 (N 17) 1))).setCell ⟨w3.heap.size, 29, none⟩ (.int .u64 2)).drew.heap[w.heap.size]? = some (.cells (imA N R) 63 (0, 0)) ∧ (((b.setCell ⟨w3.heap.size, 0, none⟩ (.int .u64 0)).setCell ⟨w3.heap.size, 17, none⟩ (.int .u64 (bits .and .u64 (N 17) 1))).setCell ⟨w3.heap.size, 29, none⟩ (.int .u64 2)).drew.heap[w3.heap.size]? = some (.cells (imA (al N) (ld (newP 2) R 12)) 63 (0, 0))) ∧ S1 w (((b.setCell ⟨w3.heap.size, 0, none⟩ (.int .u64 0)).setCell ⟨w3.heap.size, 17, none⟩ (.int .u64 (bits .and .u64 (N 17) 1))).setCell ⟨w3.heap.size, 29, none⟩ (.int .u64 2)).drew M mb cr 2 o (fun _ => .pointer none) V 3 F 2 1 (-1) (al N) (ld (newP 2) R 12)) := ⟨⟨(tt.block _ (lt_of_heap lb) nn).trans lb, n2⟩, H3.out.2.below bd.drew⟩
  clear H3 ba bb m0 m1 n0 n1 n2 tt wb lb bd
  have wl3 : w.heap.size < w3.heap.size := lt_of_heap HL.out
  unfold zeros30 at ha
  go_upto_region 6 with (first
    | refine wpList_load_row rfl 63 _ rfl w.heap.size rfl 63 _ (0, 0) _ HL.out Try.underlying63 rfl inf63 ?_
    | refine wpList_store_row rfl 63 _ _ rfl w3.heap.size (imA N R) rfl rfl 63 zeros30 HM0.out inf63 rfl (imA_one _ _) ?_
    | fail)
  simp only [Act.put, hb]
  clear ha hb HM0 HL
  have hA := al_w hN
  have h16 : N 16 = al N 16 := rfl
  generalize hN2 : al N = N2 at *
  generalize ld (newP 2) R 12 = R2 at *
  generalize w3.heap.size = wB at *
  clear hN hR hN2
  go_upto_region 9 with fail
  generalize ((b.setCell _ _).setCell _ _).setCell _ _ = d at *
  clear c17 e0 e17 e29 g0 g17 g29 l1 l2
  have xi : ∀ q : Value, tx (fun _ => .pointer none) i q i = q := fun q => by simp [tx]
  have hS0 : (fun W : World => W.heap[w.heap.size]? = some (.cells (imA N R) 63 (0, 0)) ∧ W.heap[wB]? = some (.cells (imA N2 R2) 63 (0, 0))) d.drew := HD.out.1
  refine wp_region_held_drew (S := fun W : World => W.heap[w.heap.size]? = some (.cells (imA N R) 63 (0, 0)) ∧ W.heap[wB]? = some (.cells (imA N2 R2) 63 (0, 0))) (by kernel_rfl) hS0 (fun _ => ?_)
  refine wpAnyH_take (i := 0) (v := .pointer (some ⟨V, 0, none⟩)) rfl (by kernel_rfl) (by kernel_rfl) (by kernel_rfl) (fun _ _ _ h => h) (Or.inl ⟨by rfl, ?_⟩) hS0 ?_
  · intro w hw
    go_simp
  try simp only [Act.put, List.getElem_toArray, List.getElem_cons_zero, List.setIfInBounds_toArray, List.set_cons_zero, List.set_cons_succ]
  refine wpAnyH_take (i := 1) (v := .pointer (some ⟨M, 0, none⟩)) rfl (by kernel_rfl) (by kernel_rfl) (by kernel_rfl) (fun _ _ _ h => h) (Or.inl ⟨by rfl, ?_⟩) hS0 ?_
  · intro w hw
    go_simp
  try simp only [Act.put, List.getElem_toArray, List.getElem_cons_succ, List.getElem_cons_zero, List.setIfInBounds_toArray, List.set_cons_zero, List.set_cons_succ]
  refine wpAnyH_take (i := 3) (v := .agg (imA N2 R2)) rfl (by kernel_rfl) (by kernel_rfl) (by kernel_rfl) (fun _ _ _ h => h) (yieldsIf_load_mid (by rfl) 63 _ rfl wB 0 rfl (imA N2 R2).toList _ (fun w h => range_of (h.2)) Try.underlying63 rfl inf63) hS0 ?_
  try simp only [Act.put, List.getElem_toArray, List.getElem_cons_succ, List.getElem_cons_zero, List.setIfInBounds_toArray, List.set_cons_zero, List.set_cons_succ]
  refine wpAnyH_ready (rs := [2]) (by kernel_rfl) (by simp) ?_
  refine AllReadyH.cons rfl (fun K hK => ?_) AllReadyH.nil
  have CC := image_any HD.out.2.v HD.out.2.f (.pointer (some ⟨M, 0, none⟩)) N2 hA (fun y hy => regs_off (HD.out.2.v.below hy) (by decide) _)
  go_simp
  go_wp2_with (go_at_call 24; refine CC.mono ?_; rintro q y1 ⟨rfl, hY⟩)
  have H1 : Hid ((y1.heap[w.heap.size]? = some (.cells (imA N R) 63 (0, 0)) ∧ y1.heap[wB]? = some (.cells (imA N2 R2) 63 (0, 0))) ∧ S1 w y1 M mb cr 2 o (fun _ => .pointer none) V 3 F 2 1 (-1) N2 R2) := ⟨⟨keepB HD.out.1.1 hY, keepB HD.out.1.2 hY⟩, HD.out.2.below hY⟩
  refine hK.out _ _ H1.out.1 (fun hS1 => ?_)
  clear hK K CC hY HD hS0
  try simp only [Act.put, List.getElem_toArray, List.getElem_cons_succ, List.getElem_cons_zero, List.setIfInBounds_toArray, List.set_cons_zero, List.set_cons_succ]
  refine wpAnyH_take (i := 4) (v := .bool false) rfl (by kernel_rfl) (by kernel_rfl) (by kernel_rfl) (fun _ _ _ h => h) (yieldsIf_neq (by rfl) 63 _ _ rfl (imA N2 R2) (imA N2 R2) rfl rfl eqg63 true (eq_im _ (imA_words _ _))) hS1 ?_
  try simp only [Act.put, List.getElem_toArray, List.getElem_cons_succ, List.getElem_cons_zero, List.setIfInBounds_toArray, List.set_cons_zero, List.set_cons_succ]
  refine wpAnyH_take (i := 5) (v := .bool false) rfl (by kernel_rfl) (by kernel_rfl) (by kernel_rfl) (fun _ _ _ h => h) (Or.inl ⟨by rfl, ?_⟩) hS1 ?_
  · intro w hw
    go_simp
  try simp only [Act.put, List.getElem_toArray, List.getElem_cons_succ, List.getElem_cons_zero, List.setIfInBounds_toArray, List.set_cons_zero, List.set_cons_succ]
  refine wpAnyH_take (i := 6) (v := .pointer (some ⟨V, 0, none⟩)) rfl (by kernel_rfl) (by kernel_rfl) (by kernel_rfl) (fun _ _ _ h => h) (Or.inl ⟨by rfl, ?_⟩) hS1 ?_
  · intro w hw
    go_simp
  try simp only [Act.put, List.getElem_toArray, List.getElem_cons_succ, List.getElem_cons_zero, List.setIfInBounds_toArray, List.set_cons_zero, List.set_cons_succ]
  refine wpAnyH_take (i := 7) (v := .pointer (some ⟨M, 0, none⟩)) rfl (by kernel_rfl) (by kernel_rfl) (by kernel_rfl) (fun _ _ _ h => h) (Or.inl ⟨by rfl, ?_⟩) hS1 ?_
  · intro w hw
    go_simp
  try simp only [Act.put, List.getElem_toArray, List.getElem_cons_succ, List.getElem_cons_zero, List.setIfInBounds_toArray, List.set_cons_zero, List.set_cons_succ]
  refine wpAnyH_take (i := 8) (v := .int .i64 core) rfl (by kernel_rfl) (by kernel_rfl) (by kernel_rfl) (fun _ _ _ h => h) (Or.inl ⟨by rfl, ?_⟩) hS1 ?_
  · intro w hw
    go_simp
  try simp only [Act.put, List.getElem_toArray, List.getElem_cons_succ, List.getElem_cons_zero, List.setIfInBounds_toArray, List.set_cons_zero, List.set_cons_succ]
  refine wpAnyH_take (i := 9) (v := .int .i64 i) rfl (by kernel_rfl) (by kernel_rfl) (by kernel_rfl) (fun _ _ _ h => h) (Or.inl ⟨by rfl, ?_⟩) hS1 ?_
  · intro w hw
    have := ei
    go_simp
  try simp only [Act.put, List.getElem_toArray, List.getElem_cons_succ, List.getElem_cons_zero, List.setIfInBounds_toArray, List.set_cons_zero, List.set_cons_succ]
  refine wpAnyH_ready (rs := [10]) (by kernel_rfl) (by simp) ?_
  refine AllReadyH.cons rfl (fun K hK => ?_) AllReadyH.nil
  have CC := enter_yes H1.out.2.m H1.out.2.v H1.out.2.f (by decide) (by decide) (by decide) i hi2 rfl
  go_simp
  go_wp2_with (go_at_call 22; refine CC.mono ?_; rintro q y2 ⟨rfl, ⟨cb, _, c2, m2⟩, v2, t2⟩)
  have H2 : Hid ((y2.heap[w.heap.size]? = some (.cells (imA N R) 63 (0, 0)) ∧ y2.heap[wB]? = some (.cells (imA N2 R2) 63 (0, 0))) ∧ S1 w y2 M mb cr 2 o (tx (fun _ => .pointer none) i (.pointer (some ⟨cb, 0, none⟩))) V 3 F 2 2 i N2 R2) := ⟨S1.keeps H1.out.2 H1.out.1 hi2 t2, H1.out.2.onto HO.out hi2 m2 v2 t2⟩
  have HC2 : Hid (CX y2 cb 3 N2 F) := c2
  refine hK.out _ _ H2.out.1 (fun hS2 => ?_)
  clear hK K CC c2 m2 v2 t2 H1 hS1
  try simp only [Act.put, List.getElem_toArray, List.getElem_cons_succ, List.getElem_cons_zero, List.setIfInBounds_toArray, List.set_cons_zero, List.set_cons_succ]
  refine wpAnyH_take (i := 11) (v := .bool false) rfl (by kernel_rfl) (by kernel_rfl) (by kernel_rfl) (fun _ _ _ h => h) (Or.inl ⟨by rfl, ?_⟩) hS2 ?_
  · intro w hw
    go_simp
  try simp only [Act.put, List.getElem_toArray, List.getElem_cons_succ, List.getElem_cons_zero, List.setIfInBounds_toArray, List.set_cons_zero, List.set_cons_succ]
  refine wpAnyH_take (i := 12) (v := .bool false) rfl (by kernel_rfl) (by kernel_rfl) (by kernel_rfl) (fun _ _ _ h => h) (Or.inl ⟨by rfl, ?_⟩) hS2 ?_
  · intro w hw
    go_simp
  try simp only [Act.put, List.getElem_toArray, List.getElem_cons_succ, List.getElem_cons_zero, List.setIfInBounds_toArray, List.set_cons_zero, List.set_cons_succ]
  refine wpAnyH_take (i := 13) (v := .bool false) rfl (by kernel_rfl) (by kernel_rfl) (by kernel_rfl) (fun _ _ _ h => h) (Or.inl ⟨by rfl, ?_⟩) hS2 ?_
  · intro w hw
    go_simp
  try simp only [Act.put, List.getElem_toArray, List.getElem_cons_succ, List.getElem_cons_zero, List.setIfInBounds_toArray, List.set_cons_zero, List.set_cons_succ]
  refine wpAnyH_take (i := 14) (v := .pointer (some ⟨V, 0, none⟩)) rfl (by kernel_rfl) (by kernel_rfl) (by kernel_rfl) (fun _ _ _ h => h) (Or.inl ⟨by rfl, ?_⟩) hS2 ?_
  · intro w hw
    go_simp
  try simp only [Act.put, List.getElem_toArray, List.getElem_cons_succ, List.getElem_cons_zero, List.setIfInBounds_toArray, List.set_cons_zero, List.set_cons_succ]
  refine wpAnyH_take (i := 15) (v := .pointer (some ⟨M, 0, none⟩)) rfl (by kernel_rfl) (by kernel_rfl) (by kernel_rfl) (fun _ _ _ h => h) (Or.inl ⟨by rfl, ?_⟩) hS2 ?_
  · intro w hw
    go_simp
  try simp only [Act.put, List.getElem_toArray, List.getElem_cons_succ, List.getElem_cons_zero, List.setIfInBounds_toArray, List.set_cons_zero, List.set_cons_succ]
  refine wpAnyH_take (i := 17) (v := .agg (imA N2 R2)) rfl (by kernel_rfl) (by kernel_rfl) (by kernel_rfl) (fun _ _ _ h => h) (yieldsIf_load_mid (by rfl) 63 _ rfl wB 0 rfl (imA N2 R2).toList _ (fun w h => range_of (h.2)) Try.underlying63 rfl inf63) hS2 ?_
  try simp only [Act.put, List.getElem_toArray, List.getElem_cons_succ, List.getElem_cons_zero, List.setIfInBounds_toArray, List.set_cons_zero, List.set_cons_succ]
  refine wpAnyH_ready (rs := [16]) (by kernel_rfl) (by simp) ?_
  refine AllReadyH.cons rfl (fun K hK => ?_) AllReadyH.nil
  have CC := image_any H2.out.2.v H2.out.2.f (.pointer (some ⟨M, 0, none⟩)) N2 hA (fun y hy => regs_on (H2.out.2.m.below hy) i hi2 cb (xi _) (keepB HC2.out hy) (H2.out.2.v.below hy))
  go_simp
  go_wp2_with (go_at_call 24; refine CC.mono ?_; rintro q y3 ⟨rfl, hY⟩)
  have H3 : Hid ((y3.heap[w.heap.size]? = some (.cells (imA N R) 63 (0, 0)) ∧ y3.heap[wB]? = some (.cells (imA N2 R2) 63 (0, 0))) ∧ S1 w y3 M mb cr 2 o (tx (fun _ => .pointer none) i (.pointer (some ⟨cb, 0, none⟩))) V 3 F 2 2 i N2 R2) := ⟨⟨keepB H2.out.1.1 hY, keepB H2.out.1.2 hY⟩, H2.out.2.below hY⟩
  have HC3 : Hid (CX y3 cb 3 N2 F) := keepB HC2.out hY
  refine hK.out _ _ H3.out.1 (fun hS3 => ?_)
  clear hK K CC hY H2 HC2 hS2
  try simp only [Act.put, List.getElem_toArray, List.getElem_cons_succ, List.getElem_cons_zero, List.setIfInBounds_toArray, List.set_cons_zero, List.set_cons_succ]
  refine wpAnyH_take (i := 18) (v := .bool false) rfl (by kernel_rfl) (by kernel_rfl) (by kernel_rfl) (fun _ _ _ h => h) (yieldsIf_neq (by rfl) 63 _ _ rfl (imA N2 R2) (imA N2 R2) rfl rfl eqg63 true (eq_im _ (imA_words _ _))) hS3 ?_
  try simp only [Act.put, List.getElem_toArray, List.getElem_cons_succ, List.getElem_cons_zero, List.setIfInBounds_toArray, List.set_cons_zero, List.set_cons_succ]
  refine wpAnyH_take (i := 19) (v := .bool false) rfl (by kernel_rfl) (by kernel_rfl) (by kernel_rfl) (fun _ _ _ h => h) (Or.inl ⟨by rfl, ?_⟩) hS3 ?_
  · intro w hw
    go_simp
  try simp only [Act.put, List.getElem_toArray, List.getElem_cons_succ, List.getElem_cons_zero, List.setIfInBounds_toArray, List.set_cons_zero, List.set_cons_succ]
  refine wpAnyH_take (i := 20) (v := .bool false) rfl (by kernel_rfl) (by kernel_rfl) (by kernel_rfl) (fun _ _ _ h => h) (Or.inl ⟨by rfl, ?_⟩) hS3 ?_
  · intro w hw
    go_simp
  try simp only [Act.put, List.getElem_toArray, List.getElem_cons_succ, List.getElem_cons_zero, List.setIfInBounds_toArray, List.set_cons_zero, List.set_cons_succ]
  refine wpAnyH_take (i := 21) (v := .pointer (some ⟨V, 0, none⟩)) rfl (by kernel_rfl) (by kernel_rfl) (by kernel_rfl) (fun _ _ _ h => h) (Or.inl ⟨by rfl, ?_⟩) hS3 ?_
  · intro w hw
    go_simp
  try simp only [Act.put, List.getElem_toArray, List.getElem_cons_succ, List.getElem_cons_zero, List.setIfInBounds_toArray, List.set_cons_zero, List.set_cons_succ]
  refine wpAnyH_take (i := 22) (v := .agg (imA N R)) rfl (by kernel_rfl) (by kernel_rfl) (by kernel_rfl) (fun _ _ _ h => h) (yieldsIf_load_mid (by rfl) 63 _ rfl w.heap.size 0 rfl (imA N R).toList _ (fun w h => range_of (h.1)) Try.underlying63 rfl inf63) hS3 ?_
  try simp only [Act.put, List.getElem_toArray, List.getElem_cons_succ, List.getElem_cons_zero, List.setIfInBounds_toArray, List.set_cons_zero, List.set_cons_succ]
  refine wpAnyH_ready (rs := [23]) (by kernel_rfl) (by simp) ?_
  refine AllReadyH.cons rfl (fun K hK => ?_) AllReadyH.nil
  have CC := load_state H3.out.2.v (imA N R)
  go_simp
  go_wp2_with (go_at_call 25; refine CC.mono ?_; rintro q y4 ⟨rfl, hY⟩)
  have H4 : Hid ((y4.heap[w.heap.size]? = some (.cells (imA N R) 63 (0, 0)) ∧ y4.heap[wB]? = some (.cells (imA N2 R2) 63 (0, 0))) ∧ S1 w y4 M mb cr 2 o (tx (fun _ => .pointer none) i (.pointer (some ⟨cb, 0, none⟩))) V 3 F 2 2 i N2 R2) := ⟨⟨keepB H3.out.1.1 hY, keepB H3.out.1.2 hY⟩, H3.out.2.below hY⟩
  have HC4 : Hid (CX y4 cb 3 N2 F) := keepB HC3.out hY
  refine hK.out _ _ H4.out.1 (fun hS4 => ?_)
  clear hK K CC hY H3 HC3 hS3
  try simp only [Act.put, List.getElem_toArray, List.getElem_cons_succ, List.getElem_cons_zero, List.setIfInBounds_toArray, List.set_cons_zero, List.set_cons_succ]
  refine wpAnyH_take (i := 24) (v := .bool false) rfl (by kernel_rfl) (by kernel_rfl) (by kernel_rfl) (fun _ _ _ h => h) (Or.inl ⟨by rfl, ?_⟩) hS4 ?_
  · intro w hw
    go_simp
  try simp only [Act.put, List.getElem_toArray, List.getElem_cons_succ, List.getElem_cons_zero, List.setIfInBounds_toArray, List.set_cons_zero, List.set_cons_succ]
  refine wpAnyH_take (i := 25) (v := .bool false) rfl (by kernel_rfl) (by kernel_rfl) (by kernel_rfl) (fun _ _ _ h => h) (Or.inl ⟨by rfl, ?_⟩) hS4 ?_
  · intro w hw
    go_simp
  try simp only [Act.put, List.getElem_toArray, List.getElem_cons_succ, List.getElem_cons_zero, List.setIfInBounds_toArray, List.set_cons_zero, List.set_cons_succ]
  refine wpAnyH_done (by kernel_rfl) ?_ _
  clear hS4
  have CG := get_yes H4.out.2.m i hi2 cb (xi _) 3 N2 F HC4.out
  go_wp2_with fail
  refine CG.mono ?_
  rintro e y5 ⟨rfl, b5⟩
  clear CG
  obtain ⟨a, ha⟩ : ∃ a, y5.alloc (.cells zeroCtx 68) = a := ⟨_, rfl⟩
  have ba : Below y5.heap.size y5 a := by rw [← ha]; exact below_box _ _
  have m0 : a.heap[y5.heap.size]? = some (.cells zeroCtx 68 (0, 0)) := by rw [← ha]; exact heap_alloc_at _ _
  have HM0 : Hid (_) := m0
  obtain ⟨y6, hb⟩ : ∃ b, a.setRow y5.heap.size (ctxA 3 N2 F 0) = b := ⟨_, rfl⟩
  have bb : Below y5.heap.size a y6 := by rw [← hb]; exact below_setRow' _ _ (Nat.le_refl _) _
  have m1 : y6.heap[y5.heap.size]? = some (.cells (ctxA 3 N2 F 0) 68 (0, 0)) := by rw [← hb]; exact setRow_heap _ _ _ _ _ _ m0
  have b6 := b5.trans ((ba.trans bb).mono b5.size)
  have H5 : Hid ((y6.heap[w.heap.size]? = some (.cells (imA N R) 63 (0, 0)) ∧ y6.heap[wB]? = some (.cells (imA N2 R2) 63 (0, 0))) ∧ S1 w y6 M mb cr 2 o (tx (fun _ => .pointer none) i (.pointer (some ⟨cb, 0, none⟩))) V 3 F 2 2 i N2 R2) := ⟨⟨keepB H4.out.1.1 b6, keepB H4.out.1.2 b6⟩, H4.out.2.below b6⟩
  have HC5 : Hid (CX y6 cb 3 N2 F) := keepB HC4.out b6
  have k0 : y6.cell? ⟨y5.heap.size, 0, none⟩ = some (.int .i64 3) := (cell_at m1 0).trans rfl
  have k17 : y6.cell? ⟨y5.heap.size, 17, none⟩ = some (.int .u64 (N2 16)) := (cell_at m1 17).trans rfl
  have k19 : y6.cell? ⟨y5.heap.size, 19, none⟩ = some (.pointer (some ⟨F, 0, none⟩)) := (cell_at m1 19).trans rfl
  have q16 : y6.cell? ⟨w.heap.size, 16, none⟩ = some (.int .u64 (N2 16)) := by rw [cell_at H5.out.1.1 16, imA_lo N R 16 (by decide), h16]
  have kl := lt_of_heap m1
  have ql := lt_of_heap H5.out.1.1
  clear H4 HC4 b5 b6 ba bb m0 m1
  unfold zeroCtx at ha
  go_upto_region 12 with (first
    | refine wpList_store_row rfl 68 _ _ rfl y5.heap.size (ctxA 3 N2 F 0) rfl rfl 68 zeroCtx HM0.out inf68 rfl (ctxA_one _ _ _ _) ?_
    | fail)
  clear ha hb HM0
  have CF : ∀ n, Calls Try.prog 23 #[.pointer (some ⟨V, 0, none⟩)] (y6.drewN n) fun e w' => e = .returned (.pointer (some ⟨F, 0, none⟩)) ∧ ∃ m, w' = y6.drewN m := fun n => (file_v (w := y6.drewN n) H5.out.2.v).mono fun e w' ⟨h1, h2⟩ => ⟨h1, n, h2⟩
  refine wp_region_quiet_lit (by kernel_rfl) (by kernel_rfl) ?_
  repeat (first
    | go_big_quiet_skip
    | (go_big_quiet_want; refine quiet_neqv 54 _ _ rfl (.pointer (some ⟨F, 0, none⟩)) (.pointer (some ⟨F, 0, none⟩)) rfl rfl (.bool false) (fun W => by simp [eqGuard]) (neq_file F) ?_; simp only [Act.put, List.setIfInBounds_toArray, List.set_cons_zero, List.set_cons_succ]; go_big_quiet_on)
    | go_big_quiet_step (exact CF _))
  refine wpQuiet_nil ?_
  intro _ hw'
  obtain ⟨nq, hw''⟩ := hw'
  subst hw''
  clear CF k0 k17 k19 q16 kl ql
  go_upto_region 14 with fail
  have H6 : Hid ((((y6.drewN nq).drew.heap[w.heap.size]? = some (.cells (imA N R) 63 (0, 0)) ∧ (y6.drewN nq).drew.heap[wB]? = some (.cells (imA N2 R2) 63 (0, 0))) ∧ S1 w (y6.drewN nq).drew M mb cr 2 o (tx (fun _ => .pointer none) i (.pointer (some ⟨cb, 0, none⟩))) V 3 F 2 2 i N2 R2)) := ⟨H5.out.1, H5.out.2.below (below_drewN (Below.refl _ _) _).drew⟩
  have HC6 : Hid (CX (y6.drewN nq).drew cb 3 N2 F) := HC5.out
  generalize (y6.drewN nq) = y7 at *
  clear H5 HC5
  have hS0 : (fun W : World => W.heap[w.heap.size]? = some (.cells (imA N R) 63 (0, 0)) ∧ W.heap[wB]? = some (.cells (imA N2 R2) 63 (0, 0))) y7.drew := H6.out.1
  refine wp_region_held_drew (S := fun W : World => W.heap[w.heap.size]? = some (.cells (imA N R) 63 (0, 0)) ∧ W.heap[wB]? = some (.cells (imA N2 R2) 63 (0, 0))) (by kernel_rfl) hS0 (fun _ => ?_)
  refine wpAnyH_take (i := 0) (v := .pointer (some ⟨V, 0, none⟩)) rfl (by kernel_rfl) (by kernel_rfl) (by kernel_rfl) (fun _ _ _ h => h) (Or.inl ⟨by rfl, ?_⟩) hS0 ?_
  · intro w hw
    go_simp
  try simp only [Act.put, List.getElem_toArray, List.getElem_cons_zero, List.setIfInBounds_toArray, List.set_cons_zero, List.set_cons_succ]
  refine wpAnyH_take (i := 1) (v := .pointer (some ⟨M, 0, none⟩)) rfl (by kernel_rfl) (by kernel_rfl) (by kernel_rfl) (fun _ _ _ h => h) (Or.inl ⟨by rfl, ?_⟩) hS0 ?_
  · intro w hw
    go_simp
  try simp only [Act.put, List.getElem_toArray, List.getElem_cons_succ, List.getElem_cons_zero, List.setIfInBounds_toArray, List.set_cons_zero, List.set_cons_succ]
  refine wpAnyH_ready (rs := [2]) (by kernel_rfl) (by simp) ?_
  refine AllReadyH.cons rfl (fun K hK => ?_) AllReadyH.nil
  have CC := leave_own H6.out.2.m i hi2 cb (xi _) hA HC6.out H6.out.2.v
  go_simp
  go_wp2_with (go_at_call 17; refine CC.mono ?_; rintro q z1 ⟨rfl, m1, v1, t1⟩)
  have J1 : Hid ((z1.heap[w.heap.size]? = some (.cells (imA N R) 63 (0, 0)) ∧ z1.heap[wB]? = some (.cells (imA N2 R2) 63 (0, 0))) ∧ S1 w z1 M mb cr 2 o (tx (tx (fun _ => .pointer none) i (.pointer (some ⟨cb, 0, none⟩))) i (.pointer none)) V 3 F 2 1 (-1) N2 R2) := ⟨S1.keeps H6.out.2 H6.out.1 hi2 t1, H6.out.2.onto HO.out hi2 m1 v1 t1⟩
  refine hK.out _ _ J1.out.1 (fun hS1 => ?_)
  clear hK K CC m1 v1 t1 H6 HC6 hS0
  try simp only [Act.put, List.getElem_toArray, List.getElem_cons_succ, List.getElem_cons_zero, List.setIfInBounds_toArray, List.set_cons_zero, List.set_cons_succ]
  refine wpAnyH_take (i := 3) (v := .bool true) rfl (by kernel_rfl) (by kernel_rfl) (by kernel_rfl) (fun _ _ _ h => h) (Or.inl ⟨by rfl, ?_⟩) hS1 ?_
  · intro w hw
    go_simp
  try simp only [Act.put, List.getElem_toArray, List.getElem_cons_succ, List.getElem_cons_zero, List.setIfInBounds_toArray, List.set_cons_zero, List.set_cons_succ]
  refine wpAnyH_take (i := 4) (v := .bool true) rfl (by kernel_rfl) (by kernel_rfl) (by kernel_rfl) (fun _ _ _ h => h) (Or.inl ⟨by rfl, ?_⟩) hS1 ?_
  · intro w hw
    go_simp
  try simp only [Act.put, List.getElem_toArray, List.getElem_cons_succ, List.getElem_cons_zero, List.setIfInBounds_toArray, List.set_cons_zero, List.set_cons_succ]
  refine wpAnyH_take (i := 5) (v := .pointer (some ⟨V, 0, none⟩)) rfl (by kernel_rfl) (by kernel_rfl) (by kernel_rfl) (fun _ _ _ h => h) (Or.inl ⟨by rfl, ?_⟩) hS1 ?_
  · intro w hw
    go_simp
  try simp only [Act.put, List.getElem_toArray, List.getElem_cons_succ, List.getElem_cons_zero, List.setIfInBounds_toArray, List.set_cons_zero, List.set_cons_succ]
  refine wpAnyH_take (i := 6) (v := .pointer (some ⟨M, 0, none⟩)) rfl (by kernel_rfl) (by kernel_rfl) (by kernel_rfl) (fun _ _ _ h => h) (Or.inl ⟨by rfl, ?_⟩) hS1 ?_
  · intro w hw
    go_simp
  try simp only [Act.put, List.getElem_toArray, List.getElem_cons_succ, List.getElem_cons_zero, List.setIfInBounds_toArray, List.set_cons_zero, List.set_cons_succ]
  refine wpAnyH_take (i := 8) (v := .agg (imA N2 R2)) rfl (by kernel_rfl) (by kernel_rfl) (by kernel_rfl) (fun _ _ _ h => h) (yieldsIf_load_mid (by rfl) 63 _ rfl wB 0 rfl (imA N2 R2).toList _ (fun w h => range_of (h.2)) Try.underlying63 rfl inf63) hS1 ?_
  try simp only [Act.put, List.getElem_toArray, List.getElem_cons_succ, List.getElem_cons_zero, List.setIfInBounds_toArray, List.set_cons_zero, List.set_cons_succ]
  refine wpAnyH_ready (rs := [7]) (by kernel_rfl) (by simp) ?_
  refine AllReadyH.cons rfl (fun K hK => ?_) AllReadyH.nil
  have CC := image_any J1.out.2.v J1.out.2.f (.pointer (some ⟨M, 0, none⟩)) N2 hA (fun y hy => regs_off (J1.out.2.v.below hy) (by decide) _)
  go_simp
  go_wp2_with (go_at_call 24; refine CC.mono ?_; rintro q z2 ⟨rfl, hY⟩)
  have J2 : Hid ((z2.heap[w.heap.size]? = some (.cells (imA N R) 63 (0, 0)) ∧ z2.heap[wB]? = some (.cells (imA N2 R2) 63 (0, 0))) ∧ S1 w z2 M mb cr 2 o (tx (tx (fun _ => .pointer none) i (.pointer (some ⟨cb, 0, none⟩))) i (.pointer none)) V 3 F 2 1 (-1) N2 R2) := ⟨⟨keepB J1.out.1.1 hY, keepB J1.out.1.2 hY⟩, J1.out.2.below hY⟩
  refine hK.out _ _ J2.out.1 (fun hS2 => ?_)
  clear hK K CC hY J1 hS1
  try simp only [Act.put, List.getElem_toArray, List.getElem_cons_succ, List.getElem_cons_zero, List.setIfInBounds_toArray, List.set_cons_zero, List.set_cons_succ]
  refine wpAnyH_take (i := 9) (v := .bool true) rfl (by kernel_rfl) (by kernel_rfl) (by kernel_rfl) (fun _ _ _ h => h) (yieldsIf_eql (by rfl) 63 _ _ rfl (imA N2 R2) (imA N2 R2) rfl rfl eqg63 true (eq_im _ (imA_words _ _))) hS2 ?_
  try simp only [Act.put, List.getElem_toArray, List.getElem_cons_succ, List.getElem_cons_zero, List.setIfInBounds_toArray, List.set_cons_zero, List.set_cons_succ]
  refine wpAnyH_take (i := 10) (v := .bool true) rfl (by kernel_rfl) (by kernel_rfl) (by kernel_rfl) (fun _ _ _ h => h) (Or.inl ⟨by rfl, ?_⟩) hS2 ?_
  · intro w hw
    go_simp
  try simp only [Act.put, List.getElem_toArray, List.getElem_cons_succ, List.getElem_cons_zero, List.setIfInBounds_toArray, List.set_cons_zero, List.set_cons_succ]
  refine wpAnyH_take (i := 11) (v := .bool true) rfl (by kernel_rfl) (by kernel_rfl) (by kernel_rfl) (fun _ _ _ h => h) (Or.inl ⟨by rfl, ?_⟩) hS2 ?_
  · intro w hw
    go_simp
  try simp only [Act.put, List.getElem_toArray, List.getElem_cons_succ, List.getElem_cons_zero, List.setIfInBounds_toArray, List.set_cons_zero, List.set_cons_succ]
  refine wpAnyH_take (i := 12) (v := .pointer (some ⟨V, 0, none⟩)) rfl (by kernel_rfl) (by kernel_rfl) (by kernel_rfl) (fun _ _ _ h => h) (Or.inl ⟨by rfl, ?_⟩) hS2 ?_
  · intro w hw
    go_simp
  try simp only [Act.put, List.getElem_toArray, List.getElem_cons_succ, List.getElem_cons_zero, List.setIfInBounds_toArray, List.set_cons_zero, List.set_cons_succ]
  refine wpAnyH_take (i := 13) (v := .pointer (some ⟨M, 0, none⟩)) rfl (by kernel_rfl) (by kernel_rfl) (by kernel_rfl) (fun _ _ _ h => h) (Or.inl ⟨by rfl, ?_⟩) hS2 ?_
  · intro w hw
    go_simp
  try simp only [Act.put, List.getElem_toArray, List.getElem_cons_succ, List.getElem_cons_zero, List.setIfInBounds_toArray, List.set_cons_zero, List.set_cons_succ]
  refine wpAnyH_ready (rs := [14]) (by kernel_rfl) (by simp) ?_
  refine AllReadyH.cons rfl (fun K hK => ?_) AllReadyH.nil
  have CC := leave_state J2.out.2.m J2.out.2.v (by decide)
  go_simp
  go_wp2_with (go_at_call 17; refine CC.mono ?_; rintro q z3 ⟨rfl, hY⟩)
  have J3 : Hid ((z3.heap[w.heap.size]? = some (.cells (imA N R) 63 (0, 0)) ∧ z3.heap[wB]? = some (.cells (imA N2 R2) 63 (0, 0))) ∧ S1 w z3 M mb cr 2 o (tx (tx (fun _ => .pointer none) i (.pointer (some ⟨cb, 0, none⟩))) i (.pointer none)) V 3 F 2 1 (-1) N2 R2) := ⟨⟨keepB J2.out.1.1 hY, keepB J2.out.1.2 hY⟩, J2.out.2.below hY⟩
  refine hK.out _ _ J3.out.1 (fun hS3 => ?_)
  clear hK K CC hY J2 hS2
  try simp only [Act.put, List.getElem_toArray, List.getElem_cons_succ, List.getElem_cons_zero, List.setIfInBounds_toArray, List.set_cons_zero, List.set_cons_succ]
  refine wpAnyH_take (i := 15) (v := .bool true) rfl (by kernel_rfl) (by kernel_rfl) (by kernel_rfl) (fun _ _ _ h => h) (Or.inl ⟨by rfl, ?_⟩) hS3 ?_
  · intro w hw
    go_simp
  try simp only [Act.put, List.getElem_toArray, List.getElem_cons_succ, List.getElem_cons_zero, List.setIfInBounds_toArray, List.set_cons_zero, List.set_cons_succ]
  refine wpAnyH_take (i := 16) (v := .bool true) rfl (by kernel_rfl) (by kernel_rfl) (by kernel_rfl) (fun _ _ _ h => h) (Or.inl ⟨by rfl, ?_⟩) hS3 ?_
  · intro w hw
    go_simp
  try simp only [Act.put, List.getElem_toArray, List.getElem_cons_succ, List.getElem_cons_zero, List.setIfInBounds_toArray, List.set_cons_zero, List.set_cons_succ]
  refine wpAnyH_take (i := 17) (v := .bool true) rfl (by kernel_rfl) (by kernel_rfl) (by kernel_rfl) (fun _ _ _ h => h) (Or.inl ⟨by rfl, ?_⟩) hS3 ?_
  · intro w hw
    go_simp
  try simp only [Act.put, List.getElem_toArray, List.getElem_cons_succ, List.getElem_cons_zero, List.setIfInBounds_toArray, List.set_cons_zero, List.set_cons_succ]
  refine wpAnyH_done (by kernel_rfl) ?_ _
  have HE : Hid (Below w.heap.size w z3) := J3.out.2.bl
  clear hS3 J3
  go_wp2_with fail
  go_ret
  exact ⟨rfl, HE.out⟩
end Go.Proofs.Ytjkaeclemflifaa
