/-
  A virtual processor: Enter.
-/
import Derived.Test.YtjkaeclemflifaaVd
import Derived.Deep.DeepCutAuto
namespace Go.Proofs.Ytjkaeclemflifaa
open Go.RowKit
set_option linter.unusedVariables false
set_option maxRecDepth 100000
section
variable {w w' : World} {V F : Nat} {g ix st co : Int} {N : Nat → Int} {M mb cr n f : Nat} {o : Nat → Nat} {x : Nat → Value}
set_option maxHeartbeats 3200000 in
theorem enter_with (hm : MS w M mb cr n f o x) (h : VS w V g F ix 1 co N) (core : Int) (er : Int) (R : World → World → Prop)
    (hp : ∀ y, Below w.heap.size w y → Calls Try.prog 37 #[.pointer (some ⟨M, 0, none⟩), .int .i64 core, .agg (ctxA g N F 0)] y fun e z => e = .returned (.int .i64 er) ∧ R y z)
    (hV : ∀ y z, Below w.heap.size w y → R y z → VS z V g F ix 1 co N) :
    Calls Try.prog 22 #[.pointer (some ⟨V, 0, none⟩), .pointer (some ⟨M, 0, none⟩), .int .i64 core, .int .i64 0] w fun e w' => e = .returned (.int .i64 er) ∧ Hid (∃ y z, Below w.heap.size w y ∧ R y z ∧ (er ≠ 0 → w' = z) ∧ (er = 0 → VS w' V g F ix 2 core N ∧ Trn (fun k => k = V) z w')) := by
  obtain ⟨y0, hy0⟩ : ∃ y0, w.alloc (.cells #[.int .i64 1] 3) = y0 := ⟨_, rfl⟩
  have b0 : Below w.heap.size w y0 := by rw [← hy0]; exact below_box _ _
  have s0 : ST y0 w.heap.size 1 1 0 0 := by rw [← hy0]; exact st1 w 1
  have C1 := check_v (hm.below b0) (h.below b0) s0
  rw [show inE (isS 1 1 0 0 1) = 0 by decide] at C1
  have HW : Hid (Below w.heap.size w y0.drew ∧ VS y0.drew V g F ix 1 co N) := ⟨b0.drew, (h.below b0).below (below_drew' _)⟩
  have U0 := unpacked_any N
  have hl := h.lt
  clear hm h s0 b0
  go_enter Try.func22, Try.ntmps22
  go_wp2_with fail
  clear hy0
  refine C1.mono ?_
  rintro e y0 ⟨rfl, rfl⟩
  clear C1
  go_upto_region 4 with fail
  go_cut [10] (fun p wx => ∃ cb, p = .pointer (some ⟨cb, 0, none⟩) ∧ Hid (wx.heap[cb]? = some (.cells (ctxA g N F 0) 68 (0, 0)) ∧ Below w.heap.size w wx))
  case first =>
    have HSS : (fun W : World => VS W V g F ix 1 co N) y0.drew := HW.out.2
    refine wp_region_held_drew (S := fun W => VS W V g F ix 1 co N) (by kernel_rfl) HSS (fun _ => ?_)
    refine wpAnyH_take (i := 0) (v := .pointer (some ⟨V, 0, none⟩)) rfl (by kernel_rfl) (by kernel_rfl) (by kernel_rfl) (fun _ _ _ h => h) (Or.inl ⟨by rfl, ?_⟩) HSS ?_
    · intro w hw
      go_simp
    try simp only [Act.put, List.getElem_toArray, List.getElem_cons_zero, List.setIfInBounds_toArray, List.set_cons_zero, List.set_cons_succ]
    refine wpAnyH_take (i := 1) (v := .pointer (some ⟨V, 0, none⟩)) rfl (by kernel_rfl) (by kernel_rfl) (by kernel_rfl) (fun _ _ _ h => h) (Or.inl ⟨by rfl, ?_⟩) HSS ?_
    · intro w hw
      have hl := VS.lt hw
      go_simp
    try simp only [Act.put, List.getElem_toArray, List.getElem_cons_succ, List.getElem_cons_zero, List.setIfInBounds_toArray, List.set_cons_zero, List.set_cons_succ]
    refine wpAnyH_take (i := 2) (v := .pointer (some ⟨V, 0, none⟩)) rfl (by kernel_rfl) (by kernel_rfl) (by kernel_rfl) (fun _ _ _ h => h) (Or.inl ⟨by rfl, ?_⟩) HSS ?_
    · intro w hw
      go_simp
    try simp only [Act.put, List.getElem_toArray, List.getElem_cons_succ, List.getElem_cons_zero, List.setIfInBounds_toArray, List.set_cons_zero, List.set_cons_succ]
    refine wpAnyH_take (i := 3) (v := .pointer (some ⟨V, 0, none⟩)) rfl (by kernel_rfl) (by kernel_rfl) (by kernel_rfl) (fun _ _ _ h => h) (Or.inl ⟨by rfl, ?_⟩) HSS ?_
    · intro w hw
      go_simp
    try simp only [Act.put, List.getElem_toArray, List.getElem_cons_succ, List.getElem_cons_zero, List.setIfInBounds_toArray, List.set_cons_zero, List.set_cons_succ]
    refine wpAnyH_take (i := 4) (v := .int .i64 g) rfl (by kernel_rfl) (by kernel_rfl) (by kernel_rfl) (fun _ _ _ h => h) (Or.inl ⟨by rfl, ?_⟩) HSS ?_
    · intro w hw
      have hc := VS.c0 hw
      go_simp
    try simp only [Act.put, List.getElem_toArray, List.getElem_cons_succ, List.getElem_cons_zero, List.setIfInBounds_toArray, List.set_cons_zero, List.set_cons_succ]
    refine wpAnyH_take (i := 5) (v := .pointer (some ⟨V, 0, none⟩)) rfl (by kernel_rfl) (by kernel_rfl) (by kernel_rfl) (fun _ _ _ h => h) (Or.inl ⟨by rfl, ?_⟩) HSS ?_
    · intro w hw
      go_simp
    try simp only [Act.put, List.getElem_toArray, List.getElem_cons_succ, List.getElem_cons_zero, List.setIfInBounds_toArray, List.set_cons_zero, List.set_cons_succ]
    refine wpAnyH_take (i := 6) (v := .pointer (some ⟨V, 0, none⟩)) rfl (by kernel_rfl) (by kernel_rfl) (by kernel_rfl) (fun _ _ _ h => h) (Or.inl ⟨by rfl, ?_⟩) HSS ?_
    · intro w hw
      have hl := VS.lt hw
      go_simp
    try simp only [Act.put, List.getElem_toArray, List.getElem_cons_succ, List.getElem_cons_zero, List.setIfInBounds_toArray, List.set_cons_zero, List.set_cons_succ]
    refine wpAnyH_take (i := 7) (v := .pointer (some ⟨V, 5, none⟩)) rfl (by kernel_rfl) (by kernel_rfl) (by kernel_rfl) (fun _ _ _ h => h) (Or.inl ⟨by rfl, ?_⟩) HSS ?_
    · intro w hw
      go_simp
    try simp only [Act.put, List.getElem_toArray, List.getElem_cons_succ, List.getElem_cons_zero, List.setIfInBounds_toArray, List.set_cons_zero, List.set_cons_succ]
    refine wpAnyH_take (i := 8) (v := .agg (nvA N)) rfl (by kernel_rfl) (by kernel_rfl) (by kernel_rfl) (fun _ _ _ h => h) (yieldsIf_load_mid (by rfl) 58 _ rfl V 5 rfl (nvA N).toList _ (fun w h => VS.rg h) Try.underlying58 rfl inf58) HSS ?_
    try simp only [Act.put, List.getElem_toArray, List.getElem_cons_succ, List.getElem_cons_zero, List.setIfInBounds_toArray, List.set_cons_zero, List.set_cons_succ]
    refine wpAnyH_take (i := 10) (v := .pointer (some ⟨V, 0, none⟩)) rfl (by kernel_rfl) (by kernel_rfl) (by kernel_rfl) (fun _ _ _ h => h) (Or.inl ⟨by rfl, ?_⟩) HSS ?_
    · intro w hw
      go_simp
    try simp only [Act.put, List.getElem_toArray, List.getElem_cons_succ, List.getElem_cons_zero, List.setIfInBounds_toArray, List.set_cons_zero, List.set_cons_succ]
    refine wpAnyH_take (i := 11) (v := .pointer (some ⟨V, 0, none⟩)) rfl (by kernel_rfl) (by kernel_rfl) (by kernel_rfl) (fun _ _ _ h => h) (Or.inl ⟨by rfl, ?_⟩) HSS ?_
    · intro w hw
      have hl := VS.lt hw
      go_simp
    try simp only [Act.put, List.getElem_toArray, List.getElem_cons_succ, List.getElem_cons_zero, List.setIfInBounds_toArray, List.set_cons_zero, List.set_cons_succ]
    refine wpAnyH_take (i := 12) (v := .pointer (some ⟨V, 0, none⟩)) rfl (by kernel_rfl) (by kernel_rfl) (by kernel_rfl) (fun _ _ _ h => h) (Or.inl ⟨by rfl, ?_⟩) HSS ?_
    · intro w hw
      go_simp
    try simp only [Act.put, List.getElem_toArray, List.getElem_cons_succ, List.getElem_cons_zero, List.setIfInBounds_toArray, List.set_cons_zero, List.set_cons_succ]
    refine wpAnyH_take (i := 13) (v := .pointer (some ⟨V, 1, none⟩)) rfl (by kernel_rfl) (by kernel_rfl) (by kernel_rfl) (fun _ _ _ h => h) (Or.inl ⟨by rfl, ?_⟩) HSS ?_
    · intro w hw
      go_simp
    try simp only [Act.put, List.getElem_toArray, List.getElem_cons_succ, List.getElem_cons_zero, List.setIfInBounds_toArray, List.set_cons_zero, List.set_cons_succ]
    refine wpAnyH_take (i := 14) (v := .pointer (some ⟨F, 0, none⟩)) rfl (by kernel_rfl) (by kernel_rfl) (by kernel_rfl) (fun _ _ _ h => h) (Or.inl ⟨by rfl, ?_⟩) HSS ?_
    · intro w hw
      have hc := VS.c1 hw
      go_simp
    try simp only [Act.put, List.getElem_toArray, List.getElem_cons_succ, List.getElem_cons_zero, List.setIfInBounds_toArray, List.set_cons_zero, List.set_cons_succ]
    refine wpAnyH_take (i := 15) (v := .int .i64 0) rfl (by kernel_rfl) (by kernel_rfl) (by kernel_rfl) (fun _ _ _ h => h) (Or.inl ⟨by rfl, ?_⟩) HSS ?_
    · intro w hw
      go_simp
    try simp only [Act.put, List.getElem_toArray, List.getElem_cons_succ, List.getElem_cons_zero, List.setIfInBounds_toArray, List.set_cons_zero, List.set_cons_succ]
    refine wpAnyH_ready (rs := [9, 17]) (by kernel_rfl) (by simp) ?_
    refine AllReadyH.cons rfl (fun K hK => ?_) (AllReadyH.cons rfl (fun K hK => ?_) AllReadyH.nil)
    · go_simp
      go_wp2_with (go_at_call 36; refine (U0 _).mono ?_; rintro q y1 ⟨rfl, hY1⟩)
      have H1 : Hid (Below w.heap.size w y1 ∧ VS y1 V g F ix 1 co N) := ⟨HW.out.1.trans (hY1.mono HW.out.1.size), HW.out.2.below hY1⟩
      refine hK.out _ _ H1.out.2 (fun hS1 => ?_)
      clear hK K HSS
      try simp only [Act.put, List.getElem_toArray, List.getElem_cons_succ, List.getElem_cons_zero, List.setIfInBounds_toArray, List.set_cons_zero, List.set_cons_succ]
      refine wpAnyH_take (i := 16) (v := .agg (ctxA g N F 0)) rfl (by kernel_rfl) (by kernel_rfl) (by kernel_rfl) (fun _ _ _ h => h) (Or.inl ⟨by rfl, ?_⟩) hS1 ?_
      · intro w hw
        unfold upA regC ctxA
        go_simp
      try simp only [Act.put, List.getElem_toArray, List.getElem_cons_succ, List.getElem_cons_zero, List.setIfInBounds_toArray, List.set_cons_zero, List.set_cons_succ]
      refine wpAnyH_ready (rs := [17]) (by kernel_rfl) (by simp) ?_
      refine AllReadyH.cons rfl (fun K hK => ?_) AllReadyH.nil
      go_simp
      obtain ⟨y2, hy2⟩ : ∃ y2, y1.alloc (.cells zeroCtx 68) = y2 := ⟨_, rfl⟩
      have m0 : y2.heap[y1.heap.size]? = some (.cells zeroCtx 68 (0, 0)) := by rw [← hy2]; exact heap_alloc_at _ _
      have b2 : Below y1.heap.size y1 y2 := by rw [← hy2]; exact below_box _ _
      have H2 : Hid (Below w.heap.size w y2 ∧ VS y2 V g F ix 1 co N ∧ y2.heap[y1.heap.size]? = some (.cells zeroCtx 68 (0, 0)) ∧ w.heap.size ≤ y1.heap.size) := ⟨H1.out.1.trans (b2.mono H1.out.1.size), H1.out.2.below b2, m0, H1.out.1.size⟩
      clear m0 b2
      unfold zeroCtx at hy2
      rw [hy2]
      clear hy2
      refine hK.out _ _ H2.out.2.1 (fun hS2 => ?_)
      clear hK K hS1
      try simp only [Act.put, List.getElem_toArray, List.getElem_cons_succ, List.getElem_cons_zero, List.setIfInBounds_toArray, List.set_cons_zero, List.set_cons_succ]
      refine wpAnyH_ready (rs := [18]) (by kernel_rfl) (by simp) ?_
      refine AllReadyH.cons rfl (fun K hK => ?_) AllReadyH.nil
      rw [if_pos (by rfl)]
      refine wp_store_row 68 _ _ rfl y1.heap.size (ctxA g N F 0) rfl rfl 68 _ H2.out.2.2.1 inf68 rfl (ctxA_one _ _ _ _) ?_
      have nv := ne_typ H2.out.2.1 H2.out.2.2.1 (by decide)
      have H3 : Hid (VS (y2.setRow y1.heap.size (ctxA g N F 0)) V g F ix 1 co N ∧ (y2.setRow y1.heap.size (ctxA g N F 0)).heap[y1.heap.size]? = some (.cells (ctxA g N F 0) 68 (0, 0)) ∧ Below w.heap.size w (y2.setRow y1.heap.size (ctxA g N F 0))) := ⟨(setRow_other _ _ _ _ nv).trans H2.out.2.1, setRow_heap _ _ _ _ _ _ H2.out.2.2.1, H2.out.1.trans (below_setRow' _ _ H2.out.2.2.2 _)⟩
      refine hK.out _ _ H3.out.1 (fun hS3 => ?_)
      clear hK K hS2 H2
      try simp only [Act.put, List.getElem_toArray, List.getElem_cons_succ, List.getElem_cons_zero]
      refine wpAnyH_done (by kernel_rfl) ?_ _
      go_wp2_with fail
      go_meet
      exact ⟨_, rfl, H3.out.2⟩
    · go_simp
      obtain ⟨y2, hy2⟩ : ∃ y2, (y0.alloc (.cells zeroCtx 68)).drew = y2 := ⟨_, rfl⟩
      have m0 : y2.heap[y0.heap.size]? = some (.cells zeroCtx 68 (0, 0)) := by rw [← hy2]; exact heap_alloc_at y0 _
      have b2 : Below y0.heap.size y0.drew y2 := by rw [← hy2]; exact let b := below_box y0 (.cells zeroCtx 68); ⟨b.os, b.tape, b.output, b.size, b.block⟩
      have H2 : Hid (Below w.heap.size w y2 ∧ VS y2 V g F ix 1 co N ∧ y2.heap[y0.heap.size]? = some (.cells zeroCtx 68 (0, 0)) ∧ w.heap.size ≤ y0.heap.size) := ⟨HW.out.1.trans (b2.mono HW.out.1.size), HW.out.2.below b2, m0, HW.out.1.size⟩
      clear m0 b2
      unfold zeroCtx at hy2
      rw [hy2]
      clear hy2
      refine hK.out _ _ H2.out.2.1 (fun hS2 => ?_)
      clear hK K HSS
      try simp only [Act.put, List.getElem_toArray, List.getElem_cons_succ, List.getElem_cons_zero, List.setIfInBounds_toArray, List.set_cons_zero, List.set_cons_succ]
      refine wpAnyH_ready (rs := [9]) (by kernel_rfl) (by simp) ?_
      refine AllReadyH.cons rfl (fun K hK => ?_) AllReadyH.nil
      go_simp
      go_wp2_with (go_at_call 36; refine (U0 _).mono ?_; rintro q y1 ⟨rfl, hY1⟩)
      have H1 : Hid (Below w.heap.size w y1 ∧ VS y1 V g F ix 1 co N ∧ y1.heap[y0.heap.size]? = some (.cells zeroCtx 68 (0, 0)) ∧ w.heap.size ≤ y0.heap.size) := ⟨H2.out.1.trans (hY1.mono H2.out.1.size), H2.out.2.1.below hY1, keepB H2.out.2.2.1 hY1, H2.out.2.2.2⟩
      refine hK.out _ _ H1.out.2.1 (fun hS1 => ?_)
      clear hK K hS2 H2
      try simp only [Act.put, List.getElem_toArray, List.getElem_cons_succ, List.getElem_cons_zero, List.setIfInBounds_toArray, List.set_cons_zero, List.set_cons_succ]
      refine wpAnyH_take (i := 16) (v := .agg (ctxA g N F 0)) rfl (by kernel_rfl) (by kernel_rfl) (by kernel_rfl) (fun _ _ _ h => h) (Or.inl ⟨by rfl, ?_⟩) hS1 ?_
      · intro w hw
        unfold upA regC ctxA
        go_simp
      try simp only [Act.put, List.getElem_toArray, List.getElem_cons_succ, List.getElem_cons_zero, List.setIfInBounds_toArray, List.set_cons_zero, List.set_cons_succ]
      refine wpAnyH_ready (rs := [18]) (by kernel_rfl) (by simp) ?_
      refine AllReadyH.cons rfl (fun K hK => ?_) AllReadyH.nil
      rw [if_pos (by rfl)]
      refine wp_store_row 68 _ _ rfl y0.heap.size (ctxA g N F 0) rfl rfl 68 _ H1.out.2.2.1 inf68 rfl (ctxA_one _ _ _ _) ?_
      have nv := ne_typ H1.out.2.1 H1.out.2.2.1 (by decide)
      have H3 : Hid (VS (y1.setRow y0.heap.size (ctxA g N F 0)) V g F ix 1 co N ∧ (y1.setRow y0.heap.size (ctxA g N F 0)).heap[y0.heap.size]? = some (.cells (ctxA g N F 0) 68 (0, 0)) ∧ Below w.heap.size w (y1.setRow y0.heap.size (ctxA g N F 0))) := ⟨(setRow_other _ _ _ _ nv).trans H1.out.2.1, setRow_heap _ _ _ _ _ _ H1.out.2.2.1, H1.out.1.trans (below_setRow' _ _ H1.out.2.2.2 _)⟩
      refine hK.out _ _ H3.out.1 (fun hS3 => ?_)
      clear hK K hS1 H1
      try simp only [Act.put, List.getElem_toArray, List.getElem_cons_succ, List.getElem_cons_zero]
      refine wpAnyH_done (by kernel_rfl) ?_ _
      go_wp2_with fail
      go_meet
      exact ⟨_, rfl, H3.out.2⟩
  case rest =>
    obtain ⟨cb, rfl, HC⟩ := hcut
    clear HW U0
    have CP := hp wc HC.out.2
    have HP : Hid (_) := hV
    clear hV hp
    have cl := lt_of_heap HC.out.1
    by_cases e0 : er = 0
    · subst e0
      go_wp2_with (first
        | refine wpList_load_row rfl 68 _ rfl cb rfl 68 _ (0, 0) _ HC.out.1 Try.underlying68 rfl inf68 ?_
        | fail)
      refine CP.mono ?_
      rintro e z ⟨rfl, hr⟩
      have hv := HP.out wc z HC.out.2 hr
      have v3 := hv.c3
      have v4 := hv.c4
      have f3 := fz_at hv 3
      have f4 := fz_at hv 4
      have vl := hv.lt
      have HF : Hid (VS ((z.setCell ⟨V, 3, none⟩ (.int .i64 2)).setCell ⟨V, 4, none⟩ (.int .i64 core)) V g F ix 2 core N ∧ Trn (fun k => k = V) z ((z.setCell ⟨V, 3, none⟩ (.int .i64 2)).setCell ⟨V, 4, none⟩ (.int .i64 core))) := ⟨((hv.setS 2).1.setC core).1, (hv.setS 2).2.trans ((hv.setS 2).1.setC core).2⟩
      have HR : Hid (R wc z) := hr
      clear CP hv hr
      go_wp2_with fail
      go_ret
      exact ⟨rfl, wc, HC.out.2, z, HR.out, HF.out⟩
    · have e1 : ¬ er = 0 := e0
      go_wp2_with (first
        | refine wpList_load_row rfl 68 _ rfl cb rfl 68 _ (0, 0) _ HC.out.1 Try.underlying68 rfl inf68 ?_
        | fail)
      refine CP.mono ?_
      rintro e z ⟨rfl, hr⟩
      have HR : Hid (R wc z) := hr
      clear CP hr HP
      go_wp2_with fail
      go_ret
      exact ⟨rfl, wc, z, HC.out.2, HR.out, fun _ => rfl, fun e => absurd e e0⟩
end
end Go.Proofs.Ytjkaeclemflifaa
