/-
  A virtual processor: Enter by what comes of it; Leave; SetRegs.
-/
import Derived.Test.YtjkaeclemflifaaVe
import Derived.LaidEql
namespace Go.Proofs.Ytjkaeclemflifaa
open Go.RowKit
set_option linter.unusedVariables false
set_option maxRecDepth 100000
section
variable {w w' : World} {V F : Nat} {g ix st co : Int} {N : Nat → Int} {M mb cr n f : Nat} {o : Nat → Nat} {x : Nat → Value}
/-- a virtual processor's block is none of the machine's -/
theorem MS.vs (h : MS w M mb cr n f o x) (hv : VS w V g F ix st co N) : ¬ own M mb cr n o V := h.apart hv (by decide) (by decide) (by decide) (by decide)
theorem MS.trnV (h : MS w M mb cr n f o x) (hv : VS w V g F ix st co N) (ht : Trn (fun k => k = V) w w') : MS w' M mb cr n f o x := h.keep fun k hk ho => ht.block k hk fun e => h.vs hv (e ▸ ho)
theorem VS.co_ne (hv : VS w V g F ix st co N) {q : Nat} {v : Value} (hc : CO w q v) : V ≠ q := let ⟨cs, h⟩ := hc.ob; ne_typ hv h (by decide)
theorem enter_yes (hm : MS w M mb cr n f o x) (h : VS w V g F ix 1 co N) {R : Nat → Int} (hf : FF w F R) (h1 : 1 ≤ f) (h2 : f ≤ 65536) (hg : 0 ≤ g) (i : Nat) (hi : i < n) (hx : x i = .pointer none) :
    Calls Try.prog 22 #[.pointer (some ⟨V, 0, none⟩), .pointer (some ⟨M, 0, none⟩), .int .i64 i, .int .i64 0] w fun e w' => e = .returned (.int .i64 0) ∧ (∃ cb, w.heap.size ≤ cb ∧ CX w' cb g N F ∧ MS w' M mb cr n f o (tx x i (.pointer (some ⟨cb, 0, none⟩)))) ∧ VS w' V g F ix 2 i N ∧ Trn (fun k => k = V ∨ k = o i) w w' := by
  refine (enter_with hm h i 0 (fun y z => (∃ cb, y.heap.size ≤ cb ∧ CX z cb g N F ∧ MS z M mb cr n f o (tx x i (.pointer (some ⟨cb, 0, none⟩)))) ∧ Trn (fun k => k = o i) y z) (fun y hy => put_yes (hm.below hy) h1 h2 i hi hx F R (hf.below hy) N g hg) ?_).mono ?_
  · rintro y z hy ⟨_, ht⟩
    exact (h.below hy).keep (ht.block _ (h.below hy).lt ((h.below hy).co_ne ((hm.below hy).co i hi)))
  · rintro e w' ⟨rfl, y, z, hy, ⟨⟨cb, hl, hc, hz⟩, ht⟩, _, hq⟩
    obtain ⟨hv, tv⟩ := hq rfl
    have vz : VS z V g F ix 1 co N := (h.below hy).keep (ht.block _ (h.below hy).lt ((h.below hy).co_ne ((hm.below hy).co i hi)))
    exact ⟨rfl, ⟨cb, Nat.le_trans hy.size hl, (tv.block _ (lt_of_heap hc) (ne_typ hc vz (by decide))).trans hc, hz.trnV vz tv⟩, hv, ((Trn.of_below hy).trans (ht.mono fun k _ e => .inr e)).trans (tv.mono fun k _ e => .inl e)⟩
theorem enter_arg (hm : MS w M mb cr n f o x) (h : VS w V g F ix 1 co N) (i : Int) (hi : i < 0 ∨ (n : Int) ≤ i) :
    Calls Try.prog 22 #[.pointer (some ⟨V, 0, none⟩), .pointer (some ⟨M, 0, none⟩), .int .i64 i, .int .i64 0] w fun e w' => e = .returned (.int .i64 2) ∧ Below w.heap.size w w' := by
  refine (enter_with hm h i 2 (fun y z => Below y.heap.size y z) (fun y hy => put_no (hm.below hy) i hi _) (fun y z hy hz => (h.below hy).below hz)).mono ?_
  rintro e w' ⟨rfl, y, z, hy, hz, hq, _⟩
  rw [hq (by decide)]
  exact ⟨rfl, hy.trans (hz.mono hy.size)⟩
theorem enter_there (hm : MS w M mb cr n f o x) (h : VS w V g F ix 1 co N) {R : Nat → Int} (hf : FF w F R) (h1 : 1 ≤ f) (h2 : f ≤ 65536) (hg : 0 ≤ g) (i : Nat) (hi : i < n) (cb : Nat) (hx : x i = .pointer (some ⟨cb, 0, none⟩)) :
    Calls Try.prog 22 #[.pointer (some ⟨V, 0, none⟩), .pointer (some ⟨M, 0, none⟩), .int .i64 i, .int .i64 0] w fun e w' => e = .returned (.int .i64 13) ∧ Below w.heap.size w w' := by
  refine (enter_with hm h i 13 (fun y z => Below y.heap.size y z) (fun y hy => put_there (hm.below hy) h1 h2 i hi cb hx F R (hf.below hy) N g hg) (fun y z hy hz => (h.below hy).below hz)).mono ?_
  rintro e w' ⟨rfl, y, z, hy, hz, hq, _⟩
  rw [hq (by decide)]
  exact ⟨rfl, hy.trans (hz.mono hy.size)⟩
theorem enter_e {v m : Value} {er : Int} (he : er ≠ 0) (core root : Value) (hc : Calls Try.prog 32 #[v, m, .slice (some ⟨w.heap.size, 0, none⟩) 1 1] (w.alloc (.cells #[.int .i64 1] 3)) fun e w' => e = .returned (.int .i64 er) ∧ w' = (w.alloc (.cells #[.int .i64 1] 3))) : Calls Try.prog 22 #[v, m, core, root] w fun e w' => e = .returned (.int .i64 er) ∧ Below w.heap.size w w' := by
  have bx := below_box w (.cells #[.int .i64 1] 3)
  go_enter Try.func22, Try.ntmps22
  go_wp2_with fail
  refine hc.mono ?_
  rintro e y ⟨rfl, rfl⟩
  go_wp2_with fail
  go_ret
  exact ⟨rfl, bx⟩
theorem enter_state (hm : MS w M mb cr n f o x) (h : VS w V g F ix st co N) (hs : st ≠ 1) (core root : Value) : Calls Try.prog 22 #[.pointer (some ⟨V, 0, none⟩), .pointer (some ⟨M, 0, none⟩), core, root] w fun e w' => e = .returned (.int .i64 21) ∧ Below w.heap.size w w' := by
  have C1 := check_v (hm.below (below_box w _)) (h.below (below_box w _)) (st1 w 1)
  rw [show inE (isS 1 1 0 0 st) = 21 by simp [inE, isS, hs]] at C1
  exact enter_e (by decide) core root C1
theorem enter_un (hm : MS w M mb cr n f o x) {v : Value} (h : UN w v) (core root : Value) : Calls Try.prog 22 #[v, .pointer (some ⟨M, 0, none⟩), core, root] w fun e w' => e = .returned (.int .i64 1) ∧ Below w.heap.size w w' :=
  enter_e (by decide) core root (check_un (hm.below (below_box w _)) (h.below (below_box w _)) _)
theorem enter_nil (v core root : Value) : Calls Try.prog 22 #[v, .pointer none, core, root] w fun e w' => e = .returned (.int .i64 1) ∧ Below w.heap.size w w' :=
  enter_e (by decide) core root (check_nil _ _ _)
theorem leave_e {v m : Value} {er : Int} (he : er ≠ 0) (hc : Calls Try.prog 32 #[v, m, .slice (some ⟨w.heap.size, 0, none⟩) 1 1] (w.alloc (.cells #[.int .i64 2] 3)) fun e w' => e = .returned (.int .i64 er) ∧ w' = (w.alloc (.cells #[.int .i64 2] 3))) : Calls Try.prog 17 #[v, m] w fun e w' => e = .returned (.int .i64 er) ∧ Below w.heap.size w w' := by
  have bx := below_box w (.cells #[.int .i64 2] 3)
  go_enter Try.func17, Try.ntmps17
  go_wp2_with fail
  refine hc.mono ?_
  rintro e y ⟨rfl, rfl⟩
  go_wp2_with fail
  go_ret
  exact ⟨rfl, bx⟩
theorem leave_state (hm : MS w M mb cr n f o x) (h : VS w V g F ix st co N) (hs : st ≠ 2) : Calls Try.prog 17 #[.pointer (some ⟨V, 0, none⟩), .pointer (some ⟨M, 0, none⟩)] w fun e w' => e = .returned (.int .i64 21) ∧ Below w.heap.size w w' := by
  have C1 := check_v (hm.below (below_box w _)) (h.below (below_box w _)) (st1 w 2)
  rw [show inE (isS 1 2 0 0 st) = 21 by simp [inE, isS, hs]] at C1
  exact leave_e (by decide) C1
theorem leave_un (hm : MS w M mb cr n f o x) {v : Value} (h : UN w v) : Calls Try.prog 17 #[v, .pointer (some ⟨M, 0, none⟩)] w fun e w' => e = .returned (.int .i64 1) ∧ Below w.heap.size w w' :=
  leave_e (by decide) (check_un (hm.below (below_box w _)) (h.below (below_box w _)) _)
theorem leave_nil (v : Value) : Calls Try.prog 17 #[v, .pointer none] w fun e w' => e = .returned (.int .i64 1) ∧ Below w.heap.size w w' :=
  leave_e (by decide) (check_nil _ _ _)
theorem eq_file (d F : Nat) (w : World) : (Op.equalIn (d + 1) 54 (.pointer (some ⟨F, 0, none⟩)) (.pointer (some ⟨F, 0, none⟩))).run Try.prog w = .ok true w := by
  simp [Op.equalIn, run_underlying Try.underlying54, run_sameAddr_same]
theorem ne_file (d : Nat) {F F' : Nat} {R R' : Nat → Int} {w : World} (h : FF w F R) (h' : FF w F' R') (hn : F ≠ F') : (Op.equalIn (d + 1) 54 (.pointer (some ⟨F, 0, none⟩)) (.pointer (some ⟨F', 0, none⟩))).run Try.prog w = .ok false w := by
  obtain ⟨cs, h1, _⟩ := h.blk
  obtain ⟨cs', h1', _⟩ := h'.blk
  simp [Op.equalIn, run_underlying Try.underlying54, run_sameAddr_other (P := Try.prog) w (a := ⟨F, 0, none⟩) (b := ⟨F', 0, none⟩) (fun e => hn (by cases e; rfl)) h1 h1']
set_option maxHeartbeats 1600000 in
theorem leave_foreign (hm : MS w M mb cr n f o x) (i : Nat) (hi : i < n) (cb : Nat) (hx : x i = .pointer (some ⟨cb, 0, none⟩)) {N' : Nat → Int} {F' : Nat} (hc : CX w cb g N' F') (hF : F ≠ F') {R R' : Nat → Int} (f1 : FF w F R) (f2 : FF w F' R') (h : VS w V g F ix 2 i N) : Calls Try.prog 17 #[.pointer (some ⟨V, 0, none⟩), .pointer (some ⟨M, 0, none⟩)] w fun e w' => e = .returned (.int .i64 14) ∧ Below w.heap.size w w' := by
  obtain ⟨y0, hy0⟩ : ∃ y0, w.alloc (.cells #[.int .i64 2] 3) = y0 := ⟨_, rfl⟩
  have b0 : Below w.heap.size w y0 := by rw [← hy0]; exact below_box _ _
  have s0 : ST y0 w.heap.size 1 2 0 0 := by rw [← hy0]; exact st1 w 2
  have h0 := h.below b0
  have C1 := check_v (hm.below b0) h0 s0
  rw [show inE (isS 1 2 0 0 2) = 0 by decide] at C1
  have C2 := get_yes (hm.below b0) i hi cb hx g N' F' (keepB hc b0)
  have c4 := h0.c4
  have hl := h0.lt
  have HV : Hid (VS y0 V g F ix 2 i N) := h0
  have HB : Hid (_) := b0
  have HF0 : Hid (FF y0 F R ∧ FF y0 F' R') := ⟨f1.below b0, f2.below b0⟩
  clear hm h s0 b0 h0 hc f1 f2
  go_enter Try.func17, Try.ntmps17
  go_wp2_with fail
  clear hy0
  refine C1.mono ?_
  rintro e y0 ⟨rfl, rfl⟩
  clear C1
  go_wp2_with fail
  refine C2.mono ?_
  rintro e z ⟨rfl, hz⟩
  clear C2
  obtain ⟨v, hv⟩ : ∃ v, z.alloc (.cells zeroCtx 68) = v := ⟨_, rfl⟩
  have bv : Below z.heap.size z v := by rw [← hv]; exact below_box _ _
  have m0 : v.heap[z.heap.size]? = some (.cells zeroCtx 68 (0, 0)) := by rw [← hv]; exact heap_alloc_at _ _
  have m1 : (v.setRow z.heap.size (ctxA g N' F' 0)).heap[z.heap.size]? = some (.cells (ctxA g N' F' 0) 68 (0, 0)) := setRow_heap _ _ _ _ _ _ m0
  have bu : Below z.heap.size v (v.setRow z.heap.size (ctxA g N' F' 0)) := below_setRow' _ _ (Nat.le_refl _) _
  obtain ⟨u, hu⟩ : ∃ u, v.setRow z.heap.size (ctxA g N' F' 0) = u := ⟨_, rfl⟩
  rw [hu] at m1 bu
  have zu := bv.trans bu
  have HM0 : Hid (_) := m0
  have k0 : u.cell? ⟨z.heap.size, 0, none⟩ = some (.int .i64 g) := (cell_at m1 0).trans rfl
  have k19 : u.cell? ⟨z.heap.size, 19, none⟩ = some (.pointer (some ⟨F', 0, none⟩)) := (cell_at m1 19).trans rfl
  have kl := lt_of_heap m1
  have hv2 := (HV.out.below hz).below zu
  have v0 := hv2.c0
  have v1 := hv2.c1
  have vl := hv2.lt
  have HB2 : Hid (Below w.heap.size w u) := HB.out.trans ((hz.trans (zu.mono hz.size)).mono HB.out.size)
  have HFF : Hid (FF u.drew F R ∧ FF u.drew F' R') := ⟨(HF0.out.1.below hz).below zu.drew, (HF0.out.2.below hz).below zu.drew⟩
  clear HF0 m0 m1 bu zu bv HB hv2 HV hz c4 hl
  unfold zeroCtx at hv
  go_wp2_with (first
    | refine wpList_store_row rfl 68 _ _ rfl z.heap.size (ctxA g N' F' 0) rfl rfl 68 zeroCtx HM0.out inf68 rfl (ctxA_one _ _ _ _) ?_
    | fail)
  clear hv hu
  have EP := ne_file 9998 HFF.out.1 HFF.out.2 hF
  rw [show (9998 + 1 : Nat) = 9999 from rfl] at EP
  go_region
  go_wp2_with fail
  go_ret
  exact ⟨rfl, HB2.out.drew⟩
set_option maxHeartbeats 1600000 in
theorem leave_own (hm : MS w M mb cr n f o x) (i : Nat) (hi : i < n) (cb : Nat) (hx : x i = .pointer (some ⟨cb, 0, none⟩)) {N' : Nat → Int} (hN : W18 N') (hc : CX w cb g N' F) (h : VS w V g F ix 2 i N) : Calls Try.prog 17 #[.pointer (some ⟨V, 0, none⟩), .pointer (some ⟨M, 0, none⟩)] w fun e w' => e = .returned (.int .i64 0) ∧ MS w' M mb cr n f o (tx x i (.pointer none)) ∧ VS w' V g F ix 1 (-1) N' ∧ Trn (fun k => k = V ∨ k = o i) w w' := by
  obtain ⟨y0, hy0⟩ : ∃ y0, w.alloc (.cells #[.int .i64 2] 3) = y0 := ⟨_, rfl⟩
  have b0 : Below w.heap.size w y0 := by rw [← hy0]; exact below_box _ _
  have s0 : ST y0 w.heap.size 1 2 0 0 := by rw [← hy0]; exact st1 w 2
  have h0 := h.below b0
  have C1 := check_v (hm.below b0) h0 s0
  rw [show inE (isS 1 2 0 0 2) = 0 by decide] at C1
  have C2 := get_yes (hm.below b0) i hi cb hx g N' F (keepB hc b0)
  have c4 := h0.c4
  have hl := h0.lt
  have HV : Hid (VS y0 V g F ix 2 i N) := h0
  have HB : Hid (_) := b0
  have HM : Hid (MS y0 M mb cr n f o x) := hm.below b0
  have HC : Hid (CX y0 cb g N' F) := keepB hc b0
  have PK := packed_any N' hN
  clear hm h s0 b0 h0 hc
  go_enter Try.func17, Try.ntmps17
  go_wp2_with fail
  clear hy0
  refine C1.mono ?_
  rintro e y0 ⟨rfl, rfl⟩
  clear C1
  go_wp2_with fail
  refine C2.mono ?_
  rintro e z ⟨rfl, hz⟩
  clear C2
  obtain ⟨v, hv⟩ : ∃ v, z.alloc (.cells zeroCtx 68) = v := ⟨_, rfl⟩
  have bv : Below z.heap.size z v := by rw [← hv]; exact below_box _ _
  have m0 : v.heap[z.heap.size]? = some (.cells zeroCtx 68 (0, 0)) := by rw [← hv]; exact heap_alloc_at _ _
  have m1 : (v.setRow z.heap.size (ctxA g N' F 0)).heap[z.heap.size]? = some (.cells (ctxA g N' F 0) 68 (0, 0)) := setRow_heap _ _ _ _ _ _ m0
  have bu : Below z.heap.size v (v.setRow z.heap.size (ctxA g N' F 0)) := below_setRow' _ _ (Nat.le_refl _) _
  obtain ⟨u, hu⟩ : ∃ u, v.setRow z.heap.size (ctxA g N' F 0) = u := ⟨_, rfl⟩
  rw [hu] at m1 bu
  have zu := bv.trans bu
  have HM0 : Hid (_) := m0
  have k0 : u.cell? ⟨z.heap.size, 0, none⟩ = some (.int .i64 g) := (cell_at m1 0).trans rfl
  have k19 : u.cell? ⟨z.heap.size, 19, none⟩ = some (.pointer (some ⟨F, 0, none⟩)) := (cell_at m1 19).trans rfl
  have kl := lt_of_heap m1
  have hv2 := (HV.out.below hz).below zu
  have v0 := hv2.c0
  have v1 := hv2.c1
  have vl := hv2.lt
  have HB2 : Hid (Below w.heap.size w u) := HB.out.trans ((hz.trans (zu.mono hz.size)).mono HB.out.size)
  have HU : Hid (MS u.drew M mb cr n f o x ∧ CX u.drew cb g N' F ∧ VS u.drew V g F ix 2 i N) := ⟨(HM.out.below hz).below zu.drew, keepB (keepB HC.out hz) zu.drew, hv2⟩
  clear m0 m1 bu zu bv HB hv2 HV hz c4 hl HM HC
  unfold zeroCtx at hv
  go_wp2_with (first
    | refine wpList_store_row rfl 68 _ _ rfl z.heap.size (ctxA g N' F 0) rfl rfl 68 zeroCtx HM0.out inf68 rfl (ctxA_one _ _ _ _) ?_
    | fail)
  clear hv hu
  have EP := eq_file 9998 F u.drew
  rw [show (9998 + 1 : Nat) = 9999 from rfl] at EP
  have CT := take_yes (w := u.drew) HU.out.1 i hi cb hx g N' F HU.out.2.1
  have u4 : u.drew.cell? ⟨V, 4, none⟩ = some (.int .i64 i) := HU.out.2.2.c4
  go_region
  clear EP k0 k19
  go_wp2_with fail
  refine CT.mono ?_
  rintro e q ⟨rfl, mq, tq⟩
  have vq : VS q V g F ix 2 i N := VS.keep (w := u.drew) HU.out.2.2 (tq.block _ (VS.lt (w := u.drew) HU.out.2.2) (VS.co_ne (w := u.drew) HU.out.2.2 (HU.out.1.co i hi)))
  have HQ : Hid (MS q M mb cr n f o (tx x i (.pointer none)) ∧ VS q V g F ix 2 i N ∧ Trn (fun k => k = V ∨ k = o i) w q) := ⟨mq, vq, (Trn.of_below HB2.out.drew).trans (tq.mono fun k _ e => .inr e)⟩
  clear CT HB2 HU mq tq vq u4 v0 v1 vl kl
  obtain ⟨a, ha⟩ : ∃ a, q.alloc (.cells zeroCtx 68) = a := ⟨_, rfl⟩
  have ba : Below q.heap.size q a := by rw [← ha]; exact below_box _ _
  have a0 : a.heap[q.heap.size]? = some (.cells zeroCtx 68 (0, 0)) := by rw [← ha]; exact heap_alloc_at _ _
  obtain ⟨b, hb⟩ : ∃ b, a.setRow q.heap.size (ctxA g N' F 0) = b := ⟨_, rfl⟩
  have a1 : b.heap[q.heap.size]? = some (.cells (ctxA g N' F 0) 68 (0, 0)) := by rw [← hb]; exact setRow_heap _ _ _ _ _ _ a0
  have bb : Below q.heap.size a b := by rw [← hb]; exact below_setRow' _ _ (Nat.le_refl _) _
  have qb := ba.trans bb
  have HA0 : Hid (_) := a0
  have HR : Hid (_) := ctx_rg a1
  have HQB : Hid (Below q.heap.size q b) := qb
  have C3 := PK b
  clear a0 a1 ba bb qb PK
  unfold zeroCtx at ha
  go_wp2_with (first
    | refine wpList_store_row rfl 68 _ _ rfl q.heap.size (ctxA g N' F 0) rfl rfl 68 zeroCtx HA0.out inf68 rfl (ctxA_one _ _ _ _) ?_
    | refine wpList_load_mid rfl 40 _ rfl q.heap.size 1 rfl (upA N').toList _ HR.out Try.underlying40 rfl inf25 ?_
    | fail)
  clear ha hb
  refine C3.mono ?_
  rintro e c ⟨rfl, hc3⟩
  have qc := HQB.out.trans (hc3.mono HQB.out.size)
  have vc := HQ.out.2.1.below qc
  have mc := HQ.out.1.below qc
  have tc : Trn (fun k => k = V ∨ k = o i) w c := HQ.out.2.2.trans (.of_below qc)
  obtain ⟨vd, td⟩ := vc.wr N'
  obtain ⟨d, hd⟩ : ∃ d, c.setCells V 5 (nvA N').toList = d := ⟨_, rfl⟩
  rw [hd] at vd td
  have d3 := vd.c3
  have d4 := vd.c4
  have f3 := fz_at vd 3
  have f4 := fz_at vd 4
  have dl := vd.lt
  have cl := vc.lt
  have HT : Hid (_) := vc.th
  have e1 := vd.setS 1
  have e2 := e1.1.setC (-1)
  have HF : Hid (MS ((d.setCell ⟨V, 3, none⟩ (.int .i64 1)).setCell ⟨V, 4, none⟩ (.int .i64 (-1))) M mb cr n f o (tx x i (.pointer none)) ∧ VS ((d.setCell ⟨V, 3, none⟩ (.int .i64 1)).setCell ⟨V, 4, none⟩ (.int .i64 (-1))) V g F ix 1 (-1) N' ∧ Trn (fun k => k = V ∨ k = o i) w ((d.setCell ⟨V, 3, none⟩ (.int .i64 1)).setCell ⟨V, 4, none⟩ (.int .i64 (-1)))) := by
    have t3 := (td.trans e1.2).trans e2.2
    exact ⟨mc.trnV vc t3, e2.1, tc.trans (t3.mono fun k _ e => .inl e)⟩
  clear C3 hc3 qc vc mc tc vd td e1 e2 HQB HQ HR HA0
  go_wp2_with (first
    | refine wpList_store_mid rfl 58 _ _ rfl V 5 (nvA N') rfl rfl HT.out inf58 (nvA_one _) ?_
    | fail)
  go_ret
  exact ⟨rfl, HF.out⟩
end
end Go.Proofs.Ytjkaeclemflifaa
