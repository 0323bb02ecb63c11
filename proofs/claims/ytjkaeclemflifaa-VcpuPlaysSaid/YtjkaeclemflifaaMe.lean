/-
  A machine's calls: Put, Get, Take.
-/
import Derived.Test.YtjkaeclemflifaaMd
namespace Go.Proofs.Ytjkaeclemflifaa
open Go.RowKit
set_option linter.unusedVariables false
set_option maxRecDepth 100000
/-- a context in the heap -/
def CX (w : World) (cb : Nat) (g : Int) (N : Nat → Int) (F : Nat) : Prop := w.heap[cb]? = some (.cells (ctxA g N F 0) 68 (0, 0))
theorem Trn.row {S : Nat → Prop} {w z : World} (h : Trn S w z) {b : Nat} (hb : w.heap.size ≤ b) (cs : Array Value) : Trn S w (z.setRow b cs) :=
  ⟨h.os, h.tape, h.output, by have := h.size; simpa [World.setRow] using this, fun k hk hs => (setRow_other _ _ _ _ (by omega)).trans (h.block k hk hs)⟩
section
variable {w w' : World} {M mb cr n f : Nat} {o : Nat → Nat} {x : Nat → Value}
/-- one core's context is turned -/
def tx (x : Nat → Value) (i : Nat) (v : Value) : Nat → Value := fun k => if k = i then v else x k
theorem put_no (h : MS w M mb cr n f o x) (i : Int) (hi : i < 0 ∨ (n : Int) ≤ i) (cs : Array Value) : Calls Try.prog 37 #[.pointer (some ⟨M, 0, none⟩), .int .i64 i, .agg cs] w fun e w' => e = .returned (.int .i64 2) ∧ Below w.heap.size w w' := by
  have b0 : Below w.heap.size w (w.alloc (.cells cs 68)) := below_box _ _
  have C1 := of_no (h.below b0) i hi
  clear h
  go_enter Try.func37, Try.ntmps37
  go_wp2_with fail
  refine C1.mono ?_
  rintro e y ⟨rfl, rfl⟩
  go_wp2_with fail
  go_ret
  exact ⟨rfl, b0⟩
set_option maxHeartbeats 3200000 in
theorem put_there (h : MS w M mb cr n f o x) (h1 : 1 ≤ f) (h2 : f ≤ 65536) (i : Nat) (hi : i < n) (cb : Nat) (hx : x i = .pointer (some ⟨cb, 0, none⟩)) (F : Nat) (R : Nat → Int) (hf : FF w F R) (N : Nat → Int) (g : Int) (hg : 0 ≤ g) :
    Calls Try.prog 37 #[.pointer (some ⟨M, 0, none⟩), .int .i64 i, .agg (ctxA g N F 0)] w fun e w' => e = .returned (.int .i64 13) ∧ Below w.heap.size w w' := by
  have b0 : Below w.heap.size w (w.alloc (.cells (ctxA g N F 0) 68)) := below_box _ _
  have n0 := heap_alloc_at w (.cells (ctxA g N F 0) 68)
  have h0 := h.below b0
  have C1 := of_m h0 i hi
  have C2 := mayHave_m h0 h1 h2 F R (hf.below b0) N g hg
  have HN : Hid (_) := n0
  have HB : Hid (_) := b0
  have HM : Hid (_) := h0
  clear h hf b0 n0 h0
  go_enter Try.func37, Try.ntmps37
  go_wp2_with fail
  generalize w.alloc (.cells _ 68) = y at *
  refine C1.mono ?_
  rintro e y1 ⟨rfl, rfl⟩
  clear C1
  go_wp2_with (first
    | refine wpList_load_row rfl 68 _ rfl w.heap.size rfl 68 _ (0, 0) _ HN.out Try.underlying68 rfl inf68 ?_
    | fail)
  refine C2.mono ?_
  rintro e z ⟨rfl, hb⟩
  have hm := HM.out.below hb
  have c2 := (hm.co i hi).c2
  rw [hx] at c2
  have ol := (hm.co i hi).lt
  have HZ : Hid (Below w.heap.size w z) := HB.out.trans (hb.mono HB.out.size)
  clear C2 hb hm HM HB HN
  go_wp2_with fail
  go_ret
  exact ⟨rfl, HZ.out⟩
set_option maxHeartbeats 3200000 in
theorem put_yes (h : MS w M mb cr n f o x) (h1 : 1 ≤ f) (h2 : f ≤ 65536) (i : Nat) (hi : i < n) (hx : x i = .pointer none) (F : Nat) (R : Nat → Int) (hf : FF w F R) (N : Nat → Int) (g : Int) (hg : 0 ≤ g) :
    Calls Try.prog 37 #[.pointer (some ⟨M, 0, none⟩), .int .i64 i, .agg (ctxA g N F 0)] w fun e w' => e = .returned (.int .i64 0) ∧ (∃ cb, w.heap.size ≤ cb ∧ CX w' cb g N F ∧ MS w' M mb cr n f o (tx x i (.pointer (some ⟨cb, 0, none⟩)))) ∧ Trn (fun k => k = o i) w w' := by
  have b0 : Below w.heap.size w (w.alloc (.cells (ctxA g N F 0) 68)) := below_box _ _
  have n0 := heap_alloc_at w (.cells (ctxA g N F 0) 68)
  have h0 := h.below b0
  have C1 := of_m h0 i hi
  have C2 := mayHave_m h0 h1 h2 F R (hf.below b0) N g hg
  have HN : Hid (_) := n0
  have HB : Hid (_) := b0
  have HM : Hid (_) := h0
  clear h hf b0 n0 h0
  go_enter Try.func37, Try.ntmps37
  go_wp2_with fail
  generalize w.alloc (.cells _ 68) = y at *
  refine C1.mono ?_
  rintro e y1 ⟨rfl, rfl⟩
  clear C1
  go_wp2_with (first
    | refine wpList_load_row rfl 68 _ rfl w.heap.size rfl 68 _ (0, 0) _ HN.out Try.underlying68 rfl inf68 ?_
    | fail)
  refine C2.mono ?_
  rintro e z ⟨rfl, hb⟩
  have hm := HM.out.below hb
  have co := hm.co i hi
  have c2 := co.c2
  rw [hx] at c2
  have ol := co.lt
  have f2 := co.fz 2
  have HZ : Hid (Below w.heap.size w z) := HB.out.trans (hb.mono HB.out.size)
  have HM2 : Hid (_) := hm
  have HX : Hid (_) := keepB HN.out hb
  have HC : Hid (_) := co.set (.pointer (some ⟨w.heap.size, 0, none⟩))
  have CL : Hid (_) := letGo_co HC.out.1
  clear C2 hb hm HM HB HN co
  go_wp2_with fail
  refine Calls.mono CL.out ?_
  rintro e v ⟨rfl, cz, tz⟩
  have HF : Hid ((∃ cb, w.heap.size ≤ cb ∧ CX v cb g N F ∧ MS v M mb cr n f o (tx x i (.pointer (some ⟨cb, 0, none⟩)))) ∧ Trn (fun k => k = o i) w v) := by
    have t := HC.out.2.trans tz
    obtain ⟨cs, hcs⟩ := (HM2.out.co i hi).ob
    exact ⟨⟨w.heap.size, Nat.le_refl _, (t.block _ (lt_of_heap HX.out) (ne_typ HX.out hcs (by decide))).trans HX.out, HM2.out.turn hi cz t⟩, (Trn.of_below HZ.out).trans t⟩
  clear CL HC cz tz HX HM2 HZ c2 ol f2
  go_wp2_with fail
  go_ret
  exact ⟨rfl, HF.out⟩
theorem results_cell_row2 {P : Program} {fn : Func} {p u : Tmp} {ty : TypeId} (h : fn.results = #[.cell p ty, .tmp u]) (tmps : Array Value) (w : World) (g : Nat) (t : TypeId) (cs : Array Value) (fr : Nat × Nat) (d : TypeDesc)
    (hp : tmps.getD p undef = .pointer (some ⟨g, 0, none⟩)) (hg : w.heap[g]? = some (.cells cs t fr))
    (hu : P.underlying ty = some d) (hd : (match d with | .struct _ | .array _ _ => true | _ => false) = true) (hi : (P.info? ty).map (·.size) = some cs.size) :
    (results fn tmps).run P w = .ok (.tuple #[.agg cs, tmps.getD u undef]) w := by
  rw [results_cell_tmp h, hp]
  simp [asAddr, run_loadVar_row w g t ty cs fr d hg hu hd hi]
set_option maxHeartbeats 1600000 in
theorem get_yes (h : MS w M mb cr n f o x) (i : Nat) (hi : i < n) (cb : Nat) (hx : x i = .pointer (some ⟨cb, 0, none⟩)) (g : Int) (N : Nat → Int) (F : Nat) (hc : CX w cb g N F) :
    Calls Try.prog 26 #[.pointer (some ⟨M, 0, none⟩), .int .i64 i] w fun e w' => e = .returned (.tuple #[.agg (ctxA g N F 0), .bool true]) ∧ Below w.heap.size w w' := by
  obtain ⟨y, hy⟩ : ∃ y, w.alloc (.cells zeroCtx 68) = y := ⟨_, rfl⟩
  have b0 : Below w.heap.size w y := by rw [← hy]; exact below_box _ _
  have n0 : y.heap[w.heap.size]? = some (.cells zeroCtx 68 (0, 0)) := by rw [← hy]; exact heap_alloc_at _ _
  have h0 := h.below b0
  have C1 := running_yes h0 i hi cb hx
  have c2 := (h0.co i hi).c2
  rw [hx] at c2
  have ol := (h0.co i hi).lt
  have HC : Hid (_) := keepB hc b0
  have cl := lt_of_heap HC.out
  have HN : Hid (_) := n0
  have HB : Hid (_) := b0
  clear h hc b0 n0 h0
  unfold zeroCtx at hy
  go_enter Try.func26, Try.ntmps26
  go_wp2_with fail
  clear hy
  refine C1.mono ?_
  rintro e y1 ⟨rfl, rfl⟩
  clear C1
  go_wp2_with (first
    | refine wpList_load_row rfl 68 _ rfl cb rfl 68 _ (0, 0) _ HC.out Try.underlying68 rfl inf68 ?_
    | refine wpList_store_row rfl 68 _ _ rfl w.heap.size (ctxA g N F 0) rfl rfl 68 zeroCtx HN.out inf68 rfl (ctxA_one _ _ _ _) ?_
    | fail)
  refine bodyPost_ret (v := _) (results_cell_row2 Try.results26 _ _ _ _ _ _ _ rfl (setRow_heap _ _ _ _ _ _ HN.out) Try.underlying68 rfl inf68) rfl ⟨rfl, HB.out.trans (below_setRow' _ _ (Nat.le_refl _) _)⟩
set_option maxHeartbeats 1600000 in
theorem get_none (h : MS w M mb cr n f o x) (i : Nat) (hi : i < n) (hx : x i = .pointer none) :
    Calls Try.prog 26 #[.pointer (some ⟨M, 0, none⟩), .int .i64 i] w fun e w' => e = .returned (.tuple #[.agg zeroCtx, .bool false]) ∧ Below w.heap.size w w' := by
  obtain ⟨y, hy⟩ : ∃ y, w.alloc (.cells zeroCtx 68) = y := ⟨_, rfl⟩
  have b0 : Below w.heap.size w y := by rw [← hy]; exact below_box _ _
  have n0 : y.heap[w.heap.size]? = some (.cells zeroCtx 68 (0, 0)) := by rw [← hy]; exact heap_alloc_at _ _
  have h0 := h.below b0
  have C1 := running_none h0 i hi hx
  have HN : Hid (_) := n0
  have HB : Hid (_) := b0
  clear h b0 n0 h0
  unfold zeroCtx at hy
  go_enter Try.func26, Try.ntmps26
  go_wp2_with fail
  clear hy
  refine C1.mono ?_
  rintro e y1 ⟨rfl, rfl⟩
  clear C1
  go_wp2_with (first
    | refine wpList_store_row rfl 68 _ _ rfl w.heap.size zeroCtx rfl rfl 68 zeroCtx HN.out inf68 rfl zeroCtx_one ?_
    | fail)
  refine bodyPost_ret (v := _) (results_cell_row2 Try.results26 _ _ _ _ _ _ _ rfl (setRow_heap _ _ _ _ _ _ HN.out) Try.underlying68 rfl inf68) rfl ⟨rfl, HB.out.trans (below_setRow' _ _ (Nat.le_refl _) _)⟩
set_option maxHeartbeats 3200000 in
theorem take_yes (h : MS w M mb cr n f o x) (i : Nat) (hi : i < n) (cb : Nat) (hx : x i = .pointer (some ⟨cb, 0, none⟩)) (g : Int) (N : Nat → Int) (F : Nat) (hc : CX w cb g N F) :
    Calls Try.prog 33 #[.pointer (some ⟨M, 0, none⟩), .int .i64 i] w fun e w' => e = .returned (.tuple #[.agg (ctxA g N F 0), .int .i64 0]) ∧ MS w' M mb cr n f o (tx x i (.pointer none)) ∧ Trn (fun k => k = o i) w w' := by
  obtain ⟨y, hy⟩ : ∃ y, w.alloc (.cells zeroCtx 68) = y := ⟨_, rfl⟩
  have b0 : Below w.heap.size w y := by rw [← hy]; exact below_box _ _
  have n0 : y.heap[w.heap.size]? = some (.cells zeroCtx 68 (0, 0)) := by rw [← hy]; exact heap_alloc_at _ _
  have h0 := h.below b0
  have C1 := running_yes h0 i hi cb hx
  have c2 := (h0.co i hi).c2
  rw [hx] at c2
  have ol := (h0.co i hi).lt
  have HC : Hid (_) := keepB hc b0
  have cl := lt_of_heap HC.out
  obtain ⟨v, hv⟩ : ∃ v, y.alloc (.cells zeroCtx 68) = v := ⟨_, rfl⟩
  have bv : Below y.heap.size y v := by rw [← hv]; exact below_box _ _
  have m0 : v.heap[y.heap.size]? = some (.cells zeroCtx 68 (0, 0)) := by rw [← hv]; exact heap_alloc_at _ _
  obtain ⟨u, hu⟩ : ∃ u, v.setRow y.heap.size (ctxA g N F 0) = u := ⟨_, rfl⟩
  have bu : Below y.heap.size v u := by rw [← hu]; exact below_setRow' _ _ (Nat.le_refl _) _
  have m1 : u.heap[y.heap.size]? = some (.cells (ctxA g N F 0) 68 (0, 0)) := by rw [← hu]; exact setRow_heap _ _ _ _ _ _ m0
  have byu := bv.trans bu
  have hm := h0.below byu
  have co := hm.co i hi
  have cu := co.c2
  rw [hx] at cu
  have fu := co.fz 2
  have ou := co.lt
  have n1 := keepB n0 byu
  have HCo : Hid (_) := co.set (.pointer none)
  have CL : Hid (_) := letGo_co HCo.out.1
  have HM : Hid (_) := hm
  have HN : Hid (_) := n1
  have HM0 : Hid (_) := m0
  have HM1 : Hid (_) := m1
  have HB : Hid (Below w.heap.size w u) := b0.trans (byu.mono b0.size)
  clear h hc b0 n0 h0 co hm n1 m0 m1 byu bu bv
  unfold zeroCtx at hy hv
  go_enter Try.func33, Try.ntmps33
  go_wp2_with fail
  clear hy
  refine C1.mono ?_
  rintro e y1 ⟨rfl, rfl⟩
  clear C1
  go_wp2_with (first
    | refine wpList_load_row rfl 68 _ rfl cb rfl 68 _ (0, 0) _ HC.out Try.underlying68 rfl inf68 ?_
    | refine wpList_store_row rfl 68 _ _ rfl y1.heap.size (ctxA g N F 0) rfl rfl 68 zeroCtx HM0.out inf68 rfl (ctxA_one _ _ _ _) ?_
    | fail)
  clear hv hu
  refine Calls.mono CL.out ?_
  rintro e z ⟨rfl, cz, tz⟩
  have t := HCo.out.2.trans tz
  obtain ⟨cs, hcs⟩ := (HM.out.co i hi).ob
  have HZ : Hid (MS z M mb cr n f o (tx x i (.pointer none)) ∧ Trn (fun k => k = o i) w z) := ⟨HM.out.turn hi cz t, (Trn.of_below HB.out).trans t⟩
  have HZ0 : Hid (_) := (t.block _ (lt_of_heap HN.out) (ne_typ HN.out hcs (by decide))).trans HN.out
  have HZ1 : Hid (_) := (t.block _ (lt_of_heap HM1.out) (ne_typ HM1.out hcs (by decide))).trans HM1.out
  clear t hcs tz cz CL HCo HM HN HM0 HM1 HB HC
  go_wp2_with (first
    | refine wpList_load_row rfl 68 _ rfl y1.heap.size rfl 68 _ (0, 0) _ HZ1.out Try.underlying68 rfl inf68 ?_
    | refine wpList_store_row rfl 68 _ _ rfl w.heap.size (ctxA g N F 0) rfl rfl 68 zeroCtx HZ0.out inf68 rfl (ctxA_one _ _ _ _) ?_
    | fail)
  have lw := lt_of_heap HZ0.out
  refine bodyPost_ret (v := _) (results_cell_row2 Try.results33 _ _ _ _ _ _ _ rfl (setRow_heap _ _ _ _ _ _ HZ0.out) Try.underlying68 rfl inf68) rfl ⟨rfl, HZ.out.1.keep fun k hk ho => setRow_other _ _ k _ fun e => HZ.out.1.apart HZ0.out (by decide) (by decide) (by decide) (by decide) (e ▸ ho), HZ.out.2.row (Nat.le_refl _) _⟩
end
end Go.Proofs.Ytjkaeclemflifaa
