/-
  A virtual processor: SetRegs, Image, Load.
-/
import Derived.Test.YtjkaeclemflifaaVf
namespace Go.Proofs.Ytjkaeclemflifaa
open Go.RowKit
set_option linter.unusedVariables false
set_option maxRecDepth 100000
section
variable {w w' : World} {V F : Nat} {g ix st co : Int} {N : Nat → Int} {M mb cr n f : Nat} {o : Nat → Nat} {x : Nat → Value}
theorem setregs_e {v m : Value} {er : Int} (he : er ≠ 0) (cs : Array Value) (hc : Calls Try.prog 32 #[v, m, .slice (some ⟨w.heap.size + 1, 0, none⟩) 3 3] ((w.alloc (.cells cs 40)).alloc (.cells #[.int .i64 1, .int .i64 3, .int .i64 4] 3)) fun e w' => e = .returned (.int .i64 er) ∧ w' = ((w.alloc (.cells cs 40)).alloc (.cells #[.int .i64 1, .int .i64 3, .int .i64 4] 3))) : Calls Try.prog 18 #[v, m, .agg cs] w fun e w' => e = .returned (.int .i64 er) ∧ Below w.heap.size w w' := by
  have bx : Below w.heap.size w ((w.alloc (.cells cs 40)).alloc (.cells #[.int .i64 1, .int .i64 3, .int .i64 4] 3)) := ((Below.refl _ _).alloc (Nat.le_refl _) _).alloc (by simp) _
  go_enter Try.func18, Try.ntmps18
  go_wp2_with fail
  refine hc.mono ?_
  rintro e y ⟨rfl, rfl⟩
  go_wp2_with fail
  go_ret
  exact ⟨rfl, bx⟩
theorem st3' (w : World) (cs : Array Value) : ST ((w.alloc (.cells cs 40)).alloc (.cells #[.int .i64 1, .int .i64 3, .int .i64 4] 3)) (w.heap.size + 1) 3 1 3 4 := by
  have := st3 (w.alloc (.cells cs 40)) 1 3 4
  simpa using this
theorem setregs_state (hm : MS w M mb cr n f o x) (h : VS w V g F ix 2 co N) (cs : Array Value) : Calls Try.prog 18 #[.pointer (some ⟨V, 0, none⟩), .pointer (some ⟨M, 0, none⟩), .agg cs] w fun e w' => e = .returned (.int .i64 21) ∧ Below w.heap.size w w' := by
  have bx : Below w.heap.size w ((w.alloc (.cells cs 40)).alloc (.cells #[.int .i64 1, .int .i64 3, .int .i64 4] 3)) := ((Below.refl _ _).alloc (Nat.le_refl _) _).alloc (by simp) _
  have C1 := check_v (hm.below bx) (h.below bx) (st3' w cs)
  rw [show inE (isS 3 1 3 4 2) = 21 by decide] at C1
  exact setregs_e (by decide) cs C1
theorem setregs_un (hm : MS w M mb cr n f o x) {v : Value} (h : UN w v) (cs : Array Value) : Calls Try.prog 18 #[v, .pointer (some ⟨M, 0, none⟩), .agg cs] w fun e w' => e = .returned (.int .i64 1) ∧ Below w.heap.size w w' := by
  have bx : Below w.heap.size w ((w.alloc (.cells cs 40)).alloc (.cells #[.int .i64 1, .int .i64 3, .int .i64 4] 3)) := ((Below.refl _ _).alloc (Nat.le_refl _) _).alloc (by simp) _
  exact setregs_e (by decide) cs (check_un (hm.below bx) (h.below bx) _)
set_option maxHeartbeats 1600000 in
theorem setregs_yes (hm : MS w M mb cr n f o x) (h : VS w V g F ix st co N) (hs : isS 3 1 3 4 st = true) (N' : Nat → Int) (hN : W18 N') : Calls Try.prog 18 #[.pointer (some ⟨V, 0, none⟩), .pointer (some ⟨M, 0, none⟩), .agg (upA N')] w fun e w' => e = .returned (.int .i64 0) ∧ VS w' V g F ix st co (al N') ∧ Trn (fun k => k = V) w w' := by
  obtain ⟨y, hy⟩ : ∃ y, (w.alloc (.cells (upA N') 40)).alloc (.cells #[.int .i64 1, .int .i64 3, .int .i64 4] 3) = y := ⟨_, rfl⟩
  have b0 : Below w.heap.size w y := by rw [← hy]; exact ((Below.refl _ _).alloc (Nat.le_refl _) _).alloc (by simp) _
  have a0 : y.heap[w.heap.size]? = some (.cells (upA N') 40 (0, 0)) := by rw [← hy, heap_alloc_past _ _ (by simp)]; exact heap_alloc_at _ _
  have s0 : ST y (w.heap.size + 1) 3 1 3 4 := by rw [← hy]; exact st3' w _
  have h0 := h.below b0
  have C1 := check_v (hm.below b0) h0 s0
  rw [hs, show inE true = 0 by decide] at C1
  have C2 := packed_any N' hN y
  have C3 := allowed_any N'
  have HA : Hid (_) := a0
  have HV : Hid (VS y V g F ix st co N) := h0
  have HB : Hid (_) := b0
  clear hm h s0 a0 b0 h0
  go_enter Try.func18, Try.ntmps18
  go_wp2_with fail
  clear hy
  refine C1.mono ?_
  rintro e y ⟨rfl, rfl⟩
  clear C1
  go_wp2_with (first
    | refine wpList_load_row rfl 40 _ rfl w.heap.size rfl 40 _ (0, 0) _ HA.out Try.underlying40 rfl inf25 ?_
    | fail)
  refine C2.mono ?_
  rintro e z ⟨rfl, hz⟩
  clear C2
  have C4 := C3 z
  clear C3
  go_wp2_with fail
  refine C4.mono ?_
  rintro e u ⟨rfl, hu⟩
  clear C4
  have zu := hz.trans (hu.mono hz.size)
  have vu := HV.out.below zu
  have HT : Hid (_) := vu.th
  have vl := vu.lt
  have HF : Hid (VS (u.setCells V 5 (nvA (al N')).toList) V g F ix st co (al N') ∧ Trn (fun k => k = V) w (u.setCells V 5 (nvA (al N')).toList)) := ⟨(vu.wr _).1, ((Trn.of_below HB.out).trans (.of_below zu)).trans (vu.wr _).2⟩
  clear hz hu zu vu HV HB HA
  go_wp2_with (first
    | refine wpList_store_mid rfl 58 _ _ rfl V 5 (nvA (al N')) rfl rfl HT.out inf58 (nvA_one _) ?_
    | fail)
  go_ret
  exact ⟨rfl, HF.out⟩
end
/-- all numbers -/
def imA (N R : Nat → Int) : Array Value := #[.int .u64 (N 0), .int .u64 (N 1), .int .u64 (N 2), .int .u64 (N 3), .int .u64 (N 4), .int .u64 (N 5), .int .u64 (N 6), .int .u64 (N 7), .int .u64 (N 8), .int .u64 (N 9), .int .u64 (N 10), .int .u64 (N 11), .int .u64 (N 12), .int .u64 (N 13), .int .u64 (N 14), .int .u64 (N 15), .int .u64 (N 16), .int .u64 (N 17), .int .u64 (R 0), .int .u64 (R 1), .int .u64 (R 2), .int .u64 (R 3), .int .u64 (R 4), .int .u64 (R 5), .int .u64 (R 6), .int .u64 (R 7), .int .u64 (R 8), .int .u64 (R 9), .int .u64 (R 10), .int .u64 (R 11)]
def zeros30 : Array Value := #[.int .u64 0, .int .u64 0, .int .u64 0, .int .u64 0, .int .u64 0, .int .u64 0, .int .u64 0, .int .u64 0, .int .u64 0, .int .u64 0, .int .u64 0, .int .u64 0, .int .u64 0, .int .u64 0, .int .u64 0, .int .u64 0, .int .u64 0, .int .u64 0, .int .u64 0, .int .u64 0, .int .u64 0, .int .u64 0, .int .u64 0, .int .u64 0, .int .u64 0, .int .u64 0, .int .u64 0, .int .u64 0, .int .u64 0, .int .u64 0]
theorem imA_lo (N R : Nat → Int) (k : Nat) (h : k < 18) : (imA N R)[k]? = some (.int .u64 (N k)) := by
  match k, h with
  | 0, _ | 1, _ | 2, _ | 3, _ | 4, _ | 5, _ | 6, _ | 7, _ | 8, _ | 9, _ | 10, _ | 11, _ | 12, _ | 13, _ | 14, _ | 15, _ | 16, _ | 17, _ => rfl
  | k + 18, h => omega
theorem imA_hi (N R : Nat → Int) (k : Nat) (h : k < 12) : (imA N R)[18 + k]? = some (.int .u64 (R k)) := by
  match k, h with
  | 0, _ | 1, _ | 2, _ | 3, _ | 4, _ | 5, _ | 6, _ | 7, _ | 8, _ | 9, _ | 10, _ | 11, _ => rfl
  | k + 12, h => omega
theorem imA_size (N R : Nat → Int) : (imA N R).size = 30 := rfl
theorem imA_one (N R : Nat → Int) : (imA N R).all (·.oneCell') = true := by simp [imA, Value.oneCell']
theorem zeros30_one : zeros30.all (·.oneCell') = true := by simp [zeros30, Value.oneCell']
theorem inf63 : (Try.prog.info? 63).map (·.size) = some 30 := by kernel_rfl
theorem zeros30_at (k : Nat) (h : k < 30) : zeros30[k]? = some (.int .u64 0) := by
  match k, h with
  | 0, _ | 1, _ | 2, _ | 3, _ | 4, _ | 5, _ | 6, _ | 7, _ | 8, _ | 9, _ | 10, _ | 11, _ | 12, _ | 13, _ | 14, _ | 15, _ | 16, _ | 17, _ | 18, _ | 19, _ | 20, _ | 21, _ | 22, _ | 23, _ | 24, _ | 25, _ | 26, _ | 27, _ | 28, _ | 29, _ => rfl
  | k + 30, h => omega
/-- numbers compared with themselves -/
theorem eq_im (xs : Array Value) (h : ∀ j, j < 30 → ∃ z, xs[j]? = some (.int .u64 z)) (w : World) : (Op.equalIn 10000 63 (.agg xs) (.agg xs)).run Try.prog w = .ok true w := by
  have hi : ∃ i, Try.prog.info? 30 = some i := Option.isSome_iff_exists.1 (by kernel_rfl)
  obtain ⟨i, hi⟩ := hi
  have hc : Try.prog.cellsOf 30 = 1 := by kernel_rfl
  rw [run_equalIn_array w 9999 _ _ Try.underlying63 hi, hc]
  exact eq_items 9998 _ _ w (fun j hj => h j (by simpa using hj))
theorem imA_words (N R : Nat → Int) : ∀ j, j < 30 → ∃ z, (imA N R)[j]? = some (.int .u64 z) := fun j hj => by
  by_cases h : j < 18
  · exact ⟨_, imA_lo N R j h⟩
  · obtain ⟨k, rfl⟩ : ∃ k, j = 18 + k := ⟨j - 18, by omega⟩
    exact ⟨_, imA_hi N R k (by omega)⟩
/-- an image in the making -/
structure IM (w wr : World) (rb A V : Nat) (g : Int) (F : Nat) (ix st co : Int) (N0 N R : Nat → Int) (j : Nat) : Prop where
  vs : VS wr V g F ix st co N0
  ff : FF wr F R
  rs : wr.heap[rb]? = some (.cells zeros30 63 (0, 0))
  im : ∃ ds, wr.heap[A]? = some (.cells ds 63 (0, 0)) ∧ ds.size = 30 ∧ (∀ k, k < 18 → ds[k]? = some (.int .u64 (N k))) ∧ (∀ k, k < j → ds[18 + k]? = some (.int .u64 (R k))) ∧ ∀ k, j ≤ k → k < 12 → ds[18 + k]? = some (.int .u64 0)
  ne : rb ≠ A
  bl : Below w.heap.size w wr
  wA : w.heap.size ≤ A
theorem IM.next {w wr : World} {rb A V : Nat} {g : Int} {F : Nat} {ix st co : Int} {N0 N R : Nat → Int} {j : Nat} (h : IM w wr rb A V g F ix st co N0 N R j) (hj : j < 12) : IM w (wr.setCell ⟨A, 18 + j, none⟩ (.int .u64 (R j))) rb A V g F ix st co N0 N R (j + 1) := by
  obtain ⟨ds, hd, hz, h1, h2, h3⟩ := h.im
  have t := trn_set1 hd (18 + j) (.int .u64 (R j))
  obtain ⟨fs, hf, _⟩ := h.ff.blk
  refine ⟨h.vs.keep (t.block _ h.vs.lt (ne_typ h.vs hd (by decide))), h.ff.keep (t.block _ h.ff.lt (ne_typ hf hd (by decide))), (t.block _ (lt_of_heap h.rs) h.ne).trans h.rs, ⟨_, heap_setCell hd _ _, by simpa using hz, fun k hk => ?_, fun k hk => ?_, fun k h4 h5 => ?_⟩, h.ne, h.bl.setCell h.wA _, h.wA⟩
  · rw [Array.getElem?_setIfInBounds, if_neg (by omega)]
    exact h1 k hk
  · rw [Array.getElem?_setIfInBounds]
    by_cases e : k = j
    · subst e
      rw [if_pos rfl, if_pos (by omega)]
    · rw [if_neg (by omega)]
      exact h2 k (by omega)
  · rw [Array.getElem?_setIfInBounds, if_neg (by omega)]
    exact h3 k (by omega) h5
theorem IM.all {w wr : World} {rb A V : Nat} {g : Int} {F : Nat} {ix st co : Int} {N0 N R : Nat → Int} (h : IM w wr rb A V g F ix st co N0 N R 12) : wr.heap[A]? = some (.cells (imA N R) 63 (0, 0)) := by
  obtain ⟨ds, hd, hz, h1, h2, h3⟩ := h.im
  have : ds = imA N R := by
    apply Array.ext_getElem?
    intro i
    by_cases e : i < 18
    · rw [h1 i e, imA_lo N R i e]
    · by_cases e2 : i < 30
      · obtain ⟨k, rfl⟩ : ∃ k, i = 18 + k := ⟨i - 18, by omega⟩
        rw [h2 k (by omega), imA_hi N R k (by omega)]
      · rw [Array.getElem?_eq_none (by omega), Array.getElem?_eq_none (by rw [imA_size]; omega)]
  rw [this] at hd
  exact hd
section
variable {w w' : World} {V F : Nat} {g ix st co : Int} {N : Nat → Int}
set_option maxHeartbeats 1600000 in
theorem image_un {v : Value} (h : UN w v) (m : Value) : Calls Try.prog 24 #[v, m] w fun e w' => e = .returned (.agg zeros30) ∧ Below w.heap.size w w' := by
  obtain ⟨y, hy⟩ : ∃ y, w.alloc (.cells zeros30 63) = y := ⟨_, rfl⟩
  have b0 : Below w.heap.size w y := by rw [← hy]; exact below_box _ _
  have n0 : y.heap[w.heap.size]? = some (.cells zeros30 63 (0, 0)) := by rw [← hy]; exact heap_alloc_at _ _
  have C1 := isMade_un (h.below b0)
  have HN : Hid (_) := n0
  have HB : Hid (_) := b0
  clear h b0 n0
  unfold zeros30 at hy
  go_enter Try.func24, Try.ntmps24
  go_wp2_with fail
  clear hy
  refine C1.mono ?_
  rintro e y ⟨rfl, rfl⟩
  clear C1
  go_wp2_with (first
    | refine wpList_store_row rfl 63 _ _ rfl w.heap.size zeros30 rfl rfl 63 zeros30 HN.out inf63 rfl zeros30_one ?_
    | fail)
  refine bodyPost_ret (v := _) (results_cell_row Try.results24 _ _ _ _ _ _ _ rfl (setRow_heap _ _ _ _ _ _ HN.out) Try.underlying63 rfl inf63) rfl ⟨rfl, HB.out.trans (below_setRow' _ _ (Nat.le_refl _) _)⟩
set_option maxHeartbeats 3200000 in
theorem image_any (h : VS w V g F ix st co N) {R : Nat → Int} (hf : FF w F R) (m : Value) (N1 : Nat → Int) (hN : W18 N1) (RG : ∀ y, Below w.heap.size w y → Calls Try.prog 21 #[.pointer (some ⟨V, 0, none⟩), m] y fun e w' => e = .returned (.agg (upA N1)) ∧ Below y.heap.size y w') :
    Calls Try.prog 24 #[.pointer (some ⟨V, 0, none⟩), m] w fun e w' => e = .returned (.agg (imA N1 R)) ∧ Below w.heap.size w w' := by
  obtain ⟨y, hy⟩ : ∃ y, w.alloc (.cells zeros30 63) = y := ⟨_, rfl⟩
  have b0 : Below w.heap.size w y := by rw [← hy]; exact below_box _ _
  have n0 : y.heap[w.heap.size]? = some (.cells zeros30 63 (0, 0)) := by rw [← hy]; exact heap_alloc_at _ _
  have C1 := isMade_v (h.below b0)
  obtain ⟨y2, hy2⟩ : ∃ y2, y.alloc (.cells zeros30 63) = y2 := ⟨_, rfl⟩
  have b2 : Below y.heap.size y y2 := by rw [← hy2]; exact below_box _ _
  have n1 : y2.heap[y.heap.size]? = some (.cells zeros30 63 (0, 0)) := by rw [← hy2]; exact heap_alloc_at _ _
  have nn : w.heap.size ≠ y.heap.size := by have := lt_of_heap n0; omega
  have b02 := b0.trans (b2.mono b0.size)
  have C2 := RG y2 b02
  have PK := packed_any N1 hN
  have HI : Hid (VS y2 V g F ix st co N ∧ FF y2 F R ∧ y2.heap[w.heap.size]? = some (.cells zeros30 63 (0, 0)) ∧ y2.heap[y.heap.size]? = some (.cells zeros30 63 (0, 0)) ∧ Below w.heap.size w y2) := ⟨h.below b02, hf.below b02, keepB n0 b2, n1, b02⟩
  have wy := b0.size
  clear h hf b0 n0 b2 n1 b02 RG
  unfold zeros30 at hy hy2
  go_enter Try.func24, Try.ntmps24
  go_wp2_with fail
  clear hy
  refine C1.mono ?_
  rintro e y ⟨rfl, rfl⟩
  clear C1
  go_wp2_with fail
  clear hy2
  refine C2.mono ?_
  rintro e z ⟨rfl, hz⟩
  clear C2
  have C3 := PK z
  clear PK
  go_wp2_with fail
  refine C3.mono ?_
  rintro e u ⟨rfl, hu⟩
  clear C3
  have zu := hz.trans (hu.mono hz.size)
  obtain ⟨a, ha⟩ : ∃ a, u.alloc (.cells zeros18 58) = a := ⟨_, rfl⟩
  have ba : Below u.heap.size u a := by rw [← ha]; exact below_box _ _
  have a0 : a.heap[u.heap.size]? = some (.cells zeros18 58 (0, 0)) := by rw [← ha]; exact heap_alloc_at _ _
  obtain ⟨b, hb⟩ : ∃ b, a.setRow u.heap.size (nvA N1) = b := ⟨_, rfl⟩
  have bb : Below u.heap.size a b := by rw [← hb]; exact below_setRow' _ _ (Nat.le_refl _) _
  have a1 : b.heap[u.heap.size]? = some (.cells (nvA N1) 58 (0, 0)) := by rw [← hb]; exact setRow_heap _ _ _ _ _ _ a0
  have yb := zu.trans ((ba.trans bb).mono zu.size)
  have HA0 : Hid (_) := a0
  obtain ⟨c, hr, ⟨ds, hd, hds, hj⟩, hgr⟩ := copy_rows (w := b.drew) 3 y.heap.size u.heap.size 30 18 18 zeros30 (nvA N1) 63 58 (keepB HI.out.2.2.2.1 yb.drew) a1 rfl (by decide) (by rw [nvA_size]; omega) (fun j hj => ⟨_, nvA_at N1 j hj⟩)
  have bd : Below y.heap.size b c := let q := gr_below hgr (Nat.le_refl y.heap.size) (Nat.le_trans (Nat.le_of_lt (lt_of_heap HI.out.2.2.2.1)) yb.size); ⟨q.os, q.tape, q.output, q.size, q.block⟩
  have vb : VS b V g F ix st co N := HI.out.1.below yb
  have fb : FF b F R := HI.out.2.1.below yb
  obtain ⟨fs, hfs, _⟩ := fb.blk
  have d0 : b.heap[y.heap.size]? = some (.cells zeros30 63 (0, 0)) := keepB HI.out.2.2.2.1 yb
  have HM : Hid (IM w c w.heap.size y.heap.size V g F ix st co N N1 R 0) := by
    refine ⟨vb.keep (gr_keep (w := b.drew) hgr (k := V) vb.lt (ne_typ vb d0 (by decide))), fb.keep (gr_keep (w := b.drew) hgr (k := F) fb.lt (ne_typ hfs d0 (by decide))), (gr_keep (w := b.drew) hgr (k := w.heap.size) (lt_of_heap (keepB HI.out.2.2.1 yb.drew)) nn).trans (keepB HI.out.2.2.1 yb.drew), ⟨ds, hd, hds, fun k hk => ?_, fun k hk => by omega, fun k _ hk => ?_⟩, nn, ?_, wy⟩
    · rw [hj k, if_pos hk, nvA_at N1 k hk]
    · rw [hj (18 + k), if_neg (by omega)]
      exact zeros30_at _ (by omega)
    · have := HI.out.2.2.2.2.trans (yb.mono HI.out.2.2.2.2.size)
      exact this.trans (bd.mono wy)
  have yl : y.heap.size < c.heap.size := lt_of_heap hd
  clear hz hu zu ba a0 bb a1 yb hd hj hgr vb fb hfs d0 HI bd
  unfold zeros18 at ha
  go_wp2_with (first
    | refine wpList_store_row rfl 58 _ _ rfl u.heap.size (nvA N1) rfl rfl 58 zeros18 HA0.out inf58 rfl (nvA_one _) ?_
    | fail)
  simp only [Act.put, hb]
  clear ha hb
  go_region
  clear hr HA0
  go_wp2_with fail
  go_loopw [21] (fun q wr => ∃ j : Nat, j ≤ 12 ∧ q = .int .i64 j ∧ Hid (IM w wr w.heap.size y.heap.size V g F ix st co N N1 R j)) (fun q _ => 12 - (intOf q).toNat)
  case atStart => exact ⟨0, by omega, rfl, HM⟩
  case round =>
    obtain ⟨j, hj, rfl, HJ⟩ := hrel
    clear HM yl
    by_cases hjn : j < 12
    · have hj1 : (j : Int) < 12 := by omega
      have CG := get_ff F R j hjn wr HJ.out.ff
      have v1 := HJ.out.vs.c1
      have vl := HJ.out.vs.lt
      obtain ⟨ds', hd', hz', _, _, h3⟩ := HJ.out.im
      have c1 := (cell_at hd' (18 + j)).trans (h3 j (Nat.le_refl _) hjn)
      have f1 := fz_at hd' (18 + j)
      have l1 := lt_of_heap hd'
      have HF : Hid (_) := HJ.out.next hjn
      clear hd' hz' h3 HJ
      go_wp2_with fail
      refine CG.mono ?_
      rintro e wr ⟨rfl, rfl⟩
      clear CG
      go_wp2_with fail
      go_roundw
      case rel => exact ⟨j + 1, by omega, by go_num, HF⟩
      case measure => simp [intOf]; omega
    · obtain rfl : j = 12 := by omega
      have HL : Hid (_) := HJ.out.all
      have HS : Hid (_) := HJ.out.rs
      have HB : Hid (_) := HJ.out.bl
      have l1 := lt_of_heap HL.out
      have l2 := lt_of_heap HS.out
      clear HJ
      go_wp2_with (first
        | refine wpList_load_row rfl 63 _ rfl y.heap.size rfl 63 _ (0, 0) _ HL.out Try.underlying63 rfl inf63 ?_
        | refine wpList_store_row rfl 63 _ _ rfl w.heap.size (imA N1 R) rfl rfl 63 zeros30 HS.out inf63 rfl (imA_one _ _) ?_
        | fail)
      refine bodyPost_ret (v := _) (results_cell_row Try.results24 _ _ _ _ _ _ _ rfl (setRow_heap _ _ _ _ _ _ HS.out) Try.underlying63 rfl inf63) rfl ⟨rfl, HB.out.trans (below_setRow' _ _ (Nat.le_refl _) _)⟩
end
end Go.Proofs.Ytjkaeclemflifaa
