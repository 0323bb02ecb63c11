/-
  A virtual processor: New, Regs, SetRegs, Leave.
-/
import Derived.Test.YtjkaeclemflifaaVc
namespace Go.Proofs.Ytjkaeclemflifaa
open Go.RowKit
set_option linter.unusedVariables false
set_option maxRecDepth 100000
theorem setCells_heap (g : Nat) (t : TypeId) : ∀ (vs : List Value) (o : Nat) (w : World) (cur : Array Value), w.heap[g]? = some (.cells cur t (0, 0)) → o + vs.length ≤ cur.size →
    ∃ cur', (w.setCells g o vs).heap[g]? = some (.cells cur' t (0, 0)) ∧ cur'.size = cur.size ∧ (∀ i, cur'[i]? = if o ≤ i ∧ i < o + vs.length then vs[i - o]? else cur[i]?) ∧ w.grownBy (w.setCells g o vs) (some g)
  | [], o, w, cur, h, hl => ⟨cur, h, rfl, fun i => by rw [if_neg (by simp <;> omega)], ⟨rfl, rfl, rfl, Nat.le_refl _, fun k _ _ => rfl⟩⟩
  | v :: r, o, w, cur, h, hl => by
    have e := setCell_eq_setRow w g o cur t (0, 0) v h
    have h1 : (w.setRow g (cur.setIfInBounds o v)).heap[g]? = _ := setRow_heap w g cur _ t _ h
    obtain ⟨cur', q1, q2, q3, q4⟩ := setCells_heap g t r (o + 1) _ _ h1 (by simp at hl ⊢; omega)
    refine ⟨cur', ?_, ?_, fun i => ?_, ?_⟩
    · rw [World.setCells, e]
      exact q1
    · simpa using q2
    · rw [q3 i]
      simp only [List.length_cons] at hl ⊢
      by_cases h0 : i = o
      · subst h0
        rw [if_neg (by omega), if_pos (by omega)]
        simp [show i < cur.size by omega]
      · by_cases h2 : o ≤ i ∧ i < o + (r.length + 1)
        · rw [if_pos h2, if_pos (by omega)]
          obtain ⟨j, rfl⟩ : ∃ j, i = o + 1 + j := ⟨i - (o + 1), by omega⟩
          rw [show o + 1 + j - (o + 1) = j by omega, show o + 1 + j - o = j + 1 by omega]
          simp
        · rw [if_neg h2, if_neg (by omega)]
          rw [Array.getElem?_setIfInBounds_ne (Ne.symm h0)]
    · rw [World.setCells, e]
      exact ⟨q4.os, q4.tape, q4.output, by have := q4.size; simpa [World.setRow] using this, fun k hk hne => (q4.block k (by simpa [World.setRow] using hk) hne).trans (setRow_other w g k _ (fun e => hne (by rw [e])))⟩
section
variable {w w' : World} {V F : Nat} {g ix st co : Int} {N : Nat → Int}
theorem VS.rg (h : VS w V g F ix st co N) : w.rangeAt V 5 (nvA N).toList := fun j v hv => by
  have hv' : (nvA N)[j]? = some v := by simpa using hv
  have hj : j < 18 := (Array.getElem?_eq_some_iff.1 hv').1
  rw [cell_at h, ← hv']
  match j, hj with
  | 0, _ | 1, _ | 2, _ | 3, _ | 4, _ | 5, _ | 6, _ | 7, _ | 8, _ | 9, _ | 10, _ | 11, _ | 12, _ | 13, _ | 14, _ | 15, _ | 16, _ | 17, _ => rfl
  | k + 18, h => omega
theorem VS.th (h : VS w V g F ix st co N) : w.there V 5 18 := by
  intro j hj
  refine ⟨?_, fz_at h _⟩
  rw [cell_at h]
  match j, hj with
  | 0, _ | 1, _ | 2, _ | 3, _ | 4, _ | 5, _ | 6, _ | 7, _ | 8, _ | 9, _ | 10, _ | 11, _ | 12, _ | 13, _ | 14, _ | 15, _ | 16, _ | 17, _ => rfl
  | k + 18, h => omega
/-- other registers -/
theorem VS.wr (h : VS w V g F ix st co N) (N' : Nat → Int) : VS (w.setCells V 5 (nvA N').toList) V g F ix st co N' ∧ Trn (fun k => k = V) w (w.setCells V 5 (nvA N').toList) := by
  obtain ⟨ds, hd, hz, hi, hg⟩ := setCells_heap V 60 (nvA N').toList 5 w _ h (show 5 + 18 ≤ 23 by decide)
  have he : ds = vcA g F ix st co N' := by
    apply Array.ext_getElem?
    intro i
    rw [hi i]
    by_cases h23 : i < 23
    · match i, h23 with
      | 0, _ | 1, _ | 2, _ | 3, _ | 4, _ | 5, _ | 6, _ | 7, _ | 8, _ | 9, _ | 10, _ | 11, _ | 12, _ | 13, _ | 14, _ | 15, _ | 16, _ | 17, _ | 18, _ | 19, _ | 20, _ | 21, _ | 22, _ => rfl
      | k + 23, h => omega
    · have l18 : (nvA N').toList.length = 18 := rfl
      rw [if_neg (by omega), Array.getElem?_eq_none (by show 23 ≤ i; omega), Array.getElem?_eq_none (by show 23 ≤ i; omega)]
  rw [he] at hd
  exact ⟨hd, .of_grown hg rfl⟩
end
/-- the registers of what is new -/
def newN (pc : Int) : Nat → Int := fun k => if k = 16 then pc else if k = 17 then 1 else 0
theorem newN_w {pc : Int} (h : U pc) : W18 (newN pc) := fun k hk => by
  unfold newN
  split
  · exact h
  · split
    · exact ⟨by omega, by omega⟩
    · exact ⟨by omega, by omega⟩
theorem upA_new (pc : Int) : upA (newN pc) = builtRegs pc 1 := by simp [upA, regC, newN, s64, wrap64, builtRegs]
theorem vnew_no (gu ix pc : Int) (h : gu < 1 ∨ 16 < gu ∨ ix < 0 ∨ 4 ≤ ix) (w : World) : Calls Try.prog 9 #[.int .i64 gu, .int .i64 ix, .int .u64 pc] w fun e w' => e = .returned (.tuple #[.pointer none, .int .i64 2]) ∧ w' = w := by
  by_cases h1 : gu < 1
  · go_enter Try.func9, Try.ntmps9
    go_wp2_with fail
    go_ret2
    exact ⟨rfl, rfl⟩
  · by_cases h2 : 16 < gu
    · go_enter Try.func9, Try.ntmps9
      go_wp2_with fail
      go_ret2
      exact ⟨rfl, rfl⟩
    · by_cases h3 : ix < 0
      · go_enter Try.func9, Try.ntmps9
        go_wp2_with fail
        go_ret2
        exact ⟨rfl, rfl⟩
      · have h4 : 4 ≤ ix := by omega
        clear h
        go_enter Try.func9, Try.ntmps9
        go_wp2_with fail
        go_ret2
        exact ⟨rfl, rfl⟩
set_option maxHeartbeats 1600000 in
theorem vnew_yes (gu ix pc : Int) (h1 : 1 ≤ gu) (h2 : gu ≤ 16) (h3 : 0 ≤ ix) (h4 : ix < 4) (hp : U pc) (w : World) : Calls Try.prog 9 #[.int .i64 gu, .int .i64 ix, .int .u64 pc] w fun e w' => ∃ V F, e = .returned (.tuple #[.pointer (some ⟨V, 0, none⟩), .int .i64 0]) ∧ VS w' V gu F ix 1 (-1) (newN pc) ∧ FF w' F (newP ix) ∧ w.heap.size ≤ V ∧ w.heap.size ≤ F ∧ Below w.heap.size w w' := by
  have C1 := new_ff ix h3 (by omega) w
  have CP := packed_any (newN pc) (newN_w hp)
  rw [upA_new] at CP
  generalize newN pc = N at CP ⊢
  go_enter Try.func9, Try.ntmps9
  go_wp2_with fail
  refine C1.mono ?_
  rintro e y ⟨F, rfl, hF, hff, hb⟩
  have C2 := CP y
  unfold builtRegs nvA at C2
  have HF : Hid (_) := And.intro hff (And.intro hF hb)
  clear C1 hff hb hF
  go_wp2_with fail
  refine C2.mono ?_
  rintro e z ⟨rfl, hz⟩
  have HZ : Hid (VS (z.alloc (.cells (vcA gu F ix 1 (-1) N) 60)) z.heap.size gu F ix 1 (-1) N ∧ FF (z.alloc (.cells (vcA gu F ix 1 (-1) N) 60)) F (newP ix) ∧ w.heap.size ≤ z.heap.size ∧ w.heap.size ≤ F ∧ Below w.heap.size w (z.alloc (.cells (vcA gu F ix 1 (-1) N) 60))) := by
    have bx := below_box z (.cells (vcA gu F ix 1 (-1) N) 60)
    have b2 := HF.out.2.2.trans (hz.mono HF.out.2.2.size)
    exact ⟨heap_alloc_at _ _, (HF.out.1.below hz).below bx, b2.size, HF.out.2.1, b2.trans (bx.mono b2.size)⟩
  clear C2 hz HF
  unfold vcA at HZ
  go_wp2_with fail
  refine bodyPost_ret (v := _) ?h1 rfl ⟨_, _, rfl, HZ.out⟩
  case h1 => simp [results, Try.results9, go_sem]
section
variable {w w' : World} {V F : Nat} {g ix st co : Int} {N : Nat → Int} {M mb cr n f : Nat} {o : Nat → Nat} {x : Nat → Value}
theorem results_cell_row' {P : Program} {fn : Func} {p : Tmp} {ty : TypeId} (h : fn.results = #[.cell p ty]) (tmps : Array Value) (w : World) (g : Nat) (t : TypeId) (cs : Array Value) (fr : Nat × Nat) (d : TypeDesc)
    (hp : tmps.getD p undef = .pointer (some ⟨g, 0, none⟩)) (hg : w.heap[g]? = some (.cells cs t fr))
    (hu : P.underlying ty = some d) (hd : (match d with | .struct _ | .array _ _ => true | _ => false) = true) (hi : (P.info? ty).map (·.size) = some cs.size) :
    (results fn tmps).run P w = .ok (.agg cs) w := results_cell_row h tmps w g t cs fr d hp hg hu hd hi
theorem zeroRegs_one : zeroRegs.all (·.oneCell') = true := by simp [zeroRegs, Value.oneCell']
set_option maxHeartbeats 1600000 in
theorem regs_un {v : Value} (h : UN w v) (m : Value) : Calls Try.prog 21 #[v, m] w fun e w' => e = .returned (.agg zeroRegs) ∧ Below w.heap.size w w' := by
  obtain ⟨y, hy⟩ : ∃ y, w.alloc (.cells zeroRegs 40) = y := ⟨_, rfl⟩
  have b0 : Below w.heap.size w y := by rw [← hy]; exact below_box _ _
  have n0 : y.heap[w.heap.size]? = some (.cells zeroRegs 40 (0, 0)) := by rw [← hy]; exact heap_alloc_at _ _
  have C1 := isMade_un (h.below b0)
  have HN : Hid (_) := n0
  have HB : Hid (_) := b0
  clear h b0 n0
  unfold zeroRegs at hy
  go_enter Try.func21, Try.ntmps21
  go_wp2_with fail
  clear hy
  refine C1.mono ?_
  rintro e y ⟨rfl, rfl⟩
  clear C1
  go_wp2_with (first
    | refine wpList_store_row rfl 40 _ _ rfl w.heap.size zeroRegs rfl rfl 40 zeroRegs HN.out inf25 rfl zeroRegs_one ?_
    | fail)
  refine bodyPost_ret (v := _) (results_cell_row Try.results21 _ _ _ _ _ _ _ rfl (setRow_heap _ _ _ _ _ _ HN.out) Try.underlying40 rfl inf25) rfl ⟨rfl, HB.out.trans (below_setRow' _ _ (Nat.le_refl _) _)⟩
set_option maxHeartbeats 1600000 in
theorem regs_off (h : VS w V g F ix st co N) (hs : st ≠ 2) (m : Value) : Calls Try.prog 21 #[.pointer (some ⟨V, 0, none⟩), m] w fun e w' => e = .returned (.agg (upA N)) ∧ Below w.heap.size w w' := by
  obtain ⟨y, hy⟩ : ∃ y, w.alloc (.cells zeroRegs 40) = y := ⟨_, rfl⟩
  have b0 : Below w.heap.size w y := by rw [← hy]; exact below_box _ _
  have n0 : y.heap[w.heap.size]? = some (.cells zeroRegs 40 (0, 0)) := by rw [← hy]; exact heap_alloc_at _ _
  have h0 := h.below b0
  have C1 := isMade_v h0
  have c3 := h0.c3
  have hl := h0.lt
  have HR : Hid (_) := h0.rg
  have C2 := unpacked_any N y
  have HN : Hid (_) := n0
  have HB : Hid (_) := b0
  clear h b0 n0 h0
  unfold zeroRegs at hy
  go_enter Try.func21, Try.ntmps21
  go_wp2_with fail
  clear hy
  refine C1.mono ?_
  rintro e y ⟨rfl, rfl⟩
  clear C1
  go_wp2_with (first
    | refine wpList_load_mid rfl 58 _ rfl V 5 rfl (nvA N).toList _ HR.out Try.underlying58 rfl inf58 ?_
    | fail)
  refine C2.mono ?_
  rintro e z ⟨rfl, hz⟩
  have HN2 : Hid (_) := keepB HN.out hz
  have HB2 : Hid (Below w.heap.size w z) := HB.out.trans (hz.mono HB.out.size)
  clear HN HB hz C2 HR
  go_wp2_with (first
    | refine wpList_store_row rfl 40 _ _ rfl w.heap.size (upA N) rfl rfl 40 zeroRegs HN2.out inf25 rfl (upA_one _) ?_
    | fail)
  refine bodyPost_ret (v := _) (results_cell_row Try.results21 _ _ _ _ _ _ _ rfl (setRow_heap _ _ _ _ _ _ HN2.out) Try.underlying40 rfl inf25) rfl ⟨rfl, HB2.out.trans (below_setRow' _ _ (Nat.le_refl _) _)⟩
theorem ctx_rg {y : World} {b : Nat} {g' : Int} {N' : Nat → Int} {F' : Nat} (h : y.heap[b]? = some (.cells (ctxA g' N' F' 0) 68 (0, 0))) : y.rangeAt b 1 (upA N').toList := fun j v hv => by
  have hv' : (upA N')[j]? = some v := by simpa using hv
  have hj : j < 18 := (Array.getElem?_eq_some_iff.1 hv').1
  rw [cell_at h, ← hv']
  match j, hj with
  | 0, _ | 1, _ | 2, _ | 3, _ | 4, _ | 5, _ | 6, _ | 7, _ | 8, _ | 9, _ | 10, _ | 11, _ | 12, _ | 13, _ | 14, _ | 15, _ | 16, _ | 17, _ => rfl
  | k + 18, h => omega
set_option maxHeartbeats 1600000 in
theorem regs_on (hm : MS w M mb cr n f o x) (i : Nat) (hi : i < n) (cb : Nat) (hx : x i = .pointer (some ⟨cb, 0, none⟩)) {g' : Int} {N' : Nat → Int} {F' : Nat} (hc : CX w cb g' N' F') (h : VS w V g F ix 2 i N) : Calls Try.prog 21 #[.pointer (some ⟨V, 0, none⟩), .pointer (some ⟨M, 0, none⟩)] w fun e w' => e = .returned (.agg (upA N')) ∧ Below w.heap.size w w' := by
  obtain ⟨y, hy⟩ : ∃ y, w.alloc (.cells zeroRegs 40) = y := ⟨_, rfl⟩
  have b0 : Below w.heap.size w y := by rw [← hy]; exact below_box _ _
  have n0 : y.heap[w.heap.size]? = some (.cells zeroRegs 40 (0, 0)) := by rw [← hy]; exact heap_alloc_at _ _
  have h0 := h.below b0
  have C1 := isMade_v h0
  have c3 := h0.c3
  have c4 := h0.c4
  have hl := h0.lt
  have C2 := get_yes (hm.below b0) i hi cb hx g' N' F' (keepB hc b0)
  have HN : Hid (_) := n0
  have HB : Hid (_) := b0
  clear h b0 n0 h0 hm hc
  unfold zeroRegs at hy
  go_enter Try.func21, Try.ntmps21
  go_wp2_with fail
  clear hy
  refine C1.mono ?_
  rintro e y ⟨rfl, rfl⟩
  clear C1
  go_wp2_with fail
  refine C2.mono ?_
  rintro e z ⟨rfl, hz⟩
  have HN2 : Hid (_) := keepB HN.out hz
  have HB2 : Hid (Below w.heap.size w z) := HB.out.trans (hz.mono HB.out.size)
  clear HN HB hz C2
  obtain ⟨v, hv⟩ : ∃ v, z.alloc (.cells zeroCtx 68) = v := ⟨_, rfl⟩
  have bv : Below z.heap.size z v := by rw [← hv]; exact below_box _ _
  have m0 : v.heap[z.heap.size]? = some (.cells zeroCtx 68 (0, 0)) := by rw [← hv]; exact heap_alloc_at _ _
  have m1 : (v.setRow z.heap.size (ctxA g' N' F' 0)).heap[z.heap.size]? = some (.cells (ctxA g' N' F' 0) 68 (0, 0)) := setRow_heap _ _ _ _ _ _ m0
  have bu : Below z.heap.size v (v.setRow z.heap.size (ctxA g' N' F' 0)) := below_setRow' _ _ (Nat.le_refl _) _
  obtain ⟨u, hu⟩ : ∃ u, v.setRow z.heap.size (ctxA g' N' F' 0) = u := ⟨_, rfl⟩
  rw [hu] at m1 bu
  have zu := bv.trans bu
  have HM0 : Hid (_) := m0
  have HR : Hid (_) := ctx_rg m1
  have HN3 : Hid (_) := keepB HN2.out zu
  have HB3 : Hid (Below w.heap.size w u) := HB2.out.trans (zu.mono HB2.out.size)
  clear m0 m1 bu zu bv HN2 HB2
  unfold zeroCtx at hv
  go_wp2_with (first
    | refine wpList_store_row rfl 68 _ _ rfl z.heap.size (ctxA g' N' F' 0) rfl rfl 68 zeroCtx HM0.out inf68 rfl (ctxA_one _ _ _ _) ?_
    | refine wpList_load_mid rfl 40 _ rfl z.heap.size 1 rfl (upA N').toList _ HR.out Try.underlying40 rfl inf25 ?_
    | refine wpList_store_row rfl 40 _ _ rfl w.heap.size (upA N') rfl rfl 40 zeroRegs HN3.out inf25 rfl (upA_one _) ?_
    | fail)
  refine bodyPost_ret (v := _) (results_cell_row Try.results21 _ _ _ _ _ _ _ rfl (setRow_heap _ _ _ _ _ _ HN3.out) Try.underlying40 rfl inf25) rfl ⟨rfl, HB3.out.trans (below_setRow' _ _ (Nat.le_refl _) _)⟩
end
end Go.Proofs.Ytjkaeclemflifaa
