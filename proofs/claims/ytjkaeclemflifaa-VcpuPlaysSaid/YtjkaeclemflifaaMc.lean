/-
  A machine in the heap: its cores by what their contexts' cells have; New.
-/
import Derived.Test.YtjkaeclemflifaaNv
import Derived.Test.YtjkaeclemflifaaCSm
namespace Go.Proofs.Ytjkaeclemflifaa
open Go.RowKit
set_option linter.unusedVariables false
set_option maxRecDepth 100000
/-- a core of block o: x is what its context's cell has -/
def CO (w : World) (o : Nat) (x : Value) : Prop := ∃ (a b c d : Value) (hd : Int) (hs : Bool), w.heap[o]? = some (.cells #[a, b, x, c, d, .int .u64 hd, .bool hs] 101 (0, 0))
theorem CO.ob {w : World} {o : Nat} {x : Value} (h : CO w o x) : ∃ cs, w.heap[o]? = some (.cells cs 101 (0, 0)) := let ⟨_, _, _, _, _, _, h⟩ := h; ⟨_, h⟩
theorem CO.lt {w : World} {o : Nat} {x : Value} (h : CO w o x) : o < w.heap.size := let ⟨_, h⟩ := h.ob; lt_of_heap h
theorem CO.keep {w w' : World} {o : Nat} {x : Value} (h : CO w o x) (hk : w'.heap[o]? = w.heap[o]?) : CO w' o x := let ⟨a, b, c, d, e, f, h⟩ := h; ⟨a, b, c, d, e, f, hk.trans h⟩
theorem CO.c2 {w : World} {o : Nat} {x : Value} (h : CO w o x) : w.cell? ⟨o, 2, none⟩ = some x := let ⟨_, _, _, _, _, _, h⟩ := h; (cell_at h 2).trans rfl
theorem CO.fz {w : World} {o : Nat} {x : Value} (h : CO w o x) (k : Nat) : w.frozen? ⟨o, k, none⟩ = false := let ⟨_, h⟩ := h.ob; fz_at h k
/-- a machine of n cores and f frames -/
structure MS (w : World) (M mb cr n f : Nat) (o : Nat → Nat) (x : Nat → Value) : Prop where
  mc : w.heap[M]? = some (.cells #[.pointer (some ⟨mb, 0, none⟩), .slice (some ⟨cr, 0, none⟩) n n] 80 (0, 0))
  mm : ∃ g : Nat, w.heap[mb]? = some (.cells #[.slice (some ⟨g, 0, none⟩) (f * 256) (f * 256)] 104 (0, 0))
  row : ∃ rs, w.heap[cr]? = some (.cells rs 94 (0, 0)) ∧ ∀ i, i < n → rs[i]? = some (.pointer (some ⟨o i, 0, none⟩))
  co : ∀ i, i < n → CO w (o i) (x i)
  inj : ∀ i k, i < n → k < n → o i = o k → i = k
  pos : 0 < n
/-- what is the machine's -/
def own (M mb cr n : Nat) (o : Nat → Nat) (k : Nat) : Prop := k = M ∨ k = mb ∨ k = cr ∨ ∃ i, i < n ∧ k = o i
section
variable {w w' : World} {M mb cr n f : Nat} {o : Nat → Nat} {x : Nat → Value}
theorem MS.keep (h : MS w M mb cr n f o x) (hk : ∀ k, k < w.heap.size → own M mb cr n o k → w'.heap[k]? = w.heap[k]?) : MS w' M mb cr n f o x := by
  obtain ⟨g, hg⟩ := h.mm
  obtain ⟨rs, hr, hr2⟩ := h.row
  exact ⟨(hk _ (lt_of_heap h.mc) (.inl rfl)).trans h.mc, ⟨g, (hk _ (lt_of_heap hg) (.inr (.inl rfl))).trans hg⟩, ⟨rs, (hk _ (lt_of_heap hr) (.inr (.inr (.inl rfl)))).trans hr, hr2⟩, fun i hi => (h.co i hi).keep (hk _ (h.co i hi).lt (.inr (.inr (.inr ⟨i, hi, rfl⟩)))), h.inj, h.pos⟩
theorem MS.below (h : MS w M mb cr n f o x) (hb : Below w.heap.size w w') : MS w' M mb cr n f o x := h.keep fun k hk _ => hb.block k hk
/-- a block that is none of the machine's, by its type -/
theorem MS.apart (h : MS w M mb cr n f o x) {k : Nat} {cs : Array Value} {t : TypeId} (hk : w.heap[k]? = some (.cells cs t (0, 0))) (h1 : t ≠ 80) (h2 : t ≠ 104) (h3 : t ≠ 94) (h4 : t ≠ 101) : ¬ own M mb cr n o k := by
  obtain ⟨g, hg⟩ := h.mm
  obtain ⟨rs, hr, hr2⟩ := h.row
  rintro (e | e | e | ⟨i, hi, e⟩)
  · exact ne_typ hk h.mc h1 e
  · exact ne_typ hk hg h2 e
  · exact ne_typ hk hr h3 e
  · obtain ⟨cs', hc⟩ := (h.co i hi).ob
    exact ne_typ hk hc h4 e
end
theorem inf5 : ∃ i, Try.prog.info? 5 = some i ∧ i.zero = some (.int .u8 0) ∧ i.size = 1 ∧ i.bytes = 1 := by
  have h : (Try.prog.info? 5).map (fun i => (i.zero, i.size, i.bytes)) = some (some (.int .u8 0), 1, 1) := by kernel_rfl
  obtain ⟨i, hi, hb⟩ := Option.map_eq_some_iff.1 h
  simp only [Prod.mk.injEq] at hb
  exact ⟨i, hi, hb.1, hb.2.1, hb.2.2⟩
theorem new_mem (f : Nat) (w : World) (h1 : 1 ≤ f) (h2 : f ≤ 65536) :
    Calls Try.prog 27 #[.int .i64 f] w fun e w' => ∃ b g : Nat, e = .returned (.tuple #[.pointer (some ⟨b, 0, none⟩), .int .i64 0]) ∧ w'.heap[b]? = some (.cells #[.slice (some ⟨g, 0, none⟩) (f * 256) (f * 256)] 104 (0, 0)) ∧ w.heap.size ≤ b ∧ Below w.heap.size w w' := by
  obtain ⟨i0, hi, hz0, hz1, hz2⟩ := inf5
  go_enter Try.func27, Try.ntmps27
  go_wp2_with (at_make; refine wpList_make_full _ rfl _ _ 102 rfl w.heap.size 5 i0 (.int .u8 0) 1 Try.underlying102 hi hz0 hz1 _ _ _ _ (f * 256) rfl rfl (by omega) (by omega) (by rw [hz2]; omega) (by unfold maxLen; omega) (by simp) ?_; intro w2 hown2 hgrow2)
  have hs2 := hgrow2.size
  go_ret2
  exact ⟨w2.heap.size, w.heap.size, rfl, heap_alloc_at _ _, hs2, ((Below.refl _ _).grown hgrow2 (by simp) (by intro k h; cases h)).alloc (by omega) _⟩
theorem new_cache (w : World) : Calls Try.prog 42 #[.int .i64 16] w fun e w' => ∃ b, e = .returned (.tuple #[.pointer (some ⟨b, 0, none⟩), .int .i64 0]) ∧ Below w.heap.size w w' := by
  have hmm := @run_makeMap Try.prog
  go_enter Try.func42, Try.ntmps42
  go_wp2
  go_ret2
  exact ⟨_, rfl, ((Below.refl _ _).alloc (Nat.le_refl _) _).alloc (by simp) _⟩
/-- cores made so far -/
structure NC (w wr : World) (n j : Nat) (o : Nat → Nat) : Prop where
  row : ∃ rs, wr.heap[w.heap.size]? = some (.cells rs 94 (0, 0)) ∧ rs.size = n ∧ (∀ i, i < j → rs[i]? = some (.pointer (some ⟨o i, 0, none⟩))) ∧ ∀ i, j ≤ i → i < n → rs[i]? = some (.pointer none)
  bel : Below w.heap.size w wr
  co : ∀ i, i < j → CO wr (o i) (.pointer none) ∧ w.heap.size ≤ o i
  inj : ∀ i k, i < j → k < j → o i = o k → i = k
theorem NC.next {w wr y : World} {n j : Nat} {o : Nat → Nat} (h : NC w wr n j o) (hj : j < n) (hb : Below wr.heap.size wr y) (a b c d : Value) (hd : Int) (hs : Bool) :
    NC w ((y.alloc (.cells #[a, b, .pointer none, c, d, .int .u64 hd, .bool hs] 101)).setCell ⟨w.heap.size, j, none⟩ (.pointer (some ⟨y.heap.size, 0, none⟩))) n (j + 1) (fun i => if i = j then y.heap.size else o i) := by
  obtain ⟨rs, h1, h2, h3, h4⟩ := h.row
  have lr := lt_of_heap h1
  have bx := below_box y (.cells #[a, b, .pointer none, c, d, .int .u64 hd, .bool hs] 101)
  have r1 := keepB h1 hb
  have r2 := keepB r1 bx
  have ly := lt_of_heap r1
  have t := trn_set1 r2 j (.pointer (some ⟨y.heap.size, 0, none⟩))
  have bl : Below w.heap.size w (y.alloc (.cells #[a, b, .pointer none, c, d, .int .u64 hd, .bool hs] 101)) := (h.bel.trans (hb.mono h.bel.size)).trans (bx.mono (Nat.le_trans h.bel.size hb.size))
  have old : ∀ i, i < j → CO ((y.alloc (.cells #[a, b, .pointer none, c, d, .int .u64 hd, .bool hs] 101)).setCell ⟨w.heap.size, j, none⟩ (.pointer (some ⟨y.heap.size, 0, none⟩))) (o i) (.pointer none) ∧ w.heap.size ≤ o i ∧ o i < y.heap.size := fun i hi => by
    obtain ⟨hc, hl⟩ := h.co i hi
    have c1 := hc.keep (hb.block _ hc.lt)
    have c2 := c1.keep (bx.block _ c1.lt)
    obtain ⟨cs, hcs⟩ := c2.ob
    exact ⟨c2.keep (t.block _ c2.lt (ne_typ hcs r2 (by decide))), hl, c1.lt⟩
  refine ⟨⟨_, heap_setCell r2 j _, by simpa using h2, fun i hi => ?_, fun i h5 h6 => ?_⟩, bl.trans (t.below bl.size fun k e => by omega), fun i hi => ?_, fun i k hi hk e => ?_⟩
  · rw [Array.getElem?_setIfInBounds]
    by_cases e : j = i
    · subst e
      rw [if_pos rfl, if_pos (by omega)]
      simp
    · rw [if_neg e, h3 i (by omega)]
      simp [show ¬ i = j from fun e' => e e'.symm]
  · rw [Array.getElem?_setIfInBounds, if_neg (by omega)]
    exact h4 i (by omega) h6
  · by_cases e : i = j
    · subst e
      simp only [if_pos]
      have n1 := heap_alloc_at y (.cells #[a, b, .pointer none, c, d, .int .u64 hd, .bool hs] 101)
      exact ⟨⟨a, b, c, d, hd, hs, (t.block _ (lt_of_heap n1) (by omega)).trans n1⟩, by omega⟩
    · simp only [if_neg e]
      exact ⟨(old i (by omega)).1, (old i (by omega)).2.1⟩
  · by_cases e1 : i = j
    · by_cases e2 : k = j
      · omega
      · have := (old k (by omega)).2.2
        simp only [if_pos e1, if_neg e2] at e
        omega
    · by_cases e2 : k = j
      · have := (old i (by omega)).2.2
        simp only [if_neg e1, if_pos e2] at e
        omega
      · simp only [if_neg e1, if_neg e2] at e
        exact h.inj i k (by omega) (by omega) e
theorem inf94 : ∃ i, Try.prog.info? 94 = some i ∧ i.zero = some (.pointer none) ∧ i.size = 1 ∧ i.bytes = 8 := by
  have h : (Try.prog.info? 94).map (fun i => (i.zero, i.size, i.bytes)) = some (some (.pointer none), 1, 8) := by kernel_rfl
  obtain ⟨i, hi, hb⟩ := Option.map_eq_some_iff.1 h
  simp only [Prod.mk.injEq] at hb
  exact ⟨i, hi, hb.1, hb.2.1, hb.2.2⟩
theorem row_new {w w2 : World} {n : Nat} (h : w2.ownsRow w.heap.size 94 1 (.slice (some ⟨w.heap.size, 0, none⟩) n n) n (madeCells (Value.pointer none).cells (n * 1)).toList) (hb : Below w.heap.size w w2) : NC w w2 n 0 (fun _ => 0) := by
  obtain ⟨_, h | ⟨g', cap, cur, hv, _, hh, _, _, hz, ht⟩⟩ := h
  · cases h.1
  · cases hv
    have hz' : cur.size = n := by simpa using hz
    refine ⟨⟨cur, hh, hz', fun i hi => by omega, fun i _ hi => ?_⟩, hb, fun i hi => by omega, fun i k hi => by omega⟩
    have e : cur.toList = (madeCells (Value.pointer none).cells (n * 1)).toList := by
      rw [← ht, List.take_of_length_le (by simp; omega)]
    have : cur[i]? = cur.toList[i]? := by simp
    rw [this, e]
    simp [madeCells, Value.cells, hi, Nat.mod_one]
set_option maxHeartbeats 3200000 in
theorem newCores_any (n : Nat) (h1 : 1 ≤ n) (h2 : n ≤ 8) (mb : Nat) (w : World) : Calls Try.prog 28 #[.int .i64 n, .pointer (some ⟨mb, 0, none⟩)] w fun e w' => e = .returned (.slice (some ⟨w.heap.size, 0, none⟩) n n) ∧ ∃ o, NC w w' n n o := by
  obtain ⟨i0, hi, hz0, hz1, hz2⟩ := inf94
  go_enter Try.func28, Try.ntmps28
  go_wp2_with (at_make; refine wpList_make_full _ rfl _ _ 77 rfl w.heap.size 94 i0 (.pointer none) 1 Try.underlying77 hi hz0 hz1 _ _ _ _ n rfl rfl (by omega) (by omega) (by rw [hz2]; omega) (by unfold maxLen; omega) (by simp) ?_; intro w2 hown2 hgrow2)
  have HN : Hid (NC w w2 n 0 (fun _ => 0)) := row_new hown2 ((Below.refl _ _).grown hgrow2 (by simp) (by intro k h; cases h))
  clear hown2 hgrow2
  go_wp2_with fail
  go_loopw [13] (fun q wr => ∃ (j : Nat) (o : Nat → Nat), j ≤ n ∧ q = .int .i64 j ∧ Hid (NC w wr n j o)) (fun q _ => n - (intOf q).toNat)
  case atStart => exact ⟨0, _, by omega, rfl, HN⟩
  case round =>
    obtain ⟨j, o, hj, rfl, HJ⟩ := hrel
    clear HN
    by_cases hjn : j < n
    · have CN := new_cache wr
      have hjn' : (j : Int) < n := by omega
      go_wp2_with fail
      refine CN.mono ?_
      rintro e y ⟨kb, rfl, hb⟩
      obtain ⟨rs, hr, hz, _, _⟩ := HJ.out.row
      have r1 := keepB hr hb
      obtain ⟨q0, hq0⟩ : ∃ q0, rs[j]? = some q0 := ⟨_, Array.getElem?_eq_getElem (by omega)⟩
      have c0 := (cell_at r1 j).trans hq0
      have rl := lt_of_heap r1
      have rf := fz_at r1 j
      have HF : Hid (NC w ((y.alloc (.cells #[.pointer (some ⟨mb, 0, none⟩), .slice (some ⟨w.heap.size, 0, none⟩) n n, .pointer none, .pointer (some ⟨kb, 0, none⟩), .slice none 0 0, .int .u64 0, .bool false] 101)).setCell ⟨w.heap.size, j, none⟩ (.pointer (some ⟨y.heap.size, 0, none⟩))) n (j + 1) (fun i => if i = j then y.heap.size else o i)) := HJ.out.next hjn hb _ _ _ _ _ _
      rw [World.setCell_alloc_past _ _ _ _ rl] at HF
      have ne : ¬ w.heap.size = y.heap.size := by omega
      clear CN hb HJ hr r1 hz hq0
      go_wp2_with fail
      go_roundw
      case rel => exact ⟨j + 1, _, by omega, by go_num, HF⟩
      case measure => simp [intOf]; omega
    · obtain rfl : j = n := by omega
      go_wp2_with fail
      go_ret
      exact ⟨rfl, _, HJ.out⟩
/-- a machine that New made -/
theorem made_of {w w1 w2 : World} {mb g n f : Nat} {o : Nat → Nat} (hm : w1.heap[mb]? = some (.cells #[.slice (some ⟨g, 0, none⟩) (f * 256) (f * 256)] 104 (0, 0))) (l1 : w.heap.size ≤ mb) (b1 : Below w.heap.size w w1) (hn : NC w1 w2 n n o) (h1 : 1 ≤ n) :
    (∀ k, own w2.heap.size mb w1.heap.size n o k → w.heap.size ≤ k) ∧ MS (w2.alloc (.cells #[.pointer (some ⟨mb, 0, none⟩), .slice (some ⟨w1.heap.size, 0, none⟩) n n] 80)) w2.heap.size mb w1.heap.size n f o (fun _ => .pointer none) ∧ Below w.heap.size w (w2.alloc (.cells #[.pointer (some ⟨mb, 0, none⟩), .slice (some ⟨w1.heap.size, 0, none⟩) n n] 80)) := by
  obtain ⟨rs, hr, hz, hr2, _⟩ := hn.row
  have bx := below_box w2 (.cells #[.pointer (some ⟨mb, 0, none⟩), .slice (some ⟨w1.heap.size, 0, none⟩) n n] 80)
  have bw := b1.trans (hn.bel.mono b1.size)
  have s1 := b1.size
  have s2 := hn.bel.size
  refine ⟨fun k hk => ?_, ?_⟩
  · rcases hk with rfl | rfl | rfl | ⟨i, hi, rfl⟩
    · omega
    · exact l1
    · omega
    · have := (hn.co i hi).2
      omega
  exact ⟨⟨heap_alloc_at _ _, ⟨g, keepB (keepB hm hn.bel) bx⟩, ⟨rs, keepB hr bx, hr2⟩, fun i hi => (hn.co i hi).1.keep (bx.block _ (hn.co i hi).1.lt), hn.inj, h1⟩, bw.trans (bx.mono bw.size)⟩
set_option maxHeartbeats 1600000 in
theorem new_m (n f : Nat) (h1 : 1 ≤ n) (h2 : n ≤ 8) (h3 : 1 ≤ f) (h4 : f ≤ 65536) (w : World) : Calls Try.prog 8 #[.int .i64 n, .int .i64 f] w fun e w' => ∃ (M mb cr : Nat) (o : Nat → Nat), e = .returned (.tuple #[.pointer (some ⟨M, 0, none⟩), .int .i64 0]) ∧ MS w' M mb cr n f o (fun _ => .pointer none) ∧ (∀ k, own M mb cr n o k → w.heap.size ≤ k) ∧ Below w.heap.size w w' := by
  have C1 := new_mem f w h3 h4
  go_enter Try.func8, Try.ntmps8
  go_wp2_with fail
  refine C1.mono ?_
  rintro e w1 ⟨mb, g, rfl, hm, l1, b1⟩
  have HM : Hid (_) := And.intro hm b1
  have C2 := newCores_any n h1 h2 mb w1
  have s1 := b1.size
  clear C1 hm b1
  go_wp2_with fail
  refine C2.mono ?_
  rintro e w2 ⟨rfl, o, hn⟩
  have s2 := hn.bel.size
  have HF : Hid (_) := made_of HM.out.1 l1 HM.out.2 hn h1
  clear C2 hn HM
  go_wp2_with fail
  refine bodyPost_ret (v := _) ?h1 rfl ⟨_, _, _, _, rfl, HF.out.2.1, HF.out.1, HF.out.2.2⟩
  case h1 => simp [results, Try.results8, go_sem]
end Go.Proofs.Ytjkaeclemflifaa
