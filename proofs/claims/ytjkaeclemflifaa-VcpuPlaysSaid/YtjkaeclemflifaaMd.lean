/-
  A machine's calls: Cores, Put, Get, Take.
-/
import Derived.Test.YtjkaeclemflifaaMc
import Derived.Deep.RegionHeld2
namespace Go.Proofs.Ytjkaeclemflifaa
open Go.RowKit
set_option linter.unusedVariables false
set_option maxRecDepth 100000
/-- a context's cells -/
def ctxA (g : Int) (N : Nat → Int) (F : Nat) (root : Int) : Array Value := #[.int .i64 g, .int .u64 (N 0), .int .u64 (N 1), .int .u64 (N 2), .int .u64 (N 3), .int .u64 (N 4), .int .u64 (N 5), .int .u64 (N 6), .int .u64 (N 7), .int .u64 (N 8), .int .u64 (N 9), .int .u64 (N 10), .int .u64 (N 11), .int .u64 (N 12), .int .u64 (N 13), .int .u64 (N 14), .int .u64 (N 15), .int .u64 (N 16), .int .i64 (s64 (N 17)), .pointer (some ⟨F, 0, none⟩), .int .i64 root]
/-- a context of none -/
def zeroCtx : Array Value := #[.int .i64 0, .int .u64 0, .int .u64 0, .int .u64 0, .int .u64 0, .int .u64 0, .int .u64 0, .int .u64 0, .int .u64 0, .int .u64 0, .int .u64 0, .int .u64 0, .int .u64 0, .int .u64 0, .int .u64 0, .int .u64 0, .int .u64 0, .int .u64 0, .int .i64 0, .pointer none, .int .i64 0]
theorem inf68 : (Try.prog.info? 68).map (·.size) = some 21 := by kernel_rfl
theorem ctxA_one (g : Int) (N : Nat → Int) (F : Nat) (root : Int) : (ctxA g N F root).all (·.oneCell') = true := by simp [ctxA, Value.oneCell']
theorem zeroCtx_one : zeroCtx.all (·.oneCell') = true := by simp [zeroCtx, Value.oneCell']
section
variable {w w' : World} {M mb cr n f : Nat} {o : Nat → Nat} {x : Nat → Value}
theorem MS.bound (h : MS w M mb cr n f o x) : w.cell? ⟨M, 0, none⟩ = some (.pointer (some ⟨mb, 0, none⟩)) ∧ w.cell? ⟨M, 1, none⟩ = some (.slice (some ⟨cr, 0, none⟩) n n) ∧ M < w.heap.size := ⟨(cell_at h.mc 0).trans rfl, (cell_at h.mc 1).trans rfl, lt_of_heap h.mc⟩
theorem isMade_m (h : MS w M mb cr n f o x) : Calls Try.prog 50 #[.pointer (some ⟨M, 0, none⟩)] w fun e w' => e = .returned (.bool true) ∧ w' = w := by
  obtain ⟨_, c1, hl⟩ := h.bound
  have hp : (0 : Int) < n := by have := h.pos; omega
  clear h
  go_enter Try.func50, Try.ntmps50
  go_wp2_with fail
  go_ret
  exact ⟨ret_bool (by simp; omega), rfl⟩
theorem isMade_nil (w : World) : Calls Try.prog 50 #[.pointer none] w fun e w' => e = .returned (.bool false) ∧ w' = w := by
  go_enter Try.func50, Try.ntmps50
  go_wp2_with fail
  go_ret
  exact ⟨rfl, rfl⟩
theorem cores_m (h : MS w M mb cr n f o x) : Calls Try.prog 43 #[.pointer (some ⟨M, 0, none⟩)] w fun e w' => e = .returned (.int .i64 n) ∧ w' = w := by
  obtain ⟨_, c1, hl⟩ := h.bound
  have C1 := isMade_m h
  clear h
  go_enter Try.func43, Try.ntmps43
  go_wp2_with fail
  refine C1.mono ?_
  rintro e w ⟨rfl, rfl⟩
  go_wp2_with fail
  go_ret
  exact ⟨rfl, rfl⟩
theorem cores_nil (w : World) : Calls Try.prog 43 #[.pointer none] w fun e w' => e = .returned (.int .i64 0) ∧ w' = w := by
  have C1 := isMade_nil w
  go_enter Try.func43, Try.ntmps43
  go_wp2_with fail
  refine C1.mono ?_
  rintro e w ⟨rfl, rfl⟩
  go_wp2_with fail
  go_ret
  exact ⟨rfl, rfl⟩
theorem of_m (h : MS w M mb cr n f o x) (i : Nat) (hi : i < n) : Calls Try.prog 45 #[.pointer (some ⟨M, 0, none⟩), .int .i64 i] w fun e w' => e = .returned (.tuple #[.pointer (some ⟨o i, 0, none⟩), .int .i64 0]) ∧ w' = w := by
  obtain ⟨_, c1, hl⟩ := h.bound
  obtain ⟨rs, hr, hr2⟩ := h.row
  have c2 := (cell_at hr i).trans (hr2 i hi)
  have hl2 := lt_of_heap hr
  have C1 := isMade_m h
  have hi1 : (i : Int) < n := by omega
  have hi0 : (0 : Int) ≤ i := by omega
  clear h hr hr2
  go_enter Try.func45, Try.ntmps45
  go_wp2_with fail
  refine C1.mono ?_
  rintro e w ⟨rfl, rfl⟩
  go_wp2_with fail
  refine bodyPost_ret (v := _) ?h1 rfl ⟨rfl, rfl⟩
  case h1 => simp [results, Try.results45, go_sem]
theorem of_no (h : MS w M mb cr n f o x) (i : Int) (hi : i < 0 ∨ (n : Int) ≤ i) : Calls Try.prog 45 #[.pointer (some ⟨M, 0, none⟩), .int .i64 i] w fun e w' => e = .returned (.tuple #[.pointer none, .int .i64 2]) ∧ w' = w := by
  obtain ⟨_, c1, hl⟩ := h.bound
  have C1 := isMade_m h
  clear h
  rcases hi with hi | hi
  · go_enter Try.func45, Try.ntmps45
    go_wp2_with fail
    refine C1.mono ?_
    rintro e w ⟨rfl, rfl⟩
    go_wp2_with fail
    refine bodyPost_ret (v := _) ?h1 rfl ⟨rfl, rfl⟩
    case h1 => simp [results, Try.results45, go_sem]
  · have hi0 : ¬ i < 0 := by omega
    go_enter Try.func45, Try.ntmps45
    go_wp2_with fail
    refine C1.mono ?_
    rintro e w ⟨rfl, rfl⟩
    go_wp2_with fail
    refine bodyPost_ret (v := _) ?h1 rfl ⟨rfl, rfl⟩
    case h1 => simp [results, Try.results45, go_sem]
theorem running_yes (h : MS w M mb cr n f o x) (i : Nat) (hi : i < n) (cb : Nat) (hx : x i = .pointer (some ⟨cb, 0, none⟩)) : Calls Try.prog 41 #[.pointer (some ⟨M, 0, none⟩), .int .i64 i] w fun e w' => e = .returned (.tuple #[.pointer (some ⟨o i, 0, none⟩), .int .i64 0]) ∧ w' = w := by
  have c2 := (h.co i hi).c2
  rw [hx] at c2
  have hl := (h.co i hi).lt
  have C1 := of_m h i hi
  clear h
  go_enter Try.func41, Try.ntmps41
  go_wp2_with fail
  refine C1.mono ?_
  rintro e w ⟨rfl, rfl⟩
  go_wp2_with fail
  refine bodyPost_ret (v := _) ?h1 rfl ⟨rfl, rfl⟩
  case h1 => simp [results, Try.results41, go_sem]
theorem running_none (h : MS w M mb cr n f o x) (i : Nat) (hi : i < n) (hx : x i = .pointer none) : Calls Try.prog 41 #[.pointer (some ⟨M, 0, none⟩), .int .i64 i] w fun e w' => e = .returned (.tuple #[.pointer none, .int .i64 14]) ∧ w' = w := by
  have c2 := (h.co i hi).c2
  rw [hx] at c2
  have hl := (h.co i hi).lt
  have C1 := of_m h i hi
  clear h
  go_enter Try.func41, Try.ntmps41
  go_wp2_with fail
  refine C1.mono ?_
  rintro e w ⟨rfl, rfl⟩
  go_wp2_with fail
  refine bodyPost_ret (v := _) ?h1 rfl ⟨rfl, rfl⟩
  case h1 => simp [results, Try.results41, go_sem]
theorem CO.let {o : Nat} {x : Value} (h : CO w o x) : CO ((w.setCell ⟨o, 5, none⟩ (.int .u64 0)).setCell ⟨o, 6, none⟩ (.bool false)) o x ∧ Trn (fun k => k = o) w ((w.setCell ⟨o, 5, none⟩ (.int .u64 0)).setCell ⟨o, 6, none⟩ (.bool false)) := by
  obtain ⟨a, b, c, d, hd, hs, h⟩ := h
  have k1 := heap_setCell h 5 (.int .u64 0)
  have k2 := heap_setCell k1 6 (.bool false)
  exact ⟨⟨a, b, c, d, 0, false, k2.trans rfl⟩, (trn_set1 h 5 _).trans (trn_set1 k1 6 _)⟩
theorem CO.set {o : Nat} {x : Value} (h : CO w o x) (v : Value) : CO (w.setCell ⟨o, 2, none⟩ v) o v ∧ Trn (fun k => k = o) w (w.setCell ⟨o, 2, none⟩ v) := by
  obtain ⟨a, b, c, d, hd, hs, h⟩ := h
  exact ⟨⟨a, b, c, d, hd, hs, (heap_setCell h 2 v).trans rfl⟩, trn_set1 h 2 _⟩
theorem letGo_co {o : Nat} {x : Value} (h : CO w o x) : Calls Try.prog 44 #[.pointer (some ⟨o, 0, none⟩)] w fun e w' => e = .returned (.tuple #[]) ∧ CO w' o x ∧ Trn (fun k => k = o) w w' := by
  have HF : Hid (_) := h.let
  obtain ⟨a, b, c, d, hd, hs, h⟩ := h
  have c5 := (cell_at h 5).trans (show _ = some (.int .u64 hd) from rfl)
  have c6 := (cell_at h 6).trans (show _ = some (.bool hs) from rfl)
  have hl := lt_of_heap h
  have f5 := fz_at h 5
  have f6 := fz_at h 6
  clear h
  go_enter Try.func44, Try.ntmps44
  go_wp2_with fail
  exact bodyPost_end (v := .tuple #[]) (by simp [results, Try.results44]) rfl ⟨rfl, HF.out⟩
/-- a core's context is another -/
theorem MS.turn (h : MS w M mb cr n f o x) {i : Nat} (hi : i < n) {v : Value} (hc : CO w' (o i) v) (ht : Trn (fun k => k = o i) w w') : MS w' M mb cr n f o (fun k => if k = i then v else x k) := by
  obtain ⟨g, hg⟩ := h.mm
  obtain ⟨rs, hr, hr2⟩ := h.row
  obtain ⟨cs, ho⟩ := (h.co i hi).ob
  refine ⟨(ht.block _ (lt_of_heap h.mc) (ne_typ h.mc ho (by decide))).trans h.mc, ⟨g, (ht.block _ (lt_of_heap hg) (ne_typ hg ho (by decide))).trans hg⟩, ⟨rs, (ht.block _ (lt_of_heap hr) (ne_typ hr ho (by decide))).trans hr, hr2⟩, fun k hk => ?_, h.inj, h.pos⟩
  by_cases e : k = i
  · rw [if_pos e, e]
    exact hc
  · rw [if_neg e]
    exact (h.co k hk).keep (ht.block _ (h.co k hk).lt fun e' => e (h.inj k i hk hi e'))
end
theorem read_ff (F : Nat) (R : Nat → Int) (w : World) (h : FF w F R) : Calls Try.prog 54 #[.pointer (some ⟨F, 0, none⟩), .int .i64 0, .int .i64 1] w fun e w' => e = .returned (.tuple #[.int .u64 (R 0), .int .i64 0]) ∧ w' = w := by
  have C1 := reach_ff F R 0 1 w h
  rw [show reachP 0 1 = 0 by decide] at C1
  have c := h.c 0 (by decide)
  have hl := h.lt
  clear h
  go_enter Try.func54, Try.ntmps54
  go_wp2_with fail
  refine C1.mono ?_
  rintro e w ⟨rfl, rfl⟩
  go_wp2_with fail
  refine bodyPost_ret (v := _) ?h1 rfl ⟨rfl, rfl⟩
  case h1 => simp [results, Try.results54, go_sem]
theorem isFile_ff (F : Nat) (R : Nat → Int) (w : World) (h : FF w F R) : Calls Try.prog 51 #[.pointer (some ⟨F, 0, none⟩)] w fun e w' => e = .returned (.bool true) ∧ w' = w := by
  have C1 := read_ff F R w h
  clear h
  go_enter Try.func51, Try.ntmps51
  go_wp2_with fail
  refine C1.mono ?_
  rintro e x ⟨rfl, rfl⟩
  go_wp2_with fail
  go_ret
  exact ⟨rfl, rfl⟩
theorem frames_m (b g f : Nat) (h2 : f ≤ 65536) (w : World) (h : w.heap[b]? = some (.cells #[.slice (some ⟨g, 0, none⟩) (f * 256) (f * 256)] 104 (0, 0))) : Calls Try.prog 52 #[.pointer (some ⟨b, 0, none⟩)] w fun e w' => e = .returned (.int .i64 f) ∧ w' = w := by
  have c0 := (cell_at h 0).trans (show _ = some (.slice (some ⟨g, 0, none⟩) (f * 256) (f * 256)) from rfl)
  have hl := lt_of_heap h
  clear h
  have C1 : Calls Try.prog 55 #[.pointer (some ⟨b, 0, none⟩)] w fun e w' => e = .returned (.slice (some ⟨g, 0, none⟩) (f * 256) (f * 256)) ∧ w' = w := by
    go_enter Try.func55, Try.ntmps55
    go_wp2_with fail
    go_ret
    exact ⟨rfl, rfl⟩
  go_enter Try.func52, Try.ntmps52
  go_wp2_with fail
  refine C1.mono ?_
  rintro e w ⟨rfl, rfl⟩
  go_wp2_with fail
  go_ret
  exact ⟨ret_int (by omega), rfl⟩
set_option maxHeartbeats 3200000 in
theorem mayHave_m {w : World} {M mb cr n f : Nat} {o : Nat → Nat} {x : Nat → Value} (h : MS w M mb cr n f o x) (h1 : 1 ≤ f) (h2 : f ≤ 65536) (F : Nat) (R : Nat → Int) (hf : FF w F R) (N : Nat → Int) (g : Int) (hg : 0 ≤ g) :
    Calls Try.prog 46 #[.pointer (some ⟨M, 0, none⟩), .agg (ctxA g N F 0)] w fun e w' => e = .returned (.bool true) ∧ Below w.heap.size w w' := by
  have b0 : Below w.heap.size w (w.alloc (.cells (ctxA g N F 0) 68)) := below_box _ _
  have n0 := heap_alloc_at w (.cells (ctxA g N F 0) 68)
  have c19 : (w.alloc (.cells (ctxA g N F 0) 68)).cell? ⟨w.heap.size, 19, none⟩ = some (.pointer (some ⟨F, 0, none⟩)) := (cell_at n0 19).trans rfl
  have c0 : (w.alloc (.cells (ctxA g N F 0) 68)).cell? ⟨w.heap.size, 0, none⟩ = some (.int .i64 g) := (cell_at n0 0).trans rfl
  have c20 : (w.alloc (.cells (ctxA g N F 0) 68)).cell? ⟨w.heap.size, 20, none⟩ = some (.int .i64 0) := (cell_at n0 20).trans rfl
  have cM : (w.alloc (.cells (ctxA g N F 0) 68)).cell? ⟨M, 0, none⟩ = some (.pointer (some ⟨mb, 0, none⟩)) := (h.below b0).bound.1
  have hl := (h.below b0).bound.2.2
  have hl2 := lt_of_heap n0
  have C1 := isFile_ff F R _ (hf.below b0.drew)
  obtain ⟨gg, hgg⟩ := h.mm
  have C2 := frames_m mb gg f h2 _ (keepB hgg b0.drew)
  have hg' : decide (0 ≤ g) = true := by simp [hg]
  have hf' : decide ((0 : Int) < f) = true := by simp; omega
  clear h hgg hf n0
  have HB : Hid (_) := b0
  clear b0
  go_enter Try.func46, Try.ntmps46
  go_wp2_with fail
  generalize w.alloc (.cells _ 68) = x at *
  go_region_held2 (fun w'' => w'' = x.drew ∧ w''.cell? ⟨w.heap.size, 19, none⟩ = some (.pointer (some ⟨F, 0, none⟩)) ∧ w''.cell? ⟨w.heap.size, 0, none⟩ = some (.int .i64 g) ∧ w''.cell? ⟨w.heap.size, 20, none⟩ = some (.int .i64 0) ∧ w''.cell? ⟨M, 0, none⟩ = some (.pointer (some ⟨mb, 0, none⟩))) (first | go_keep | (refine ⟨rfl, ?_⟩; go_keep))
    ((first
      | (go_at_call 51; refine C1.mono ?_; rintro e y ⟨rfl, rfl⟩)
      | (go_at_call 52; refine C2.mono ?_; rintro e y ⟨rfl, rfl⟩)))
  go_wp2_with fail
  go_ret
  exact ⟨ret_bool (by simp; omega), HB.out.drew⟩
end Go.Proofs.Ytjkaeclemflifaa
