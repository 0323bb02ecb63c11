/-
  Timers in the heap: a block of two maps; what now and of tell.
-/
import Derived.Test.YtgiafngiledmbaaPl
namespace Go.Proofs.Ytgiafngiledmbaa
open Go.RowKit Go.Maps
set_option linter.unusedVariables false
set_option maxRecDepth 100000


/-- the program's timers -/
structure VX (w : World) (t ms mt : Nat) (L : List Tm) : Prop where
  ob : w.heap[t]? = some (.cells #[.map (some ms), .map (some mt)] 41 (0, 0))
  sm : MapIs w ms L.length (SM L)
  nt : ∃ N, MapIs w mt N (TM L)
  ne : ms ≠ mt
  ok : LOk L
section
variable {w w' : World} {t ms mt : Nat} {L : List Tm}
theorem VX.lt (h : VX w t ms mt L) : t < w.heap.size := lt_of_heap h.ob
theorem VX.lts (h : VX w t ms mt L) : ms < w.heap.size := h.sm.lt
theorem VX.ltt (h : VX w t ms mt L) : mt < w.heap.size := by obtain ⟨N, h⟩ := h.nt; exact h.lt
theorem VX.ns (h : VX w t ms mt L) : ms ≠ t := fun e => by
  obtain ⟨es, c, h1⟩ := h.sm.typ
  rw [e, h.ob] at h1
  cases h1
theorem VX.nt' (h : VX w t ms mt L) : mt ≠ t := fun e => by
  obtain ⟨N, h2⟩ := h.nt
  obtain ⟨es, c, h1⟩ := h2.typ
  rw [e, h.ob] at h1
  cases h1
theorem VX.c0 (h : VX w t ms mt L) : w.cell? ⟨t, 0, none⟩ = some (.map (some ms)) := by rw [cell_at h.ob]; rfl
theorem VX.c1 (h : VX w t ms mt L) : w.cell? ⟨t, 1, none⟩ = some (.map (some mt)) := by rw [cell_at h.ob]; rfl
theorem VX.keep (h : VX w t ms mt L) (hk : ∀ k, k = t ∨ k = ms ∨ k = mt → w'.heap[k]? = w.heap[k]?) : VX w' t ms mt L :=
  ⟨(hk t (.inl rfl)).trans h.ob, h.sm.keep (hk ms (.inr (.inl rfl))), by obtain ⟨N, h2⟩ := h.nt; exact ⟨N, h2.keep (hk mt (.inr (.inr rfl)))⟩, h.ne, h.ok⟩
theorem VX.below (h : VX w t ms mt L) (hb : Below w.heap.size w w') : VX w' t ms mt L :=
  h.keep fun k hk => hb.block k (by rcases hk with rfl | rfl | rfl; exact h.lt; exact h.lts; exact h.ltt)
theorem VX.trn {S : Nat → Prop} (h : VX w t ms mt L) (hb : Trn S w w') (hS : ∀ k, k = t ∨ k = ms ∨ k = mt → ¬ S k) : VX w' t ms mt L :=
  h.keep fun k hk => hb.block k (by rcases hk with rfl | rfl | rfl; exact h.lt; exact h.lts; exact h.ltt) (hS k hk)
end
theorem map_nil38 (m : Nat) (w : World) : (binOp .eql 38 (.map (some m)) (.map none)).run Try.prog w = .ok (.bool false) w := by kernel_rfl
theorem map_none38 (w : World) : (binOp .eql 38 (.map none) (.map none)).run Try.prog w = .ok (.bool true) w := by kernel_rfl
theorem zeroS (w : World) : (zeroValue 57).run Try.prog w = .ok (.agg #[.int .u64 0, .bool false, .int .u64 0]) w := by kernel_rfl
theorem zeroT (w : World) : (zeroValue 30).run Try.prog w = .ok (.int .u64 0) w := by kernel_rfl
def sp (b : Int) (h : Bool) (s : Int) : Value := .agg #[.int .u64 b, .bool h, .int .u64 s]
def nowV (b : Int) (h : Bool) (s c : Int) : Int := if h then s else if cap c < b then 0 else cap c - b
theorem nowV_tm (x : Tm) (c : Int) : nowV (if x.halted then 0 else x.base) x.halted (if x.halted then x.still else 0) c = tm x c := by
  unfold nowV tm
  cases x.halted <;> rfl
theorem now_any (b : Int) (h : Bool) (s c : Int) (hb : 0 ≤ b) (hb1 : b ≤ 4611686018427387904) (hc : 0 ≤ c) (w : World) :
    Calls Try.prog 27 #[sp b h s, .int .u64 c] w fun e w' => e = .returned (.int .u64 (nowV b h s c)) ∧ Below w.heap.size w w' := by
  have HB : Hid (Below w.heap.size w (w.alloc (.cells #[.int .u64 b, .bool h, .int .u64 s] 57))) := below_box w _
  unfold sp
  cases h with
  | true =>
    go_enter Try.func27, Try.ntmps27
    go_wp2_with fail
    go_ret
    exact ⟨rfl, HB.out⟩
  | false =>
    have e : nowV b false s c = max (min c 4611686018427387904) b - b := by
      show (if cap c < b then 0 else cap c - b) = _
      unfold cap
      split <;> omega
    have hw : IntKind.u64.wrap (max (min c 4611686018427387904) b - b) = max (min c 4611686018427387904) b - b := by rw [IntKind.wrap_u64]; omega
    rw [e]
    go_enter Try.func27, Try.ntmps27
    go_wp2_with fail
    go_ret
    exact ⟨rfl, HB.out⟩
theorem info57 : (Try.prog.info? 57).map (·.size) = some 3 := by kernel_rfl
/-- what of tells -/
def ofV (L : List Tm) (k : Int) : Value := (SM L k).getD (sp 0 false 0)
def ofE (L : List Tm) (k : Int) : Int := if (fnd L k).isSome then 0 else 14
theorem spv_sp (x : Tm) : spv x = sp (if x.halted then 0 else x.base) x.halted (if x.halted then x.still else 0) := rfl
theorem ofV_sp (L : List Tm) (k : Int) : ∃ b h s, ofV L k = sp b h s := by
  unfold ofV SM
  cases fnd L k with
  | none => exact ⟨_, _, _, rfl⟩
  | some x => exact ⟨_, _, _, spv_sp x⟩
section
variable {w : World} {t ms mt : Nat} {L : List Tm}
theorem of_vx (h : VX w t ms mt L) (k : Int) (hk : KW k) : Calls Try.prog 26 #[.pointer (some ⟨t, 0, none⟩), .int .i64 k] w fun e w' => e = .returned (.tuple #[ofV L k, .int .i64 (ofE L k)]) ∧ Below w.heap.size w w' := by
  have B1 : Hid (Below w.heap.size w (w.alloc (.cells #[.int .u64 0, .bool false, .int .u64 0] 57))) := below_box w _
  have h1 := h.below B1.out
  have c0 := h1.c0
  have hl := h1.lt
  have hn := map_nil38 ms
  have hr := look_ok Try.underlying38 (zeroS _) h1.sm k hk
  obtain ⟨b, hh, s, hv⟩ := ofV_sp L k
  have hv2 : (SM L k).getD (.agg #[.int .u64 0, .bool false, .int .u64 0]) = .agg #[.int .u64 b, .bool hh, .int .u64 s] := hv
  rw [hv2] at hr
  have B2 : Hid (Below w.heap.size w ((w.alloc (.cells #[.int .u64 0, .bool false, .int .u64 0] 57)).alloc (.cells #[.int .u64 b, .bool hh, .int .u64 s] 57))) := B1.out.alloc (by simp) _
  have g1 : ((w.alloc (.cells #[.int .u64 0, .bool false, .int .u64 0] 57)).alloc (.cells #[.int .u64 b, .bool hh, .int .u64 s] 57)).heap[w.heap.size]? = some (.cells #[.int .u64 0, .bool false, .int .u64 0] 57) := (heap_alloc_past _ _ (by simp)).trans (heap_alloc_at w _)
  have hi57 := info57
  rw [hv]
  unfold sp
  have hsm : (SM L k).isSome = (fnd L k).isSome := by unfold SM; cases fnd L k <;> rfl
  rw [hsm] at hr
  clear h h1
  cases hf : (fnd L k).isSome with
  | true =>
    have e : ofE L k = 0 := by unfold ofE; rw [if_pos hf]
    rw [e]
    rw [hf] at hr
    have hone : (#[.int .u64 b, .bool hh, .int .u64 s] : Array Value).all (·.oneCell') = true := by simp [Value.oneCell']
    have H2 : Hid (Below w.heap.size w (((w.alloc (.cells #[.int .u64 0, .bool false, .int .u64 0] 57)).alloc (.cells #[.int .u64 b, .bool hh, .int .u64 s] 57)).setRow w.heap.size #[.int .u64 b, .bool hh, .int .u64 s]) ∧ (((w.alloc (.cells #[.int .u64 0, .bool false, .int .u64 0] 57)).alloc (.cells #[.int .u64 b, .bool hh, .int .u64 s] 57)).setRow w.heap.size #[.int .u64 b, .bool hh, .int .u64 s]).heap[w.heap.size]? = some (.cells #[.int .u64 b, .bool hh, .int .u64 s] 57)) :=
      ⟨B2.out.trans (below_setRow' _ _ (Nat.le_refl _) _), setRow_heap _ _ _ _ 57 _ g1⟩
    clear B1 B2
    go_enter Try.func26, Try.ntmps26
    go_wp2_with (refine wpList_store_row rfl 57 _ _ rfl w.heap.size #[.int .u64 b, .bool hh, .int .u64 s] rfl rfl 57 _ g1 hi57 rfl hone ?_)
    have q0 := cell_at H2.out.2 0
    have q1 := cell_at H2.out.2 1
    have q2 := cell_at H2.out.2 2
    have q3 := lt_of_heap H2.out.2
    simp at q0 q1 q2
    refine bodyPost_ret (v := .tuple #[.agg #[.int .u64 b, .bool hh, .int .u64 s], .int .i64 0]) ?h1 rfl ⟨rfl, H2.out.1⟩
    case h1 => simp [results, Try.results26, go_sem, q0, q1, q2]
  | false =>
    have e : ofE L k = 14 := by unfold ofE; rw [if_neg (by rw [hf]; decide)]
    rw [e]
    rw [hf] at hr
    have hz : b = 0 ∧ hh = false ∧ s = 0 := by
      have hq : SM L k = none := by rw [hf] at hsm; cases hq : SM L k with
        | none => rfl
        | some y => rw [hq] at hsm; cases hsm
      rw [hq] at hv2
      simp at hv2
      exact ⟨hv2.1.symm, hv2.2.1, hv2.2.2.symm⟩
    obtain ⟨rfl, rfl, rfl⟩ := hz
    have hone : (#[.int .u64 0, .bool false, .int .u64 0] : Array Value).all (·.oneCell') = true := by simp [Value.oneCell']
    have H2 : Hid (Below w.heap.size w (((w.alloc (.cells #[.int .u64 0, .bool false, .int .u64 0] 57)).alloc (.cells #[.int .u64 0, .bool false, .int .u64 0] 57)).setRow w.heap.size #[.int .u64 0, .bool false, .int .u64 0]) ∧ (((w.alloc (.cells #[.int .u64 0, .bool false, .int .u64 0] 57)).alloc (.cells #[.int .u64 0, .bool false, .int .u64 0] 57)).setRow w.heap.size #[.int .u64 0, .bool false, .int .u64 0]).heap[w.heap.size]? = some (.cells #[.int .u64 0, .bool false, .int .u64 0] 57)) :=
      ⟨B2.out.trans (below_setRow' _ _ (Nat.le_refl _) _), setRow_heap _ _ _ _ 57 _ g1⟩
    clear B1 B2
    go_enter Try.func26, Try.ntmps26
    go_wp2_with (refine wpList_store_row rfl 57 _ _ rfl w.heap.size #[.int .u64 0, .bool false, .int .u64 0] rfl rfl 57 _ g1 hi57 rfl hone ?_)
    have q0 := cell_at H2.out.2 0
    have q1 := cell_at H2.out.2 1
    have q2 := cell_at H2.out.2 2
    have q3 := lt_of_heap H2.out.2
    simp at q0 q1 q2
    refine bodyPost_ret (v := .tuple #[.agg #[.int .u64 0, .bool false, .int .u64 0], .int .i64 14]) ?h1 rfl ⟨rfl, H2.out.1⟩
    case h1 => simp [results, Try.results26, go_sem, q0, q1, q2]
end
/-- none: nil, or one that no call made -/
def UN (w : World) (v : Value) : Prop := v = .pointer none ∨ ∃ b, v = .pointer (some ⟨b, 0, none⟩) ∧ w.heap[b]? = some (.cells #[.map none, .map none] 41 (0, 0))
theorem UN.below {w w' : World} {v : Value} (h : UN w v) (hb : Below w.heap.size w w') : UN w' v := by
  obtain rfl | ⟨b, rfl, h1⟩ := h
  · exact .inl rfl
  · exact .inr ⟨b, rfl, (hb.block b (lt_of_heap h1)).trans h1⟩
theorem of_un {w : World} {v : Value} (h : UN w v) (k : Int) : Calls Try.prog 26 #[v, .int .i64 k] w fun e w' => e = .returned (.tuple #[sp 0 false 0, .int .i64 1]) ∧ Below w.heap.size w w' := by
  have B1 : Hid (Below w.heap.size w (w.alloc (.cells #[.int .u64 0, .bool false, .int .u64 0] 57))) := below_box w _
  have g1 := heap_alloc_at w (.cells #[.int .u64 0, .bool false, .int .u64 0] 57)
  have hone : (#[.int .u64 0, .bool false, .int .u64 0] : Array Value).all (·.oneCell') = true := by simp [Value.oneCell']
  have hi57 := info57
  have H2 : Hid (Below w.heap.size w ((w.alloc (.cells #[.int .u64 0, .bool false, .int .u64 0] 57)).setRow w.heap.size #[.int .u64 0, .bool false, .int .u64 0]) ∧ ((w.alloc (.cells #[.int .u64 0, .bool false, .int .u64 0] 57)).setRow w.heap.size #[.int .u64 0, .bool false, .int .u64 0]).heap[w.heap.size]? = some (.cells #[.int .u64 0, .bool false, .int .u64 0] 57)) :=
    ⟨B1.out.trans (below_setRow' _ _ (Nat.le_refl _) _), setRow_heap _ _ _ _ 57 _ g1⟩
  unfold sp
  rcases h.below B1.out with rfl | ⟨b, rfl, h1⟩
  · clear B1
    go_enter Try.func26, Try.ntmps26
    go_wp2_with (refine wpList_store_row rfl 57 _ _ rfl w.heap.size #[.int .u64 0, .bool false, .int .u64 0] rfl rfl 57 _ g1 hi57 rfl hone ?_)
    have q0 := cell_at H2.out.2 0
    have q1 := cell_at H2.out.2 1
    have q2 := cell_at H2.out.2 2
    have q3 := lt_of_heap H2.out.2
    simp at q0 q1 q2
    refine bodyPost_ret (v := .tuple #[.agg #[.int .u64 0, .bool false, .int .u64 0], .int .i64 1]) ?h1 rfl ⟨rfl, H2.out.1⟩
    case h1 => simp [results, Try.results26, go_sem, q0, q1, q2]
  · have c0 : (w.alloc (.cells #[.int .u64 0, .bool false, .int .u64 0] 57)).cell? ⟨b, 0, none⟩ = some (.map none) := by rw [cell_at h1]; rfl
    have hl := lt_of_heap h1
    have hn := map_none38
    clear B1 h h1
    go_enter Try.func26, Try.ntmps26
    go_wp2_with (refine wpList_store_row rfl 57 _ _ rfl w.heap.size #[.int .u64 0, .bool false, .int .u64 0] rfl rfl 57 _ g1 hi57 rfl hone ?_)
    have q0 := cell_at H2.out.2 0
    have q1 := cell_at H2.out.2 1
    have q2 := cell_at H2.out.2 2
    have q3 := lt_of_heap H2.out.2
    simp at q0 q1 q2
    refine bodyPost_ret (v := .tuple #[.agg #[.int .u64 0, .bool false, .int .u64 0], .int .i64 1]) ?h1 rfl ⟨rfl, H2.out.1⟩
    case h1 => simp [results, Try.results26, go_sem, q0, q1, q2]
end Go.Proofs.Ytgiafngiledmbaa
