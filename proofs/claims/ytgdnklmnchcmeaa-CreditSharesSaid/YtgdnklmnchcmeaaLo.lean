/-
  What of, place, under, Look, Runs and Queue tell.
-/
import Derived.Test.YtgdnklmnchcmeaaSm
namespace Go.Proofs.Ytgdnklmnchcmeaa
open Go.RowKit Go.Maps
set_option linter.unusedVariables false
set_option maxRecDepth 100000
section
variable {w w' : World} {c m p n N : Nat} {per : Int} {M : Int → Option Value} {F : Nat → Pv} {Qf : Nat → List Int} {S : St}
def z4 : Array Value := #[.int .i64 0, .int .i64 0, .int .i64 0, .int .i64 0]
theorem of_none (h : VX w c m p n per F S) (k : Int) (hk : KW k) (hx : fnd S.L k = none) : Calls Try.prog 38 #[.pointer (some ⟨c, 0, none⟩), .int .i64 k] w fun e w' => e = .returned (.tuple #[.agg z4, .int .i64 14]) ∧ Below w.heap.size w w' := by
  unfold z4
  have B1 : Hid (Below w.heap.size w (w.alloc (.cells #[.int .i64 0, .int .i64 0, .int .i64 0, .int .i64 0] 36))) := below_box w _
  have h1 := h.vr.below B1.out
  have c0 := h1.c0
  have hl := h1.lt
  have hn := map_nil41 m
  have hr := look_run Try.underlying41 (zeroL _) h1.mp k hk
  have e : SM S.L k = none := by unfold SM; rw [hx]; rfl
  rw [e] at hr
  simp only [Option.getD_none] at hr
  have B2 : Hid (Below w.heap.size w ((w.alloc (.cells #[.int .i64 0, .int .i64 0, .int .i64 0, .int .i64 0] 36)).alloc (.cells #[.int .i64 0, .int .i64 0, .int .i64 0, .int .i64 0] 36))) := B1.out.alloc (by simp) _
  have g1 : ((w.alloc (.cells #[.int .i64 0, .int .i64 0, .int .i64 0, .int .i64 0] 36)).alloc (.cells #[.int .i64 0, .int .i64 0, .int .i64 0, .int .i64 0] 36)).heap[w.heap.size]? = some (.cells #[.int .i64 0, .int .i64 0, .int .i64 0, .int .i64 0] 36) := (heap_alloc_past _ _ (by simp)).trans (heap_alloc_at w _)
  have hi36 := info36
  have hone : (#[.int .i64 0, .int .i64 0, .int .i64 0, .int .i64 0] : Array Value).all (·.oneCell') = true := by simp [Value.oneCell']
  have H2 : Hid (Below w.heap.size w (((w.alloc (.cells #[.int .i64 0, .int .i64 0, .int .i64 0, .int .i64 0] 36)).alloc (.cells #[.int .i64 0, .int .i64 0, .int .i64 0, .int .i64 0] 36)).setRow w.heap.size #[.int .i64 0, .int .i64 0, .int .i64 0, .int .i64 0]) ∧ (((w.alloc (.cells #[.int .i64 0, .int .i64 0, .int .i64 0, .int .i64 0] 36)).alloc (.cells #[.int .i64 0, .int .i64 0, .int .i64 0, .int .i64 0] 36)).setRow w.heap.size #[.int .i64 0, .int .i64 0, .int .i64 0, .int .i64 0]).heap[w.heap.size]? = some (.cells #[.int .i64 0, .int .i64 0, .int .i64 0, .int .i64 0] 36)) :=
    ⟨B2.out.trans (below_setRow' _ _ (Nat.le_refl _) _), setRow_heap _ _ _ _ 36 _ g1⟩
  clear h h1 B1 B2
  go_enter Try.func38, Try.ntmps38
  go_wp2_with (refine wpList_store_row rfl 36 _ _ rfl w.heap.size #[.int .i64 0, .int .i64 0, .int .i64 0, .int .i64 0] rfl rfl 36 _ g1 hi36 rfl hone ?_)
  have q0 := cell_at H2.out.2 0
  have q1 := cell_at H2.out.2 1
  have q2 := cell_at H2.out.2 2
  have q4 := cell_at H2.out.2 3
  have q3 := lt_of_heap H2.out.2
  simp at q0 q1 q2 q4
  refine bodyPost_ret (v := .tuple #[.agg #[.int .i64 0, .int .i64 0, .int .i64 0, .int .i64 0], .int .i64 14]) ?h1 rfl ⟨rfl, H2.out.1⟩
  case h1 => simp [results, Try.results38, go_sem, q0, q1, q2, q4]
theorem of_some (h : VX w c m p n per F S) (k : Int) (hk : KW k) {x : On} (hx : fnd S.L k = some x) : Calls Try.prog 38 #[.pointer (some ⟨c, 0, none⟩), .int .i64 k] w fun e w' => e = .returned (.tuple #[lv x, .int .i64 0]) ∧ Below w.heap.size w w' := by
  have B1 : Hid (Below w.heap.size w (w.alloc (.cells #[.int .i64 0, .int .i64 0, .int .i64 0, .int .i64 0] 36))) := below_box w _
  have h1 := h.vr.below B1.out
  have c0 := h1.c0
  have hl := h1.lt
  have hn := map_nil41 m
  have hr := look_run Try.underlying41 (zeroL _) h1.mp k hk
  have e : SM S.L k = some (lv x) := by unfold SM; rw [hx]; rfl
  rw [e] at hr
  simp only [Option.getD_some] at hr
  have hst := (h.ok.ok x (fnd_mem hx).1).st
  have hs0 : (x.st == 0) = false := by rcases hst with e | e | e <;> rw [e] <;> rfl
  have hs1 : ¬ x.st = 0 := by rcases hst with e | e | e <;> rw [e] <;> decide
  unfold lv at *
  generalize x.st = a at *
  generalize (x.co : Int) = b at *
  generalize x.w = d at *
  generalize x.cr = f at *
  have B2 : Hid (Below w.heap.size w ((w.alloc (.cells #[.int .i64 0, .int .i64 0, .int .i64 0, .int .i64 0] 36)).alloc (.cells #[.int .i64 a, .int .i64 b, .int .i64 d, .int .i64 f] 36))) := B1.out.alloc (by simp) _
  have g1 : ((w.alloc (.cells #[.int .i64 0, .int .i64 0, .int .i64 0, .int .i64 0] 36)).alloc (.cells #[.int .i64 a, .int .i64 b, .int .i64 d, .int .i64 f] 36)).heap[w.heap.size]? = some (.cells #[.int .i64 0, .int .i64 0, .int .i64 0, .int .i64 0] 36) := (heap_alloc_past _ _ (by simp)).trans (heap_alloc_at w _)
  have hi36 := info36
  have hone : (#[.int .i64 a, .int .i64 b, .int .i64 d, .int .i64 f] : Array Value).all (·.oneCell') = true := by simp [Value.oneCell']
  have H2 : Hid (Below w.heap.size w (((w.alloc (.cells #[.int .i64 0, .int .i64 0, .int .i64 0, .int .i64 0] 36)).alloc (.cells #[.int .i64 a, .int .i64 b, .int .i64 d, .int .i64 f] 36)).setRow w.heap.size #[.int .i64 a, .int .i64 b, .int .i64 d, .int .i64 f]) ∧ (((w.alloc (.cells #[.int .i64 0, .int .i64 0, .int .i64 0, .int .i64 0] 36)).alloc (.cells #[.int .i64 a, .int .i64 b, .int .i64 d, .int .i64 f] 36)).setRow w.heap.size #[.int .i64 a, .int .i64 b, .int .i64 d, .int .i64 f]).heap[w.heap.size]? = some (.cells #[.int .i64 a, .int .i64 b, .int .i64 d, .int .i64 f] 36)) :=
    ⟨B2.out.trans (below_setRow' _ _ (Nat.le_refl _) _), setRow_heap _ _ _ _ 36 _ g1⟩
  clear h h1 B1 B2 hst
  go_enter Try.func38, Try.ntmps38
  go_wp2_with (refine wpList_store_row rfl 36 _ _ rfl w.heap.size #[.int .i64 a, .int .i64 b, .int .i64 d, .int .i64 f] rfl rfl 36 _ g1 hi36 rfl hone ?_)
  have q0 := cell_at H2.out.2 0
  have q1 := cell_at H2.out.2 1
  have q2 := cell_at H2.out.2 2
  have q4 := cell_at H2.out.2 3
  have q3 := lt_of_heap H2.out.2
  simp at q0 q1 q2 q4
  refine bodyPost_ret (v := .tuple #[.agg #[.int .i64 a, .int .i64 b, .int .i64 d, .int .i64 f], .int .i64 0]) ?h1 rfl ⟨rfl, H2.out.1⟩
  case h1 => simp [results, Try.results38, go_sem, q0, q1, q2, q4]
theorem place_no (h : VR w c m p n per N M F Qf) (i : Int) (hi : i < 0 ∨ (n : Int) ≤ i) : Calls Try.prog 39 #[.pointer (some ⟨c, 0, none⟩), .int .i64 i] w fun e w' => e = .returned (.tuple #[.pointer none, .int .i64 2]) ∧ w' = w := by
  have c0 := h.c0
  have c1 := h.c1
  have hl := h.lt
  have hn := map_nil41 m
  have nn := h.nn
  clear h
  rcases hi with hi | hi
  · go_enter Try.func39, Try.ntmps39
    go_wp2_with fail
    go_ret2
    exact ⟨rfl, rfl⟩
  · have h0 : 0 ≤ i := by omega
    go_enter Try.func39, Try.ntmps39
    go_wp2_with fail
    go_ret2
    exact ⟨rfl, rfl⟩
theorem place_at (h : VR w c m p n per N M F Qf) (i : Nat) (hi : i < n) : Calls Try.prog 39 #[.pointer (some ⟨c, 0, none⟩), .int .i64 i] w fun e w' => e = .returned (.tuple #[.pointer (some ⟨p, i * 4, none⟩), .int .i64 0]) ∧ w' = w := by
  have c0 := h.c0
  have c1 := h.c1
  have hl := h.lt
  have hn := map_nil41 m
  have nn := h.nn
  clear h
  go_enter Try.func39, Try.ntmps39
  go_wp2_with fail
  go_ret2
  exact ⟨rfl, rfl⟩
/-- is one under -/
def und (L : List On) (k : Int) : Bool := match fnd L k with
  | none => true
  | some x => decide (0 ≤ x.cr)
theorem fld3 (a b d f : Int) (w : World) : (Instr.field 36 (.agg #[.int .i64 a, .int .i64 b, .int .i64 d, .int .i64 f]) 3).run Try.prog w = .ok (.int .i64 f) w := by kernel_rfl
theorem under_vx (h : VX w c m p n per F S) (k : Int) (hk : KW k) : Calls Try.prog 43 #[.pointer (some ⟨c, 0, none⟩), .int .i64 k] w fun e w' => e = .returned (.bool (und S.L k)) ∧ w' = w := by
  have c0 := h.vr.c0
  have hl := h.vr.lt
  have hf3 := fld3
  have hr := look_run Try.underlying41 (zeroL _) h.vr.mp k hk
  unfold und
  cases hx : fnd S.L k with
  | none =>
    have e : SM S.L k = none := by unfold SM; rw [hx]; rfl
    rw [e] at hr
    simp only [Option.getD_none] at hr
    clear h
    go_enter Try.func43, Try.ntmps43
    go_wp2_with fail
    go_ret
    exact ⟨rfl, rfl⟩
  | some x =>
    have e : SM S.L k = some (lv x) := by unfold SM; rw [hx]; rfl
    rw [e] at hr
    simp only [Option.getD_some] at hr
    unfold lv at hr
    clear h
    go_enter Try.func43, Try.ntmps43
    go_wp2_with fail
    go_ret
    exact ⟨ret_bool rfl, rfl⟩
end
end Go.Proofs.Ytgdnklmnchcmeaa
