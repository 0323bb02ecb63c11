/-
  What New, isMade, Counts, isUntouched, copyOf do.
-/
import Derived.Test.YtbncgmjjkoedhaaBase
import Derived.BigRegion
namespace Go.Proofs.Ytbncgmjjkoedhaa
open Go.RowKit
set_option linter.unusedVariables false
set_option maxRecDepth 20000

/-- a console that no call made: nil, or not made -/
def UN (w : World) (p : Value) : Prop := p = .pointer none ∨ ∃ b, p = .pointer (some ⟨b, 0, none⟩) ∧ b < w.heap.size ∧ w.cell? ⟨b, 0, none⟩ = some (.bool false)
theorem UN.below {w w' : World} {p : Value} (h : UN w p) (hb : Below w.heap.size w w') : UN w' p := by
  rcases h with h | ⟨b, rfl, hlt, hc⟩
  · exact .inl h
  · exact .inr ⟨b, rfl, Nat.lt_of_lt_of_le hlt hb.size, ((bcell hb).1 b 0 hlt).trans hc⟩
theorem made_un {w : World} {p : Value} (h : UN w p) : Calls Try.prog 16 #[p] w fun e w' => e = .returned (.bool false) ∧ w' = w := by
  rcases h with rfl | ⟨b, rfl, hlt, hc⟩
  all_goals
    go_enter Try.func16, Try.ntmps16
    go_wp2
    go_ret
    exact ⟨rfl, rfl⟩
/-- the console is one -/
def Made (w : World) (c : Nat) : Prop := Calls Try.prog 16 #[.pointer (some ⟨c, 0, none⟩)] w fun e w' => e = .returned (.bool true) ∧ w' = w
/-- none is made -/
def Unmade (w : World) (p : Value) : Prop := Calls Try.prog 16 #[p] w fun e w' => e = .returned (.bool false) ∧ w' = w
theorem made_of {w : World} {c : Nat} (hlt : c < w.heap.size) (hc : w.cell? ⟨c, 0, none⟩ = some (.bool true)) : Made w c := by
  unfold Made
  go_enter Try.func16, Try.ntmps16
  go_wp2
  go_ret
  exact ⟨rfl, rfl⟩
theorem counts_un {w : World} {p : Value} (h : UN w p) : Calls Try.prog 14 #[p] w fun e w' => e = .returned (.agg #[.int .i64 0, .int .i64 0, .int .i64 0, .int .i64 0]) ∧ Below w.heap.size w w' := by
  have H : Hid (∀ o, Unmade (w.alloc o) p) := fun o => made_un (h.below ((Below.refl _ _).alloc (Nat.le_refl _) _))
  clear h
  go_enter Try.func14, Try.ntmps14
  go_wp2_with fail
  refine Calls.mono (H.out _) ?_
  rintro e x ⟨rfl, rfl⟩
  go_wp2_with fail
  exact bodyPost_ret (v := .agg #[.int .i64 0, .int .i64 0, .int .i64 0, .int .i64 0]) (by simp [results, Try.results14, go_sem]) rfl ⟨rfl, (Below.refl _ _).alloc (Nat.le_refl _) _⟩
/-- what Counts tells -/
def cntV (W O : List Int) (d r : Int) : Value := .agg #[.int .i64 (wrap64 (r + W.length)), .int .i64 d, .int .i64 r, .int .i64 O.length]
section
variable {N : Nat → Prop} {w w' : World} {c : Nat} {V U : Value} {W O : List Int} {d r : Int}
theorem CC.cells (h : CC N w c V U W O d r) : w.cell? ⟨c, 0, none⟩ = some (.bool true) ∧ w.cell? ⟨c, 1, none⟩ = some V ∧ w.cell? ⟨c, 2, none⟩ = some U ∧ w.cell? ⟨c, 3, none⟩ = some (.int .i64 d) ∧ w.cell? ⟨c, 4, none⟩ = some (.int .i64 r) := by
  simp [cell_at h.ob]
theorem CC.made (h : CC N w c V U W O d r) : Made w c := made_of h.lt h.cells.1
theorem counts_cc (h : CC N w c V U W O d r) : Calls Try.prog 14 #[.pointer (some ⟨c, 0, none⟩)] w fun e w' => e = .returned (cntV W O d r) ∧ Below w.heap.size w w' := by
  obtain ⟨c0, c1, c2, c3, c4⟩ := h.cells
  have hlt := h.lt
  obtain ⟨a, cp, rfl, hs, _, _, _⟩ := own_sl h.rw h.bw
  obtain ⟨a', cp', rfl, hs', _, _, _⟩ := own_sl h.ro h.bo
  have H : Hid (∀ o, Made (w.alloc o) c) := fun o => (h.other (.of_below ((Below.refl _ _).alloc (Nat.le_refl _) _))).made
  have hlw := h.lw
  have hlo := h.lo
  clear h hs hs'
  obtain ⟨R, hR⟩ : ∃ R, cntV W O d r = R := ⟨_, rfl⟩
  rw [hR]
  have HR : Hid (_) := hR
  clear hR
  go_enter Try.func14, Try.ntmps14
  go_wp2_with fail
  refine Calls.mono (H.out _) ?_
  rintro e x ⟨rfl, rfl⟩
  go_wp2_with fail
  go_region
  all_goals
    go_wp2_with fail
    exact bodyPost_ret (v := R) (by rw [← HR.out]; simp [results, Try.results14, go_sem, cntV]) rfl ⟨rfl, ((Below.refl _ _).alloc (Nat.le_refl _) _).drew⟩
theorem counts_cx (h : CX N w c W O d r) : Calls Try.prog 14 #[.pointer (some ⟨c, 0, none⟩)] w fun e w' => e = .returned (cntV W O d r) ∧ Below w.heap.size w w' := let ⟨V, U, k⟩ := h; counts_cc k
/-- no byte ever came or was written -/
def still (W O : List Int) (d r : Int) : Bool := decide (wrap64 (r + W.length) = 0) && decide (d = 0) && decide (r = 0) && decide ((O.length : Int) = 0)
theorem still_w (h : still W O d r = true) (hl : W.length ≤ 4096) : W = [] := by
  simp only [still, Bool.and_eq_true, decide_eq_true_eq] at h
  obtain ⟨⟨⟨h1, h2⟩, rfl⟩, h4⟩ := h
  apply List.length_eq_zero_iff.1
  have : wrap64 (0 + (W.length : Int)) = W.length := by unfold wrap64; omega
  omega
theorem still_o (h : still W O d r = true) : O = [] := by
  simp only [still, Bool.and_eq_true, decide_eq_true_eq] at h
  exact List.length_eq_zero_iff.1 (by omega)
theorem untouched_cc (h : CC N w c V U W O d r) : Calls Try.prog 17 #[.pointer (some ⟨c, 0, none⟩)] w fun e w' => e = .returned (.bool (still W O d r)) ∧ Below w.heap.size w w' := by
  have H : Hid (_) := counts_cc h
  clear h
  go_enter Try.func17, Try.ntmps17
  go_wp2_with fail
  refine Calls.mono H.out ?_
  rintro e x ⟨rfl, hb⟩
  simp only [cntV]
  generalize hA : wrap64 (r + W.length) = A
  have HA : Hid (_) := hA
  clear hA H
  go_wp2_with fail
  all_goals
    go_ret
    exact ⟨ret_bool (by simp only [still, HA.out]; simp [*]), hb⟩
theorem untouched_un {w : World} {p : Value} (h : UN w p) : Calls Try.prog 17 #[p] w fun e w' => e = .returned (.bool true) ∧ Below w.heap.size w w' := by
  have H : Hid (_) := counts_un h
  clear h
  go_enter Try.func17, Try.ntmps17
  go_wp2_with fail
  refine Calls.mono H.out ?_
  rintro e x ⟨rfl, hb⟩
  go_wp2_with fail
  go_ret
  exact ⟨rfl, hb⟩
end
/-- copyOf tells the same numbers in a row of its own -/
theorem copyOf_sl {w : World} {a : Option Addr} {n cap : Nat} {zs : List Int} (h : SL w a n zs) (hn : n ≤ 1048576) : Calls Try.prog 18 #[.slice a n cap] w fun e w' => e = .returned (.slice (some ⟨w.heap.size, 0, none⟩) n n) ∧ w'.heap[w.heap.size]? = some (.cells (bv zs).toArray 5 (0, 0)) ∧ Below w.heap.size w w' := by
  have hl := h.1
  have hmk := run_make_bytes n (by omega) w
  have hb : Below w.heap.size w (w.alloc (.cells ((List.replicate n (0 : Int)).map (Value.int .u8)).toArray 5)) := (Below.refl _ _).alloc (Nat.le_refl _) _
  obtain ⟨x, hx⟩ : ∃ x, x = w.alloc (.cells ((List.replicate n (0 : Int)).map (Value.int .u8)).toArray 5) := ⟨_, rfl⟩
  have hg : x.heap[w.heap.size]? = some (.cells ((List.replicate n (0 : Int)).map (Value.int .u8)).toArray 5 (0, 0)) := by rw [hx]; exact heap_alloc_at _ _
  rw [← hx] at hmk hb
  obtain ⟨x', hr, hg', hgr⟩ := run_copy_sl 3 w.heap.size 0 n (some ⟨w.heap.size, 0, none⟩) a n cap n _ zs hg (h.below hb) rfl (.inr rfl) (by simp)
  rw [splice_all _ _ (by simp [hl])] at hg'
  have hb' : Hid (Below w.heap.size w x') := hb.grown hgr hb.size (by intro q e; cases e; exact Nat.le_refl _)
  have hg2 : Hid (_) := hg'
  clear hg hg' hgr hx hb h
  go_enter Try.func18, Try.ntmps18
  go_wp2_with fail
  go_ret
  exact ⟨rfl, hg2.out, hb'.out⟩
end Go.Proofs.Ytbncgmjjkoedhaa
