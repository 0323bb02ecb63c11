/-
  The small functions: check, has, isSource, isWeight, mayCome; the document's Has, Is.
-/
import Derived.Test.YtncjhdhfhojohaaPl
namespace Go.Proofs.Ytncjhdhfhojohaa
open Go.RowKit
set_option linter.unusedVariables false
set_option maxRecDepth 100000
/-- is it a source's number? -/
def src (s : Int) : Bool := decide (1 ≤ s ∧ s ≤ 16)
/-- may it be a priority? -/
def wgt (n : Int) : Bool := decide (0 ≤ n ∧ n ≤ 7)
/-- is there such a processor? -/
def hasV (z : Z) (v : Int) : Bool := decide (0 ≤ v ∧ v < z.n)
theorem isSource_any (s : Int) (w : World) : Calls Try.prog 30 #[.int .i64 s] w fun e w' => e = .returned (.bool (src s)) ∧ w' = w := by
  unfold src
  by_cases h : 0 < s
  · by_cases h2 : s ≤ 16
    · rw [decide_eq_true (show 1 ≤ s ∧ s ≤ 16 by omega)]
      go_enter Try.func30, Try.ntmps30
      go_wp2_with fail
      go_ret
      exact ⟨rfl, rfl⟩
    · rw [decide_eq_false (show ¬ (1 ≤ s ∧ s ≤ 16) by omega)]
      go_enter Try.func30, Try.ntmps30
      go_wp2_with fail
      go_ret
      exact ⟨rfl, rfl⟩
  · rw [decide_eq_false (show ¬ (1 ≤ s ∧ s ≤ 16) by omega)]
    go_enter Try.func30, Try.ntmps30
    go_wp2_with fail
    go_ret
    exact ⟨rfl, rfl⟩
theorem is_any (s : Int) (w : World) : Calls Try.prog 15 #[.int .i64 s] w fun e w' => e = .returned (.bool (src s)) ∧ w' = w := by
  unfold src
  by_cases h : 1 ≤ s
  · by_cases h2 : s ≤ 16
    · rw [decide_eq_true (show 1 ≤ s ∧ s ≤ 16 by omega)]
      go_enter Try.func15, Try.ntmps15
      go_wp2_with fail
      go_ret
      exact ⟨rfl, rfl⟩
    · rw [decide_eq_false (show ¬ (1 ≤ s ∧ s ≤ 16) by omega)]
      go_enter Try.func15, Try.ntmps15
      go_wp2_with fail
      go_ret
      exact ⟨rfl, rfl⟩
  · rw [decide_eq_false (show ¬ (1 ≤ s ∧ s ≤ 16) by omega)]
    go_enter Try.func15, Try.ntmps15
    go_wp2_with fail
    go_ret
    exact ⟨rfl, rfl⟩
theorem isWeight_any (s : Int) (w : World) : Calls Try.prog 31 #[.int .i64 s] w fun e w' => e = .returned (.bool (wgt s)) ∧ w' = w := by
  unfold wgt
  by_cases h : 0 ≤ s
  · by_cases h2 : s ≤ 7
    · rw [decide_eq_true (show 0 ≤ s ∧ s ≤ 7 by omega)]
      go_enter Try.func31, Try.ntmps31
      go_wp2_with fail
      go_ret
      exact ⟨rfl, rfl⟩
    · rw [decide_eq_false (show ¬ (0 ≤ s ∧ s ≤ 7) by omega)]
      go_enter Try.func31, Try.ntmps31
      go_wp2_with fail
      go_ret
      exact ⟨rfl, rfl⟩
  · rw [decide_eq_false (show ¬ (0 ≤ s ∧ s ≤ 7) by omega)]
    go_enter Try.func31, Try.ntmps31
    go_wp2_with fail
    go_ret
    exact ⟨rfl, rfl⟩
/-- none: nil, or one that no call made -/
def UN (w : World) (v : Value) : Prop := v = .pointer none ∨ ∃ b, v = .pointer (some ⟨b, 0, none⟩) ∧ b < w.heap.size ∧ w.cell? ⟨b, 0, none⟩ = some (.int .i64 0)
theorem UN.below {w w' : World} {v : Value} (h : UN w v) (hb : Below w.heap.size w w') : UN w' v := by
  obtain rfl | ⟨b, rfl, h1, h2⟩ := h
  · exact .inl rfl
  · exact .inr ⟨b, rfl, Nat.lt_of_lt_of_le h1 hb.size, (World.cell?_of_block (hb.block b h1)).trans h2⟩
section
variable {w w' : World} {b : Nat} {z : Z}
/-- what check tells -/
def chk (fit : Bool) : Int := if fit then 0 else 2
theorem check_is (h : IS 50 w b z) (k : Ok z) (fit : Bool) : Calls Try.prog 29 #[.pointer (some ⟨b, 0, none⟩), .bool fit] w fun e w' => e = .returned (.int .i64 (chk fit)) ∧ w' = w := by
  have c0 := h.cn
  have hl := h.lt
  have n1 := k.n1
  have hn : ¬ (z.n : Int) = 0 := by omega
  clear h k
  generalize (z.n : Int) = n at *
  cases fit
  · go_enter Try.func29, Try.ntmps29
    go_wp2_with fail
    go_ret
    exact ⟨rfl, rfl⟩
  · go_enter Try.func29, Try.ntmps29
    go_wp2_with fail
    go_ret
    exact ⟨rfl, rfl⟩
theorem check_un {v : Value} (h : UN w v) (fit : Bool) : Calls Try.prog 29 #[v, .bool fit] w fun e w' => e = .returned (.int .i64 1) ∧ w' = w := by
  obtain rfl | ⟨b, rfl, h1, h2⟩ := h
  · go_enter Try.func29, Try.ntmps29
    go_wp2_with fail
    go_ret
    exact ⟨rfl, rfl⟩
  · go_enter Try.func29, Try.ntmps29
    go_wp2_with fail
    go_ret
    exact ⟨rfl, rfl⟩
theorem has_is (h : IS 50 w b z) (v : Int) : Calls Try.prog 27 #[.pointer (some ⟨b, 0, none⟩), .int .i64 v] w fun e w' => e = .returned (.bool (hasV z v)) ∧ w' = w := by
  have c0 := h.cn
  have hl := h.lt
  unfold hasV
  clear h
  generalize (z.n : Int) = n at *
  by_cases h : 0 ≤ v
  · by_cases h2 : v < n
    · rw [decide_eq_true (show 0 ≤ v ∧ v < n by omega)]
      go_enter Try.func27, Try.ntmps27
      go_wp2_with fail
      go_ret
      exact ⟨rfl, rfl⟩
    · rw [decide_eq_false (show ¬ (0 ≤ v ∧ v < n) by omega)]
      go_enter Try.func27, Try.ntmps27
      go_wp2_with fail
      go_ret
      exact ⟨rfl, rfl⟩
  · rw [decide_eq_false (show ¬ (0 ≤ v ∧ v < n) by omega)]
    go_enter Try.func27, Try.ntmps27
    go_wp2_with fail
    go_ret
    exact ⟨rfl, rfl⟩
theorem has_un {u : Value} (h : UN w u) (v : Int) : Calls Try.prog 27 #[u, .int .i64 v] w fun e w' => e = .returned (.bool false) ∧ w' = w := by
  obtain rfl | ⟨b, rfl, h1, h2⟩ := h
  · go_enter Try.func27, Try.ntmps27
    go_wp2_with fail
    go_ret
    exact ⟨rfl, rfl⟩
  · by_cases h : 0 ≤ v
    · have h2' : ¬ v < 0 := by omega
      go_enter Try.func27, Try.ntmps27
      go_wp2_with fail
      go_ret
      exact ⟨rfl, rfl⟩
    · go_enter Try.func27, Try.ntmps27
      go_wp2_with fail
      go_ret
      exact ⟨rfl, rfl⟩
theorem rhas_is (h : IS 44 w b z) (v : Int) : Calls Try.prog 12 #[.pointer (some ⟨b, 0, none⟩), .int .i64 v] w fun e w' => e = .returned (.bool (hasV z v)) ∧ w' = w := by
  have c0 := h.cn
  have hl := h.lt
  unfold hasV
  clear h
  generalize (z.n : Int) = n at *
  by_cases h : 0 ≤ v
  · by_cases h2 : v < n
    · rw [decide_eq_true (show 0 ≤ v ∧ v < n by omega)]
      go_enter Try.func12, Try.ntmps12
      go_wp2_with fail
      go_ret
      exact ⟨rfl, rfl⟩
    · rw [decide_eq_false (show ¬ (0 ≤ v ∧ v < n) by omega)]
      go_enter Try.func12, Try.ntmps12
      go_wp2_with fail
      go_ret
      exact ⟨rfl, rfl⟩
  · rw [decide_eq_false (show ¬ (0 ≤ v ∧ v < n) by omega)]
    go_enter Try.func12, Try.ntmps12
    go_wp2_with fail
    go_ret
    exact ⟨rfl, rfl⟩
theorem below_drew' (w : World) : Below w.heap.size w w.drew := (Below.refl _ _).drew
set_option maxHeartbeats 1600000 in
theorem mayCome_is (h : IS 50 w b z) (s v : Nat) (hs : s < 17) (hv : v < 4) : Calls Try.prog 33 #[.pointer (some ⟨b, 0, none⟩), .int .i64 s, .int .i64 v] w fun e w' => e = .returned (.bool (may z s v)) ∧ ∃ m, w' = w.drewN m := by
  have cP := h.cP s hs
  have cT := h.cT s hs
  have cW := h.cW s hs
  have cE := h.cE s v hs hv
  have cB := h.cB v hv
  have hl := h.lt
  unfold may
  clear h
  generalize z.P s = p at *
  generalize z.T s = t at *
  generalize z.W s = x at *
  generalize z.E s v = q at *
  generalize z.B v = y at *
  have hs' : (s : Int) < 17 := by omega
  have hv' : (v : Int) < 4 := by omega
  cases p
  · go_enter Try.func33, Try.ntmps33
    go_wp2_with fail
    go_quiet (fail)
    go_wp2_with fail
    go_ret
    exact ⟨rfl, nq, rfl⟩
  · by_cases ht : t = -1
    · subst ht
      cases q
      · go_enter Try.func33, Try.ntmps33
        go_wp2_with fail
        go_quiet (fail)
        go_wp2_with fail
        go_ret
        exact ⟨rfl, nq, rfl⟩
      · go_enter Try.func33, Try.ntmps33
        go_wp2_with fail
        go_quiet (fail)
        go_wp2_with fail
        go_ret
        exact ⟨rfl, nq, rfl⟩
    · have ht' : decide (t = -1) = false := decide_eq_false ht
      rw [ht']
      have hb : (t == -1) = false := by simp [ht]
      clear ht
      go_enter Try.func33, Try.ntmps33
      go_wp2_with fail
      go_quiet (fail)
      go_wp2_with fail
      go_ret
      exact ⟨rfl, nq, rfl⟩
theorem told_is (h : IS 50 w b z) (k : Ok z) (s : Nat) (h1 : 1 ≤ s) (h2 : s ≤ 16) : Calls Try.prog 14 #[.pointer (some ⟨b, 0, none⟩), .int .i64 s] w fun e w' => e = .returned (.tuple #[.bool (z.P s), .int .i64 (z.T s)]) ∧ ∃ m, w' = w.drewN m := by
  have C1 := isSource_any s w
  have C2 := check_is h k true
  have cP := h.cP s (by omega)
  have cT := h.cT s (by omega)
  have hl := h.lt
  have e1 : src s = true := decide_eq_true (by omega)
  have hs' : (s : Int) < 17 := by omega
  rw [e1] at C1
  clear h k
  generalize z.P s = p at *
  generalize z.T s = t at *
  go_enter Try.func14, Try.ntmps14
  go_wp2_with fail
  refine C1.mono ?_
  rintro e w ⟨rfl, rfl⟩
  go_wp2_with fail
  refine C2.mono ?_
  rintro e w ⟨rfl, rfl⟩
  unfold chk
  go_wp2_with fail
  go_quiet (fail)
  go_wp2_with fail
  go_ret2
  exact ⟨rfl, nq, rfl⟩
theorem told_no (h : IS 50 w b z) (k : Ok z) (s : Int) (hs : src s = false) : Calls Try.prog 14 #[.pointer (some ⟨b, 0, none⟩), .int .i64 s] w fun e w' => e = .returned (.tuple #[.bool false, .int .i64 (-1)]) ∧ ∃ m, w' = w.drewN m := by
  have C1 := isSource_any s w
  have C2 := check_is h k false
  rw [hs] at C1
  clear h k
  go_enter Try.func14, Try.ntmps14
  go_wp2_with fail
  refine C1.mono ?_
  rintro e w ⟨rfl, rfl⟩
  go_wp2_with fail
  refine C2.mono ?_
  rintro e w ⟨rfl, rfl⟩
  unfold chk
  go_wp2_with fail
  go_ret2
  exact ⟨rfl, 0, rfl⟩
theorem told_un {u : Value} (h : UN w u) (s : Int) : Calls Try.prog 14 #[u, .int .i64 s] w fun e w' => e = .returned (.tuple #[.bool false, .int .i64 (-1)]) ∧ w' = w := by
  have C1 := isSource_any s w
  have C2 := check_un h (src s)
  clear h
  go_enter Try.func14, Try.ntmps14
  go_wp2_with fail
  refine C1.mono ?_
  rintro e w ⟨rfl, rfl⟩
  go_wp2_with fail
  refine C2.mono ?_
  rintro e w ⟨rfl, rfl⟩
  go_wp2_with fail
  go_ret2
  exact ⟨rfl, rfl⟩
/-- the program's closure, told which is ahead -/
def ahead (z : Z) (v one other : Nat) : Bool := may z one v && decide (z.W other < z.W one)
set_option maxHeartbeats 1600000 in
theorem ahead_is (h : IS 50 w b z) (v : Nat) (hv : v < 4) (c d : Addr) (hc : w.cell? c = some (.pointer (some ⟨b, 0, none⟩))) (hd : w.cell? d = some (.int .i64 v)) (one other : Nat) (h1 : one < 17) (h2 : other < 17) :
    Calls Try.prog 32 #[.int .i64 one, .int .i64 other, .pointer (some c), .pointer (some d)] w fun e w' => e = .returned (.bool (ahead z v one other)) ∧ ∃ m, w' = w.drewN m := by
  have C1 : Hid (∀ n, Calls Try.prog 33 #[.pointer (some ⟨b, 0, none⟩), .int .i64 one, .int .i64 v] (w.drewN n) fun e w' => e = .returned (.bool (may z one v)) ∧ ∃ m, w' = (w.drewN n).drewN m) := fun n => mayCome_is (w := w.drewN n) (h.keep rfl) one v h1 hv
  have c1 := h.cW one h1
  have c2 := h.cW other h2
  have hl := h.lt
  have i1 : (one : Int) < 17 := by omega
  have i2 : (other : Int) < 17 := by omega
  have lc := World.block_lt_of_cell? w c hc
  have ld := World.block_lt_of_cell? w d hd
  unfold ahead
  clear h
  generalize z.W one = x at *
  generalize z.W other = y at *
  generalize may z one v = q at *
  cases q
  · go_enter Try.func32, Try.ntmps32
    go_wp2_with fail
    go_quiet ((go_at_call 33; refine Calls.quiet_of (C1.out _)))
    go_wp2_with fail
    go_ret
    exact ⟨rfl, nq, rfl⟩
  · go_enter Try.func32, Try.ntmps32
    go_wp2_with fail
    go_quiet ((go_at_call 33; refine Calls.quiet_of (C1.out _)))
    go_wp2_with fail
    go_ret
    exact ⟨rfl, nq, rfl⟩
end
end Go.Proofs.Ytncjhdhfhojohaa
