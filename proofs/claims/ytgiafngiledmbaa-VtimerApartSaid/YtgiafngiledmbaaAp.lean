/-
  Timers of many, each with a timer of its own: what is left of them clock by clock, and who is told.
-/
import Derived.Test.YtgiafngiledmbaaOc
namespace Go.Proofs.Ytgiafngiledmbaa
open Go.RowKit Go.Maps
set_option linter.unusedVariables false
set_option maxRecDepth 100000
def aE (f : Nat → Int) (i : Nat) (on : Bool) : Tm := ⟨i, 0, false, 0, on, f i⟩
/-- all that are begun -/
def aL (f : Nat → Int) (n : Nat) : List Tm := (List.range n).map fun i => aE f i true
/-- all but one, at a clock -/
def gL (f : Nat → Int) (n : Nat) (G c : Int) : List Tm := ((List.range n).filter fun i : Nat => !((i : Int) == G)).map fun i : Nat => aE f i (decide (c ≤ f i))
/-- who is told at a clock -/
def dl (f : Nat → Int) (n : Nat) (G c : Int) : List Int := ((List.range n).filter fun i : Nat => !((i : Int) == G) && (f i == c)).map fun i : Nat => (i : Int)
theorem ins_last {x : Tm} : ∀ {L : List Tm}, (∀ y ∈ L, y.id < x.id) → ins x L = L ++ [x]
  | [], _ => rfl
  | y :: r, h => by
    unfold ins
    rw [if_pos (h y (by simp)), ins_last fun z hz => h z (by simp [hz])]
    rfl
theorem mod_last {L : List Tm} {x : Tm} {g : Tm → Tm} (h : ∀ y ∈ L, y.id ≠ x.id) : mod (L ++ [x]) x.id g = L ++ [g x] := by
  unfold mod
  rw [List.map_append]
  congr 1
  · rw [List.map_congr_left (g := id) fun y hy => by simp [h y hy]]
    simp
  · simp
theorem aL_id {f : Nat → Int} {n : Nat} {y : Tm} (h : y ∈ aL f n) : ∃ i : Nat, i < n ∧ y = aE f i true := by
  unfold aL at h
  obtain ⟨i, hi, rfl⟩ := List.mem_map.1 h
  exact ⟨i, by simpa using hi, rfl⟩
theorem aL_succ (f : Nat → Int) (n : Nat) : aL f (n + 1) = aL f n ++ [aE f n true] := by
  unfold aL
  rw [List.range_succ, List.map_append]
  rfl
theorem kw_nat {n : Nat} (h : n ≤ 64) : KW (n : Int) := by
  unfold KW
  have : IntKind.i64.min = -9223372036854775808 := by decide
  have : IntKind.i64.max = 9223372036854775807 := by decide
  simp [Lit.wf]
  omega
section
variable {w0 w w' : World} {t ms mt : Nat} {f : Nat → Int} {n j : Nat} {G c : Int}
theorem fnd_aL (n : Nat) : fnd (aL f n) (n : Int) = none := by
  unfold fnd
  refine List.find?_eq_none.2 fun x hx => ?_
  obtain ⟨i, hi, rfl⟩ := aL_id hx
  simp [aE]
  omega
theorem OX.beginA (h : OX w0 w t ms mt (aL f j)) (hj : j < 40) : Calls Try.prog 14 #[.pointer (some ⟨t, 0, none⟩), .int .i64 j, .int .u64 0] w fun e w' => e = .returned (.int .i64 0) ∧ OX w0 w' t ms mt (aL f j ++ [nw j 0]) := by
  have e0 : beE (aL f j) j = 0 := by
    unfold beE
    rw [fnd_aL]
    have : (aL f j).length = j := by simp [aL]
    rw [this]
    simp
    omega
  refine (begin_vx h.vx (kw_nat (by omega)) (by decide)).mono fun e w' ⟨e1, hi, ht⟩ => ⟨by rw [e1, e0], h.call ?_ ht⟩
  unfold beL at hi
  rw [if_pos e0, ins_last fun y hy => by
    obtain ⟨i, hi, rfl⟩ := aL_id hy
    simp [aE, nw]
    omega] at hi
  exact hi
theorem OX.setA (h : OX w0 w t ms mt (aL f j ++ [nw j 0])) (hj : j < 40) (h0 : 0 ≤ f j) (h1 : f j ≤ 255) : Calls Try.prog 15 #[.pointer (some ⟨t, 0, none⟩), .int .i64 j, .int .u64 (f j)] w fun e w' => e = .returned (.int .i64 0) ∧ OX w0 w' t ms mt (aL f (j + 1)) := by
  have e0 : (fnd (aL f j ++ [nw j 0]) (j : Int)).isSome = true := by
    unfold fnd
    rw [List.find?_isSome]
    exact ⟨nw j 0, by simp, by simp [nw]⟩
  refine (set_vx h.vx (kw_nat (by omega)) h0).mono fun e w' ⟨e1, hi, ht⟩ => ⟨by rw [e1, e0]; rfl, h.call ?_ ht⟩
  have e2 : mod (aL f j ++ [nw j 0]) (j : Int) (stD (f j) true) = aL f (j + 1) := by
    rw [aL_succ]
    have := mod_last (L := aL f j) (x := nw j 0) (g := stD (f j) true) fun y hy => by
      obtain ⟨i, hi, rfl⟩ := aL_id hy
      simp [aE, nw]
      omega
    rw [show (nw (j : Int) 0).id = (j : Int) from rfl] at this
    rw [this]
    simp [nw, stD, aE, cap]
    omega
  rw [e2] at hi
  exact hi
theorem gL_none (f : Nat → Int) (n : Nat) (h : ∀ i, i < n → 0 ≤ f i) (hG : ∀ i : Nat, i < n → (i : Int) ≠ G) : aL f n = gL f n G 0 := by
  unfold aL gL
  rw [List.filter_eq_self.2 fun i hi => by simpa using hG i (by simpa using hi)]
  exact List.map_congr_left fun i hi => by rw [decide_eq_true (h i (by simpa using hi))]
theorem del_aL (f : Nat → Int) (n : Nat) (h : ∀ i, i < n → 0 ≤ f i) : del (aL f n) G = gL f n G 0 := by
  unfold del aL gL
  rw [List.filter_map]
  have e : (List.range n).filter ((fun x : Tm => !(x.id == G)) ∘ fun i => aE f i true) = (List.range n).filter fun i : Nat => !((i : Int) == G) := List.filter_congr fun i hi => rfl
  rw [e]
  exact List.map_congr_left fun i hi => by rw [decide_eq_true (h i (by simpa using (List.mem_filter.1 hi).1))]
theorem fnd_gone (f : Nat → Int) (n : Nat) : fnd (gL f n G c) G = none := by
  unfold fnd gL
  refine List.find?_eq_none.2 fun x hx => ?_
  obtain ⟨i, hi, rfl⟩ := List.mem_map.1 hx
  have := (List.mem_filter.1 hi).2
  simpa [aE] using this
theorem del_gone (f : Nat → Int) (n : Nat) : del (gL f n G c) G = gL f n G c := by
  unfold del
  refine List.filter_eq_self.2 fun x hx => ?_
  have := fnd_none (fnd_gone (G := G) (c := c) f n) x hx
  simpa using this
theorem OX.endA {v : Nat} (h : OX w0 w t ms mt (aL f n)) (hn : n ≤ 40) (hv : v < n) (h0 : ∀ i, i < n → 0 ≤ f i) : Calls Try.prog 20 #[.pointer (some ⟨t, 0, none⟩), .int .i64 v] w fun e w' => e = .returned (.int .i64 0) ∧ OX w0 w' t ms mt (gL f n v 0) := by
  have e0 : (fnd (aL f n) (v : Int)).isSome = true := by
    unfold fnd
    rw [List.find?_isSome]
    exact ⟨aE f v true, by unfold aL; exact List.mem_map.2 ⟨v, by simpa using hv, rfl⟩, by simp [aE]⟩
  refine (end_vx h.vx (kw_nat (by omega))).mono fun e w' ⟨e1, hi, ht⟩ => ⟨by rw [e1, e0]; rfl, h.call ?_ ht⟩
  rw [del_aL f n h0] at hi
  exact hi
theorem OX.endB {v : Nat} (h : OX w0 w t ms mt (gL f n v c)) (hv : v ≤ 40) : Calls Try.prog 20 #[.pointer (some ⟨t, 0, none⟩), .int .i64 v] w fun e w' => e = .returned (.int .i64 14) ∧ OX w0 w' t ms mt (gL f n v c) := by
  refine (end_vx h.vx (kw_nat (by omega))).mono fun e w' ⟨e1, hi, ht⟩ => ⟨by rw [e1, fnd_gone]; rfl, h.call ?_ ht⟩
  rw [del_gone] at hi
  exact hi
theorem isd_a (i : Nat) (hc : 0 ≤ c) (hc2 : c ≤ 255) : isd c (aE f i (decide (c ≤ f i))) = (f i == c) := by
  have e : tm (aE f i (decide (c ≤ f i))) c = c := by
    show (if cap c < 0 then 0 else cap c - 0) = c
    rw [cap_at (show c ≤ 4611686018427387904 by omega), if_neg (show ¬ c < 0 by omega)]
    omega
  have e2 : isd c (aE f i (decide (c ≤ f i))) = (decide (c ≤ f i) && !false && decide (f i ≤ c)) := by
    show (decide (c ≤ f i) && !false && decide (f i ≤ tm (aE f i (decide (c ≤ f i))) c)) = _
    rw [e]
  rw [e2]
  by_cases h : f i = c
  · simp [h]
  · have : (f i == c) = false := by simpa using h
    rw [this]
    simp
    omega
theorem aft_a (f : Nat → Int) (n : Nat) (hc : 0 ≤ c) (hc2 : c ≤ 255) : aft (gL f n G c) c = gL f n G (c + 1) := by
  unfold aft gL
  rw [List.map_map]
  refine List.map_congr_left fun i _ => ?_
  simp only [Function.comp, isd_a i hc hc2]
  by_cases h : f i = c
  · simp [h, off, aE]
    omega
  · have : decide (c + 1 ≤ f i) = decide (c ≤ f i) := by rw [Bool.eq_iff_iff]; simp; omega
    simp [h, this]
theorem due_a (f : Nat → Int) (n : Nat) (hc : 0 ≤ c) (hc2 : c ≤ 255) : dueL (gL f n G c) c = dl f n G c := by
  unfold dueL gL dl
  rw [List.filter_map, List.map_map, List.filter_filter]
  have e : (List.range n).filter (fun a => ((isd c ∘ fun i => aE f i (decide (c ≤ f i))) a) && !((a : Int) == G)) = (List.range n).filter fun i : Nat => !((i : Int) == G) && (f i == c) := List.filter_congr fun i _ => by
    simp only [Function.comp, isd_a i hc hc2]
    rw [Bool.and_comm]
  rw [e]
  rfl
theorem OX.dueA (h : OX w0 w t ms mt (gL f n G c)) (hc : 0 ≤ c) (hc2 : c ≤ 255) : Calls Try.prog 19 #[.pointer (some ⟨t, 0, none⟩), .int .u64 c] w fun e w' => (∃ v, e = .returned v ∧ Li w.heap.size w' v (dl f n G c)) ∧ OX w0 w' t ms mt (gL f n G (c + 1)) := by
  refine (due_vx h.vx hc).mono fun e w' ⟨⟨v, e1, hl⟩, hi, ht⟩ => ?_
  rw [due_a f n hc hc2] at hl
  rw [aft_a f n hc hc2] at hi
  exact ⟨⟨v, e1, hl⟩, h.call hi ht⟩
theorem OX.nextA (h : OX w0 w t ms mt (gL f n G 256)) (h1 : ∀ i, i < n → f i ≤ 255) : Calls Try.prog 12 #[.pointer (some ⟨t, 0, none⟩)] w fun e w' => e = .returned (.tuple #[.int .u64 0, .bool false]) ∧ OX w0 w' t ms mt (gL f n G 256) := by
  refine (next_vx h.vx).mono fun e w' ⟨⟨r, hr, e1⟩, hb⟩ => ⟨?_, h.below hb⟩
  cases r with
  | none => rw [e1]; rfl
  | some v =>
    obtain ⟨⟨x, hx, h2, _⟩, _⟩ := hr.yes v rfl
    unfold gL at hx
    obtain ⟨i, hi, rfl⟩ := List.mem_map.1 hx
    have := h1 i (by simpa using (List.mem_filter.1 hi).1)
    simp [el, aE] at h2
    omega
theorem dl_no {i : Nat} (h : ¬ ((i : Int) ≠ G ∧ f i = c)) : dl f (i + 1) G c = dl f i G c := by
  unfold dl
  rw [List.range_succ, List.filter_append, List.map_append]
  have : (fun i : Nat => !((i : Int) == G) && (f i == c)) i = false := by
    simp only [Bool.and_eq_false_iff, Bool.not_eq_false', beq_iff_eq, beq_eq_false_iff_ne]
    by_cases hg : (i : Int) = G
    · exact .inl hg
    · exact .inr fun e => h ⟨hg, e⟩
  simp [this]
theorem dl_yes {i : Nat} (h : (i : Int) ≠ G) (h2 : f i = c) : dl f (i + 1) G c = dl f i G c ++ [(i : Int)] := by
  unfold dl
  rw [List.range_succ, List.filter_append, List.map_append]
  have : (fun i : Nat => !((i : Int) == G) && (f i == c)) i = true := by simp [h, h2]
  simp [this]
theorem dl_more (f : Nat → Int) (i k : Nat) : ∃ T, dl f (i + k) G c = dl f i G c ++ T := by
  induction k with
  | zero => exact ⟨[], by simp⟩
  | succ k ih =>
    obtain ⟨T, hT⟩ := ih
    by_cases h : (((i + k : Nat) : Int) ≠ G ∧ f (i + k) = c)
    · exact ⟨T ++ [((i + k : Nat) : Int)], by rw [← Nat.add_assoc, dl_yes h.1 h.2, hT, List.append_assoc]⟩
    · exact ⟨T, by rw [← Nat.add_assoc, dl_no h, hT]⟩
theorem dl_at {i : Nat} (hi : i < n) (h : (i : Int) ≠ G) (h2 : f i = c) : (dl f i G c).length < (dl f n G c).length ∧ (dl f n G c).getD (dl f i G c).length 0 = i := by
  obtain ⟨T, hT⟩ := dl_more (G := G) (c := c) f (i + 1) (n - (i + 1))
  rw [show i + 1 + (n - (i + 1)) = n by omega, dl_yes h h2] at hT
  rw [hT]
  constructor
  · simp
  · rw [List.append_assoc, List.getD_eq_getElem?_getD, List.getElem?_append_right (Nat.le_refl _)]
    simp
theorem dl_le (f : Nat → Int) (i : Nat) : (dl f i G c).length ≤ i := by
  unfold dl
  have := List.length_filter_le (fun i : Nat => !((i : Int) == G) && (f i == c)) (List.range i)
  simp at this ⊢
  exact this
end
theorem gone_of (e : Int) (n : Nat) (hn : 1 ≤ n) (hn2 : n ≤ 40) : ∃ r : Int, e.tmod n = r ∧ -40 < r ∧ r < 40 ∧ ∃ v : Nat, v < n ∧ (r + n).tmod n = v := by
  have h1 := Int.tmod_lt_of_pos e (show (0 : Int) < n by omega)
  have h2 : -(n : Int) < e.tmod n := by
    have := Int.lt_tmod_of_pos e (show (0 : Int) < n by omega)
    omega
  refine ⟨_, rfl, by omega, by omega, ((e.tmod n + n).tmod n).toNat, ?_, ?_⟩
  · have := Int.tmod_lt_of_pos (e.tmod n + n) (show (0 : Int) < n by omega)
    omega
  · have := Int.tmod_nonneg (n : Int) (show 0 ≤ e.tmod n + n by omega)
    omega
end Go.Proofs.Ytgiafngiledmbaa
