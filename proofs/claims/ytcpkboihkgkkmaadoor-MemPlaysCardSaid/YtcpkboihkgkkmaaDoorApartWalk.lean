/-
  A clone goes on by itself, and is the same just as long as both have the same bytes: the walk of MemApart.
-/
import Derived.Test.YtcpkboihkgkkmaaDoorMem6
namespace Go.Proofs.YtcpkboihkgkkmaaDoor
open Go.RowKit
set_option linter.unusedVariables false

theorem splice_getD (zs ys : List Int) (o i : Nat) (ho : o + ys.length ≤ zs.length) : (splice zs o ys).getD i 0 = if o ≤ i ∧ i < o + ys.length then ys.getD (i - o) 0 else zs.getD i 0 := by
  unfold splice
  simp only [List.getD, List.getElem?_append, List.length_take, List.getElem?_take, List.getElem?_drop]
  by_cases h1 : i < o
  · have e : i < min o zs.length := by omega
    have e2 : ¬ (o ≤ i ∧ i < o + ys.length) := by omega
    simp only [e, h1, if_true, e2, if_false]
  · have e1 : ¬ i < min o zs.length := by omega
    have e2 : min o zs.length = o := by omega
    rw [if_neg e1, e2]
    by_cases h2 : i - o < ys.length
    · rw [if_pos h2, if_pos (by omega)]
    · rw [if_neg h2, if_neg (by omega), show o + ys.length + (i - o - ys.length) = i by omega]
theorem leFrom_congr (xs ys : List Int) : ∀ (m k l : Nat), (∀ i, i < m → xs.getD (k + i) 0 = ys.getD (l + i) 0) → leFrom xs k m = leFrom ys l m
  | 0, _, _, _ => rfl
  | m + 1, k, l, h => by
    rw [leFrom, leFrom, leFrom_congr xs ys m (k + 1) (l + 1) (fun i hi => by have := h (i + 1) (by omega); rwa [show k + (i + 1) = k + 1 + i by omega, show l + (i + 1) = l + 1 + i by omega] at this)]
    have := h 0 (by omega)
    simp only [Nat.add_zero] at this
    rw [this]
theorem leFrom_zero (xs : List Int) : ∀ (m k : Nat), (∀ i, i < m → xs.getD (k + i) 0 = 0) → leFrom xs k m = 0
  | 0, _, _ => rfl
  | m + 1, k, h => by
    have h0 := h 0 (by omega)
    simp only [Nat.add_zero] at h0
    rw [leFrom, leFrom_zero xs m (k + 1) (fun i hi => by have := h (i + 1) (by omega); rwa [show k + (i + 1) = k + 1 + i by omega] at this), h0]
    rfl
theorem eq_of_getD {xs ys : List Int} (hl : xs.length = ys.length) (h : ∀ i, i < xs.length → xs.getD i 0 = ys.getD i 0) : xs = ys := by
  apply List.ext_getElem hl
  intro i h1 h2
  have := h i h1
  simpa [List.getD, List.getElem?_eq_getElem h1, List.getElem?_eq_getElem h2] using this
theorem back8 (v : Int) (h0 : 0 ≤ v) (h1 : v ≤ 18446744073709551615) : leFrom (bytesOf v 8) 0 8 = v := by
  rw [le_bytes v 8 8 (by omega)]; omega
theorem bytes_of_zero (n : Nat) : bytesOf 0 n = List.replicate n 0 := by
  apply eq_of_getD (by simp [bytesOf])
  intro i hi
  have hn : i < n := by simpa [bytesOf] using hi
  rw [bytesOf_getD 0 n i hn]
  simp [byteAt, List.getD, hn]

theorem zeros_getD (n i : Nat) : (List.replicate n (0 : Int)).getD i 0 = 0 := by
  by_cases hi : i < n <;> simp [List.getD, hi]
/-- what stands in the first memory: the number at place 8 q of 768 zeros -/
theorem apart_facts (q : Nat) (hq : q < 96) (v : Int) (h0 : 0 ≤ v) (h1 : v ≤ 18446744073709551615) (f : Nat) (hf : f < 3) :
    numE 768 (8 * q : Nat) 8 = 0 ∧
    storeV (List.replicate 768 0) (8 * q : Nat) 8 v = splice (List.replicate 768 0) (8 * q) (bytesOf v 8) ∧
    (splice (List.replicate 768 0) (8 * q) (bytesOf v 8)).length = 768 ∧
    loadV (splice (List.replicate 768 0) (8 * q) (bytesOf v 8)) (8 * q : Nat) 8 = v ∧
    clrE 768 f = 0 ∧ (clearV (splice (List.replicate 768 0) (8 * q) (bytesOf v 8)) f).length = 768 ∧
    loadV (clearV (splice (List.replicate 768 0) (8 * q) (bytesOf v 8)) f) (8 * q : Nat) 8 = (if q / 32 = f then 0 else v) ∧
    (clearV (splice (List.replicate 768 0) (8 * q) (bytesOf v 8)) f = splice (List.replicate 768 0) (8 * q) (bytesOf v 8) ↔ ¬ q / 32 = f ∨ v = 0) := by
  have hb8 := bytesOf_len v 8
  have hz : (List.replicate 768 (0 : Int)).length = 768 := List.length_replicate
  have e1 : numE 768 (8 * q : Nat) 8 = 0 := by
    rw [numE, if_neg (by decide), if_neg (by omega), if_neg (by omega)]
  have hX := length_splice (List.replicate 768 (0 : Int)) (8 * q) (bytesOf v 8) (by omega)
  rw [hz] at hX
  have hXg : ∀ i, (splice (List.replicate 768 (0 : Int)) (8 * q) (bytesOf v 8)).getD i 0 = if 8 * q ≤ i ∧ i < 8 * q + 8 then (bytesOf v 8).getD (i - 8 * q) 0 else 0 := by
    intro i
    rw [splice_getD _ _ _ _ (by omega), hb8]
    rw [zeros_getD]
  have e2 : storeV (List.replicate 768 0) (8 * q : Nat) 8 v = splice (List.replicate 768 0) (8 * q) (bytesOf v 8) := by
    rw [storeV, hz, if_pos e1, Int.toNat_natCast]; rfl
  rw [e2]
  generalize splice (List.replicate 768 (0 : Int)) (8 * q) (bytesOf v 8) = X at *
  have eC : clearV X f = splice X (f * 256) (List.replicate 256 0) := by
    rw [clearV, hX, if_pos (by omega), Int.toNat_natCast]
  have hC := length_splice X (f * 256) (List.replicate 256 0) (by rw [List.length_replicate]; omega)
  have hCg : ∀ i, (splice X (f * 256) (List.replicate 256 0)).getD i 0 = if f * 256 ≤ i ∧ i < f * 256 + 256 then 0 else X.getD i 0 := by
    intro i
    rw [splice_getD _ _ _ _ (by rw [List.length_replicate]; omega), List.length_replicate]
    by_cases h : f * 256 ≤ i ∧ i < f * 256 + 256
    · rw [if_pos h, if_pos h]
      have : i - f * 256 < 256 := by omega
      simp only [List.getD, List.getElem?_replicate, this, if_true]; rfl
    · rw [if_neg h, if_neg h]
  rw [eC]
  generalize splice X (f * 256) (List.replicate 256 (0 : Int)) = Y at *
  have lX : loadV X (8 * q : Nat) 8 = v := by
    rw [loadV, hX, if_pos e1, Int.toNat_natCast, show (8 : Int).toNat = 8 from rfl]
    rw [leFrom_congr X (bytesOf v 8) 8 (8 * q) 0 (fun i hi => by rw [hXg, if_pos (by omega)]; congr 1; omega), back8 v h0 h1]
    rw [extW, if_neg (by omega)]
  refine ⟨e1, rfl, hX, lX, by rw [clrE, if_pos (by omega)], by omega, ?_, ?_⟩
  · by_cases hcl : q / 32 = f
    · rw [if_pos hcl, loadV, hC, hX, if_pos e1, Int.toNat_natCast, show (8 : Int).toNat = 8 from rfl]
      rw [leFrom_zero Y 8 (8 * q) (fun i hi => by rw [hCg, if_pos (by omega)])]
      rw [extW, if_neg (by omega)]
    · rw [if_neg hcl]
      rw [← lX]
      rw [loadV, loadV, hC, hX]
      rw [leFrom_congr Y X (8 : Int).toNat ((8 * q : Nat) : Int).toNat ((8 * q : Nat) : Int).toNat (fun i hi => by rw [hCg, if_neg (by omega)])]
  · constructor
    · intro heq
      by_cases hcl : q / 32 = f
      · right
        have a : loadV Y (8 * q : Nat) 8 = 0 := by
          rw [loadV, hC, hX, if_pos e1, Int.toNat_natCast, show (8 : Int).toNat = 8 from rfl]
          rw [leFrom_zero Y 8 (8 * q) (fun i hi => by rw [hCg, if_pos (by omega)])]
          rw [extW, if_neg (by omega)]
        rw [heq, lX] at a
        exact a
      · exact .inl hcl
    · intro h
      apply eq_of_getD hC
      intro i hi
      rw [hCg]
      by_cases h2 : f * 256 ≤ i ∧ i < f * 256 + 256
      · rw [if_pos h2, hXg]
        by_cases h3 : 8 * q ≤ i ∧ i < 8 * q + 8
        · rcases h with h | rfl
          · omega
          · rw [if_pos h3, bytes_of_zero]
            have : i - 8 * q < 8 := by omega
            simp only [List.getD, List.getElem?_replicate, this, if_true]; rfl
        · rw [if_neg h3]
      · rw [if_neg h2]

namespace memApart
theorem walk (a0 a1 a2 : Int) (w0 : (Lit.int .u64 a0).wf = true) (w1 : (Lit.int .u64 a1).wf = true) (w2 : (Lit.int .i64 a2).wf = true) (w : World) (hz : SZ w) :
    Calls Tryd.prog 6 #[.int .u64 a0, .int .u64 a1, .int .i64 a2] w fun e w' => e = .returned (.bool true) ∧ Below w.heap.size w w' := by
  have b0 := bounds_u64 w0
  have b1 := bounds_u64 w1
  have b2 := bounds_i64 w2
  obtain ⟨q, hq⟩ := Int.eq_ofNat_of_zero_le (show 0 ≤ a0 % 768 / 8 by omega)
  have hq96 : q < 96 := by omega
  obtain ⟨f, hf⟩ : ∃ f : Nat, (wrap64 (a2.tmod 3 + 3)).tmod 3 = f ∧ f < 3 := by
    have h1 := Int.tmod_lt_of_pos a2 (show (0 : Int) < 3 by decide)
    have h2 : -3 < a2.tmod 3 := Int.neg_lt_of_neg_lt (by have := Int.lt_tmod_of_pos a2 (show (0 : Int) < 3 by decide); omega)
    rw [show wrap64 (a2.tmod 3 + 3) = a2.tmod 3 + 3 by unfold wrap64; omega]
    refine ⟨((a2.tmod 3 + 3).tmod 3).toNat, ?_, ?_⟩
    · have := Int.tmod_nonneg (a := a2.tmod 3 + 3) 3 (by omega); omega
    · have := Int.tmod_lt_of_pos (a2.tmod 3 + 3) (show (0 : Int) < 3 by decide); omega
  obtain ⟨hf, hf3⟩ := hf
  obtain ⟨e1, e2, e3, e4, e5, e6, e7, e8⟩ := apart_facts q hq96 a1 b1.1 b1.2 f hf3
  rw [show ((8 * q : Nat) : Int) = (q : Int) * 8 by omega] at e1 e2 e4 e7
  have hzl : (List.replicate 768 (0 : Int)).length = 768 := List.length_replicate
  generalize splice (List.replicate 768 (0 : Int)) (8 * q) (bytesOf a1 8) = X at *
  generalize hY : clearV X f = Y at *
  have N1 := new_yes 3 w (by decide) (by decide)
  rw [show 3 * 256 = 768 from rfl] at N1
  have S1 : ∀ (x : World) b g, SZ x → MM x b g (List.replicate 768 0) → Calls Tryd.prog 17 #[.pointer (some ⟨b, 0, none⟩), .int .u64 ((q : Int) * 8), .int .i64 8, .int .u64 a1] x fun e w' => e = .returned (.int .i64 0) ∧ MM w' b g X ∧ x.grownBy w' (some g) := by
    intro x b g hz h
    have := mstore_mm b g _ ((q : Int) * 8) 8 a1 x hz h (by omega) (by omega) (by omega) (by omega) (by omega)
    rw [hzl, e1, e2] at this
    exact this
  have C1 : ∀ (x : World) b g, MM x b g X → Calls Tryd.prog 19 #[.pointer (some ⟨b, 0, none⟩), .int .i64 f] x fun e w' => e = .returned (.int .i64 0) ∧ MM w' b g Y ∧ x.grownBy w' (some g) := by
    intro x b g h
    have := mclear_mm b g X f x h
    rw [e3, e5, hY] at this
    exact this
  have L1 : ∀ (x : World) b g, SZ x → MM x b g X → Calls Tryd.prog 16 #[.pointer (some ⟨b, 0, none⟩), .int .u64 ((q : Int) * 8), .int .i64 8] x fun e w' => e = .returned (.tuple #[.int .u64 a1, .int .i64 0]) ∧ Below x.heap.size x w' := by
    intro x b g hz h
    have := mload_mm b g X ((q : Int) * 8) 8 x hz h (by omega) (by omega) (by omega)
    rw [e3, e1, e4] at this
    exact this
  have L2 : ∀ (x : World) b g, SZ x → MM x b g Y → Calls Tryd.prog 16 #[.pointer (some ⟨b, 0, none⟩), .int .u64 ((q : Int) * 8), .int .i64 8] x fun e w' => e = .returned (.tuple #[.int .u64 (if q / 32 = f then 0 else a1), .int .i64 0]) ∧ Below x.heap.size x w' := by
    intro x b g hz h
    have := mload_mm b g Y ((q : Int) * 8) 8 x hz h (by omega) (by omega) (by omega)
    rw [e6, e1, e7] at this
    exact this
  have E8 : Hid (_) := e8
  clear e1 e2 e3 e4 e5 e6 e7 e8 hzl hY
  go_enter Tryd.func6, Tryd.ntmps6
  go_wp2_with fail
  refine N1.mono ?_
  rintro e x1 ⟨b, g, rfl, m1, lb, lg, c1⟩
  have z1 := SZ.below hz c1
  have hsz := hz.pos
  clear N1
  go_wp2_with fail
  refine (S1 x1 b g z1 m1).mono ?_
  rintro e x2 ⟨rfl, m2, k2⟩
  have z2 := SZ.kept z1 (by omega) k2
  have c2 : Below w.heap.size w x2 := c1.grown k2 c1.size (by intro k h; cases h; exact lg)
  go_wp2_with fail
  refine (clone_mm b g X x2 m2).mono ?_
  rintro e x3 ⟨b', g', rfl, m3, lb', lg', k3⟩
  have m3' := m2.below k3
  have z3 := SZ.below z2 k3
  have c3 : Below w.heap.size w x3 := c2.trans (k3.mono c2.size)
  have s2 := c2.size
  have l2 := m2.blt
  have l2' := m2.glt
  go_wp2_with fail
  refine (same_any _ _ _ _ _ _ _ _ X X x3 m3.hv m3'.hv m3.slAll m3'.slAll).mono ?_
  rintro e x4 ⟨rfl, rfl⟩
  rw [decide_eq_true rfl]
  go_wp2_with fail
  refine (same_any _ _ _ _ _ _ _ _ X X x4 m3'.hv m3.hv m3'.slAll m3.slAll).mono ?_
  rintro e x5 ⟨rfl, rfl⟩
  rw [decide_eq_true rfl]
  go_wp2_with fail
  refine (C1 x5 b' g' m3).mono ?_
  rintro e x6 ⟨rfl, m6, k6⟩
  have m6' := m3'.kept k6 (by simp; omega) (by simp; omega)
  have z6 := SZ.kept z3 (by omega) k6
  have c6 : Below w.heap.size w x6 := c3.grown k6 c3.size (by intro k h; cases h; omega)
  go_wp2_with fail
  refine (L1 x6 b g z6 m6').mono ?_
  rintro e x7 ⟨rfl, k7⟩
  have m7 := m6.below k7
  have m7' := m6'.below k7
  have z7 := SZ.below z6 k7
  have c7 : Below w.heap.size w x7 := c6.trans (k7.mono c6.size)
  go_wp2_with fail
  refine (L2 x7 b' g' z7 m7).mono ?_
  rintro e x8 ⟨rfl, k8⟩
  have m8 := m7.below k8
  have m8' := m7'.below k8
  have c8 : Below w.heap.size w x8 := c7.trans (k8.mono c7.size)
  have SM := same_any _ _ _ _ _ _ _ _ Y X x8 m8.hv m8'.hv m8.slAll m8'.slAll
  clear m1 m2 m3 m3' m6 m6' m7 m7' m8 m8' z1 z2 z3 z6 z7 c1 c2 c3 c6 c7 k2 k3 k6 k7 k8 S1 C1 L1 L2 hz
  have hdiv : ((q : Int) * 8) / 256 = (q / 32 : Nat) := by omega
  by_cases hcl : q / 32 = f
  · by_cases hv : a1 = 0
    · have hd : decide (Y = X) = true := decide_eq_true (E8.out.2 (.inr hv))
      rw [hd] at SM
      subst hv
      rw [if_pos hcl]
      have hb : (((q / 32 : Nat) : Int) == (f : Int)) = true := by rw [beq_iff_eq]; omega
      go_wp2_with fail
      refine SM.mono ?_
      rintro e x9 ⟨rfl, rfl⟩
      go_wp2_with fail
      go_ret
      exact ⟨rfl, c8⟩
    · have hd : decide (Y = X) = false := decide_eq_false (fun h => by rcases E8.out.1 h with h | h; exact h hcl; exact hv h)
      rw [hd] at SM
      rw [if_pos hcl]
      have hb : (((q / 32 : Nat) : Int) == (f : Int)) = true := by rw [beq_iff_eq]; omega
      have hv' : (a1 == 0) = false := by simpa using hv
      go_wp2_with fail
      refine SM.mono ?_
      rintro e x9 ⟨rfl, rfl⟩
      go_wp2_with fail
      go_ret
      exact ⟨rfl, c8⟩
  · have hd : decide (Y = X) = true := decide_eq_true (E8.out.2 (.inl hcl))
    rw [hd] at SM
    rw [if_neg hcl]
    have hb2 : ((q : Int) / 32 == (f : Int)) = false := by rw [beq_eq_false_iff_ne]; omega
    have hb : (((q / 32 : Nat) : Int) == (f : Int)) = false := by rw [beq_eq_false_iff_ne]; omega
    go_wp2_with fail
    refine SM.mono ?_
    rintro e x9 ⟨rfl, rfl⟩
    go_wp2_with fail
    go_ret
    exact ⟨rfl, c8⟩
end memApart
end Go.Proofs.YtcpkboihkgkkmaaDoor
