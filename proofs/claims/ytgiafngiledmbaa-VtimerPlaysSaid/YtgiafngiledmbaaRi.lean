/-
  The document's Begin where there is a row: its contract, and Begin's whole.
-/
import Derived.Test.YtgiafngiledmbaaRh
namespace Go.Proofs.Ytgiafngiledmbaa
open Go.RowKit Go.Maps
set_option linter.unusedVariables false
set_option maxRecDepth 100000
section
variable {w : World} {r : Nat} {v : Value} {L : List Tm}
set_option maxHeartbeats 3200000 in
theorem rbegin_row {g cc : Nat} (h : DX w r (.slice (some ⟨g, 0, none⟩) L.length cc) L) (hr : Row w g cc L) (k c : Int) (hk : KW k) (hc : 0 ≤ c) (hf : fnd L k = none) (hL : L.length < 64) : Calls Try.prog 21 #[.pointer (some ⟨r, 0, none⟩), .int .i64 k, .int .u64 c] w fun e w' => e = .returned (.int .i64 0) ∧ BeR w r (.slice (some ⟨g, 0, none⟩) L.length cc) L k c w' := by
  have C' := find_no h hf
  have K := fun w' => capped_any c w'
  have c0 := h.c0
  have hl := h.lt
  have hcap := hr.cap
  have HT : Hid (∀ p, p ≤ L.length → (∀ i y, i < p → L[i]? = some y → y.id < k) → (∀ y, L[p]? = some y → ¬ y.id < k) → ∃ v1 w1 v2 w2 a3 n3 k3 w3, (Builtin.append_ #[26, 26] 26 #[.slice (some ⟨w.heap.size, 0, none⟩) 0 0, .slice (some ⟨g, 0, none⟩) p cc]).run Try.prog (w.alloc (.cells #[] 63)) = .ok v1 w1 ∧
      (Builtin.append_ #[26, 26] 26 #[v1, .slice (some ⟨w1.heap.size, 0, none⟩) 1 1]).run Try.prog (w1.alloc (.cells #[.int .i64 k, .int .u64 (cap c), .bool false, .int .u64 0, .bool false, .int .u64 0] 63)) = .ok v2 w2 ∧
      (Builtin.append_ #[26, 26] 26 #[v2, .slice (some (if cc = p then ⟨g, 0, none⟩ else ⟨g, p * 6, none⟩)) (L.length - p) (cc - p)]).run Try.prog w2 = .ok (.slice a3 n3 k3) w3 ∧
      (w1.cell? ⟨r, 0, none⟩ = some (.slice (some ⟨g, 0, none⟩) L.length cc) ∧ r < w1.heap.size) ∧ (w2.cell? ⟨r, 0, none⟩ = some (.slice (some ⟨g, 0, none⟩) L.length cc) ∧ r < w2.heap.size) ∧ (w3.cell? ⟨r, 0, none⟩ = some (.slice (some ⟨g, 0, none⟩) L.length cc) ∧ w3.frozen? ⟨r, 0, none⟩ = false ∧ r < w3.heap.size) ∧
      BeR w r (.slice (some ⟨g, 0, none⟩) L.length cc) L k c (w3.setCell ⟨r, 0, none⟩ (.slice a3 n3 k3))) := fun p hp h1 h2 => by
    obtain ⟨hbe, ok⟩ := begin_at h hk hc hf hL p hp h1 h2
    obtain ⟨v1, w1, v2, w2, v3, w3, r1, r2, r3, b1, b2, b3, P1, P2, P3⟩ := begin_runs h p hp ok (.slice (some ⟨g, 0, none⟩) p cc) _ (.inr ⟨g, cc, rfl, rfl, rfl⟩)
    obtain ⟨a3, n3, k3, hv3⟩ : ∃ a n k, v3 = .slice a n k := by obtain ⟨a, k, e⟩ := P1.its.form; exact ⟨a, _, k, e⟩
    subst hv3
    have e1 := b1.trans h.ob
    have e2 := b2.trans h.ob
    have e3 := b3.trans h.ob
    exact ⟨v1, w1, v2, w2, a3, n3, k3, w3, r1, r2, r3, ⟨by rw [cell_at e1]; rfl, lt_of_heap e1⟩, ⟨by rw [cell_at e2]; rfl, lt_of_heap e2⟩, ⟨by rw [cell_at e3]; rfl, fz_at e3 0, lt_of_heap e3⟩, ⟨_, by rw [hbe]; exact P1, P2, fun j hj => .inr (P3 j hj)⟩⟩
  have HR : Hid (Row w g cc L) := hr
  obtain ⟨n, hn⟩ : ∃ n, n = L.length := ⟨_, rfl⟩
  have HN : Hid (n = L.length) := hn
  rw [← hn] at c0 hcap hL HT ⊢
  clear h hr hf hn
  generalize cap c = cp at *
  have hnl : ¬ ((64 : Int) ≤ (n : Int)) := by omega
  go_enter Try.func21, Try.ntmps21
  go_wp2_with fail
  refine C'.mono ?_
  rintro e w0 ⟨rfl, rfl⟩
  clear C'
  go_wp2_with fail
  go_loopw [7] (fun q wr => wr = w0 ∧ ∃ j : Nat, j ≤ n ∧ q = .int .i64 j ∧ Hid (∀ i y, i < j → L[i]? = some y → y.id < k)) (fun q _ => n - (intOf q).toNat)
  case atStart => exact ⟨rfl, 0, by omega, rfl, fun i y hi => absurd hi (by omega)⟩
  case round =>
    obtain ⟨rfl, j, hj, rfl, HJ⟩ := hrel
    by_cases hjn : j < n
    · have hjn' : (j : Int) < (n : Int) := by omega
      obtain ⟨x, hx⟩ : ∃ x, L[j]? = some x := ⟨_, List.getElem?_eq_getElem (by have := HN.out; omega)⟩
      obtain ⟨d0, d1, d2, d3, d4, d5⟩ := HR.out.all hx
      have gl := HR.out.lt
      clear d1 d2 d3 d4 d5
      by_cases hid : x.id < k
      · have HS : Hid (∀ i y, i < j + 1 → L[i]? = some y → y.id < k) := fun i y hi hy => by
          rcases Nat.lt_succ_iff_lt_or_eq.1 hi with h' | rfl
          · exact HJ.out i y h' hy
          · rw [hx] at hy; cases hy; exact hid
        clear hx
        go_wp2_with fail
        go_roundw
        case rel => exact ⟨by trivial, j + 1, by omega, by go_num, HS.out⟩
        case measure => simp [intOf]; omega
      · obtain ⟨v1, w1, v2, w2, a3, n3, k3, w3, r1, r2, r3, ⟨x1, l1⟩, ⟨x2, l2⟩, ⟨x3, f3, l3⟩, HB⟩ := HT.out j hj HJ.out (fun y hy => by have e : x = y := Option.some.inj (hx.symm.trans hy); rw [← e]; omega)
        have HF : Hid (_) := HB
        have q1 : (j : Int) ≤ (cc : Int) := by omega
        have q2 : (0 : Int) ≤ (j : Int) := by omega
        have q3 : (j : Int) ≤ (n : Int) := by omega
        clear HB HT hx HJ
        by_cases hcc : cc = j
        · exfalso; omega
        · rw [if_neg hcc] at r3
          go_wp2_with (first | refine step_app rfl _ _ 26 rfl _ _ _ _ rfl rfl r1 ?_ | refine step_app rfl _ _ 26 rfl _ _ _ _ rfl rfl r2 ?_ | refine step_app rfl _ _ 26 rfl _ _ _ _ rfl rfl r3 ?_)
          refine (K _).mono ?_
          rintro e y ⟨rfl, rfl⟩
          go_wp2_with (first | refine step_app rfl _ _ 26 rfl _ _ _ _ rfl rfl r1 ?_ | refine step_app rfl _ _ 26 rfl _ _ _ _ rfl rfl r2 ?_ | refine step_app rfl _ _ 26 rfl _ _ _ _ rfl rfl r3 ?_)
          go_ret
          exact ⟨rfl, HF.out⟩
    · obtain rfl : j = n := by omega
      obtain ⟨v1, w1, v2, w2, a3, n3, k3, w3, r1, r2, r3, ⟨x1, l1⟩, ⟨x2, l2⟩, ⟨x3, f3, l3⟩, HB⟩ := HT.out j hj HJ.out (fun y hy => by have := (List.getElem?_eq_some_iff.1 hy).1; have := HN.out; omega)
      have HF : Hid (_) := HB
      have q1 : (j : Int) ≤ (cc : Int) := by omega
      have q2 : (0 : Int) ≤ (j : Int) := by omega
      clear HB HT HJ
      by_cases hcc : cc = j
      · rw [if_pos hcc] at r3
        subst hcc
        simp only [Nat.sub_self] at r3
        go_wp2_with (first | refine step_app rfl _ _ 26 rfl _ _ _ _ rfl rfl r1 ?_ | refine step_app rfl _ _ 26 rfl _ _ _ _ rfl rfl r2 ?_ | refine step_app rfl _ _ 26 rfl _ _ _ _ rfl rfl r3 ?_)
        refine (K _).mono ?_
        rintro e y ⟨rfl, rfl⟩
        go_wp2_with (first | refine step_app rfl _ _ 26 rfl _ _ _ _ rfl rfl r1 ?_ | refine step_app rfl _ _ 26 rfl _ _ _ _ rfl rfl r2 ?_ | refine step_app rfl _ _ 26 rfl _ _ _ _ rfl rfl r3 ?_)
        go_ret
        exact ⟨rfl, HF.out⟩
      · rw [if_neg hcc] at r3
        simp only [Nat.sub_self] at r3
        go_wp2_with (first | refine step_app rfl _ _ 26 rfl _ _ _ _ rfl rfl r1 ?_ | refine step_app rfl _ _ 26 rfl _ _ _ _ rfl rfl r2 ?_ | refine step_app rfl _ _ 26 rfl _ _ _ _ rfl rfl r3 ?_)
        refine (K _).mono ?_
        rintro e y ⟨rfl, rfl⟩
        go_wp2_with (first | refine step_app rfl _ _ 26 rfl _ _ _ _ rfl rfl r1 ?_ | refine step_app rfl _ _ 26 rfl _ _ _ _ rfl rfl r2 ?_ | refine step_app rfl _ _ 26 rfl _ _ _ _ rfl rfl r3 ?_)
        go_ret
        exact ⟨rfl, HF.out⟩
theorem rbegin_dx (h : DX w r v L) (k c : Int) (hk : KW k) (hc : 0 ≤ c) : Calls Try.prog 21 #[.pointer (some ⟨r, 0, none⟩), .int .i64 k, .int .u64 c] w fun e w' => e = .returned (.int .i64 (beE L k)) ∧ BeR w r v L k c w' := by
  by_cases he : beE L k = 0
  · have hf : fnd L k = none ∧ L.length < 64 := by
      unfold beE at he
      cases hf : fnd L k with
      | some x => rw [hf] at he; simp at he
      | none => rw [hf] at he; simp at he; exact ⟨rfl, by omega⟩
    rw [he]
    rcases h.its with ⟨rfl, rfl⟩ | ⟨g, cc, rfl, hr⟩
    · exact rbegin_nil h k c hk hc
    · exact rbegin_row h hr k c hk hc hf.1 hf.2
  · exact rbegin_no h k c he
end
end Go.Proofs.Ytgiafngiledmbaa
