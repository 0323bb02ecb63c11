/-
  What slices.Delete does with the first place of an order.
-/
import Derived.Test.YtgafdbamlmaifaaSc
namespace Go.Proofs.Ytgafdbamlmaifaa.S
open Go.RowKit Go.Maps
set_option linter.unusedVariables false
set_option maxRecDepth 20000

set_option maxHeartbeats 800000 in
theorem delete_one (g c n : Nat) (F : Nat → Pl) (w : World) (h : Row w g c (n + 1) F) :
    Calls Try.prog 51 #[.slice (some ⟨g, 0, none⟩) (n + 1) c, .int .i64 0, .int .i64 1] w fun e w' => e = .returned (.slice (some ⟨g, 0, none⟩) n c) ∧ Row w' g c n (fun i => F (i + 1)) ∧ w.grownBy w' (some g) := by
  have hc := h.cap
  have hn1 : (1 : Int) ≤ (n : Int) + 1 := by omega
  obtain ⟨i0, hi, hz, hs, hby⟩ := info_parts68
  obtain ⟨cur, h0, h1, h2, h3, h4⟩ := h
  have hsp : ∀ j, j < n * 2 → (w.cell? ⟨g, 0 + 0 * 2 + j, none⟩).isSome = true ∧ w.frozen? ⟨g, 0 + 0 * 2 + j, none⟩ = false := fun j hj => by
    constructor
    · simp [World.cell?, h0]
      omega
    · simp [World.frozen?, h0]
  obtain ⟨news, hnl, hnat, hn1c⟩ : ∃ news : List Value, news.length = n * 2 ∧ (∀ k j, k < n → j < 2 → news[k * 2 + j]? = (pc (F (k + 1)))[j]?) ∧ (∀ u ∈ news, u.oneCell' = true) := by
    refine ⟨((List.range n).map (fun i => F (i + 1))).flatMap pc, by rw [len2]; simp, fun k j hk hj => ?_, fun u hu => ?_⟩
    · rw [flat2 _ k j (by simpa using hk) hj]
      simp
    · obtain ⟨p, _, hp⟩ := List.mem_flatMap.1 hu
      simp [pc, kv] at hp
      rcases hp with rfl | rfl <;> rfl
  have hnc : ∀ j u, news[j]? = some u → w.cell? ⟨g, 2 + j, none⟩ = some u := fun j u hu => by
    have hj : j < n * 2 := by rw [← hnl]; exact (List.getElem?_eq_some_iff.1 hu).1
    have e : j = j / 2 * 2 + j % 2 := by omega
    rw [e, hnat (j / 2) (j % 2) (by omega) (by omega)] at hu
    obtain ⟨q0, q1⟩ := h4 (j / 2 + 1) (by omega)
    rcases (by omega : j % 2 = 0 ∨ j % 2 = 1) with e2 | e2
    · rw [e2] at hu
      simp [World.cell?, h0]
      rw [show 2 + j = (j / 2 + 1) * 2 by omega]
      simpa [pc, q0] using hu
    · rw [e2] at hu
      simp [World.cell?, h0]
      rw [show 2 + j = (j / 2 + 1) * 2 + 1 by omega]
      simpa [pc, q1] using hu
  obtain ⟨cur', r1, r2, r3, r4⟩ := setCells_heap g 82 news 0 w.drew cur h0 (by omega)
  have hR : Row (w.drew.setCells g 0 news) g c n (fun i => F (i + 1)) := by
    refine ⟨cur', r1, by omega, by omega, h3, fun i hi => ?_⟩
    have n0 := hnat i 0 hi (by omega)
    have n1 := hnat i 1 hi (by omega)
    constructor
    · rw [r3, if_pos (by omega)]
      simpa [pc] using n0
    · rw [r3, if_pos (by omega)]
      simpa [pc] using n1
  obtain ⟨w2, c1, c2, c3⟩ := clear_run hR 0 n 1 (c - n) (Nat.le_refl _) (by omega) (by omega)
  have HF : Hid (Row w2 g c n (fun i => F (i + 1)) ∧ w.grownBy w2 (some g)) := ⟨c2, grown_trans (show w.grownBy (w.drew.setCells g 0 news) (some g) from ⟨r4.os, r4.tape, r4.output, r4.size, r4.block⟩) c3⟩
  clear c2 c3 hR r1 r2 r3 r4 h4
  by_cases hc1 : c = 1
  · obtain rfl : n = 0 := by omega
    obtain rfl : news = [] := List.eq_nil_of_length_eq_zero (by omega)
    subst hc1
    go_enter Try.func51, Try.ntmps51
    go_wp2_with fail
    go_region_law (refine step_append_room rfl (.tmp 22) (.tmp 25) 78 rfl 82 i0 2 Try.underlying78 hi hs g 0 0 1 (by rfl) ⟨g, 0, none⟩ 0 0 [] (by rfl) rfl (fun j u hu => by cases hu) hn1c (by omega) (fun j hj => by cases hj) ?_)
    go_wp2_with fail
    go_ret
    exact ⟨rfl, HF.out⟩
  · go_enter Try.func51, Try.ntmps51
    go_wp2_with fail
    go_region_law (refine step_append_room rfl (.tmp 22) (.tmp 25) 78 rfl 82 i0 2 Try.underlying78 hi hs g 0 0 c (by rfl) ⟨g, 2, none⟩ n (c - 1) news (by rfl) hnl (fun j u hu => by by_cases hj : j = 0; (subst hj; simpa [Addr.add] using hnc _ u hu); simpa [Addr.add, hj] using hnc j u hu) hn1c (by omega) (fun j hj => hsp j (hnl ▸ hj)) ?_)
    go_wp2_with fail
    go_ret
    exact ⟨rfl, HF.out⟩
end Go.Proofs.Ytgafdbamlmaifaa.S
