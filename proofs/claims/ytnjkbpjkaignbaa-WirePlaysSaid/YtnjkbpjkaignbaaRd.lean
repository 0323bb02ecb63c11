/-
  What the document's Receive does where a message waits.
-/
import Derived.Test.YtnjkbpjkaignbaaRb
namespace Go.Proofs.Ytnjkbpjkaignbaa
open Go.RowKit
set_option linter.unusedVariables false
set_option maxRecDepth 20000

/-- two blocks behind a store -/
theorem two_new (u : World) (o1 o2 : Obj) : ((u.alloc o1).alloc o2).drew.heap[u.heap.size]? = some o1 ∧ Below u.heap.size u ((u.alloc o1).alloc o2).drew :=
  ⟨(heap_alloc_past (u.alloc o1) o2 (by simp)).trans (heap_alloc_at u o1), (((Below.refl _ _).alloc (Nat.le_refl _) _).alloc (by simp) _).drew⟩
section
variable {B : Nat} {w w' : World} {r g d n gc : Nat} {V : Nat → Value} {Gr : Nat → Int} {A : Nat → List (Int × List Int)}
set_option maxHeartbeats 2000000 in
theorem rreceive_some (h : RW B w r g d n gc V Gr A) {i : Nat} (hi : i < n) (fr : Int) (bs : List Int) (q : List (Int × List Int)) (hq : A i = (fr, bs) :: q) : Calls Try.prog 15 #[.pointer (some ⟨r, 0, none⟩), .int .i64 i] w fun e w' => e = .returned (.tuple #[.agg #[.int .i64 fr, .string (strOfNums bs)], .bool true]) ∧ (∃ V', RW B w' r g d n gc V' Gr (upd A i q) ∧ (∀ k, RS g d n V' k → RS g d n V k ∨ w.heap.size ≤ k)) ∧ Trn (RS g d n V) w w' := by
  have hb : Below w.heap.size w (w.alloc (.cells #[.int .i64 0, .string ByteArray.empty] 46)) := (Below.refl _ _).alloc (Nat.le_refl _) _
  have H : Hid (IsHas r i (w.alloc (.cells #[.int .i64 0, .string ByteArray.empty] 46))) := has_ok (h.below hb) hi
  obtain ⟨c0, c1⟩ := h.cc
  have hl := h.lt
  have hdl := h.dlt
  have ci := h.di hi
  have hf := (h.f i).1
  have hi' : (i : Int) < (n : Int) := by omega
  have hlq := h.len i hi
  rw [hq] at hlq
  simp only [List.length_cons] at hlq
  obtain ⟨x, o, cp, hv, hgB, hrow⟩ : ∃ x o cp, V i = .slice (some ⟨x, o, none⟩) (q.length + 1) cp ∧ B ≤ x ∧ Row w x o cp ((fr, bs) :: q) := by
    have hQ := h.qs i hi
    rw [hq] at hQ
    rcases hQ with ⟨_, e⟩ | ⟨g, o, cp, e, hB, hr⟩
    · cases e
    · exact ⟨g, o, cp, by simpa using e, hB, hr⟩
  have hxl := hrow.lt
  obtain ⟨cur, r1, r2, r3, r4, r5⟩ := hrow
  simp only [List.length_cons] at r3
  have d0 : w.cell? ⟨x, o, none⟩ = some (.int .i64 fr) := by have := r5 0 (by simp) 0 (by omega); rw [cell_at r1]; simpa [rc] using this
  have d1 : w.cell? ⟨x, o + 1, none⟩ = some (.string (strOfNums bs)) := by have := r5 0 (by simp) 1 (by omega); rw [cell_at r1]; simpa [rc] using this
  have hnx : x ≠ d := by
    have : (V i).ownBlock = some x := by rw [hv]; rfl
    exact (h.one hi this).2.2
  have HN : Hid (∀ o' c', o' + c' * 2 ≤ o + cp * 2 → q.length ≤ c' → c' ≤ cp → (q ≠ [] → o' = o + 2) → ∀ k, RW B ((w.drewN k).setCell ⟨d, i, none⟩ (.slice (some ⟨x, o', none⟩) q.length c')) r g d n gc (upd V i (.slice (some ⟨x, o', none⟩) q.length c')) Gr (upd A i q) ∧ Trn (RS g d n V) w ((w.drewN k).setCell ⟨d, i, none⟩ (.slice (some ⟨x, o', none⟩) q.length c'))) := fun o' c' h1 h2 h3 h4 k => by
    refine h.setv hi _ q (by omega) (w' := w.drewN k) (.inr ⟨x, o', c', rfl, hgB, cur, r1, by omega, h2, by omega, fun j hj k hk => ?_⟩) (fun b hb => .inl ?_) ⟨rfl, rfl, rfl, Nat.le_refl _, fun _ _ _ => rfl⟩
    · have e4 := h4 (fun e => by rw [e] at hj; simp at hj)
      have := r5 (j + 1) (by simp; omega) k hk
      rw [e4, show o + 2 + j * 2 + k = o + (j + 1) * 2 + k by omega]
      simpa using this
    · cases hb
      rw [hv]
      rfl
  have HV : Hid (∀ o' c' k, RS g d n (upd V i (.slice (some ⟨x, o', none⟩) q.length c')) k → RS g d n V k ∨ w.heap.size ≤ k) := fun o' c' k hk => by
    rcases hk with e | e | ⟨j, hj, e⟩
    · exact .inl (.inl e)
    · exact .inl (.inr (.inl e))
    · by_cases hji : j = i
      · subst hji
        rw [upd_self] at e
        refine .inl (.inr (.inr ⟨j, hj, ?_⟩))
        rw [hv]
        exact e
      · rw [upd_other _ _ _ hji] at e
        exact .inl (.inr (.inr ⟨j, hj, e⟩))
  rw [hv] at ci
  have r3' : ((q.length : Int) + 1) ≤ (cp : Int) := by omega
  have HE : Hid (∀ o' c' o1 o2, o' + c' * 2 ≤ o + cp * 2 → q.length ≤ c' → c' ≤ cp → (q ≠ [] → o' = o + 2) → (((w.setCell ⟨d, i, none⟩ (.slice (some ⟨x, o', none⟩) q.length c')).alloc o1).alloc o2).drew.heap[w.heap.size]? = some o1 ∧ (∃ V', RW B (((w.setCell ⟨d, i, none⟩ (.slice (some ⟨x, o', none⟩) q.length c')).alloc o1).alloc o2).drew r g d n gc V' Gr (upd A i q) ∧ (∀ k, RS g d n V' k → RS g d n V k ∨ w.heap.size ≤ k)) ∧ Trn (RS g d n V) w (((w.setCell ⟨d, i, none⟩ (.slice (some ⟨x, o', none⟩) q.length c')).alloc o1).alloc o2).drew) := fun o' c' o1 o2 h1 h2 h3 h4 => by
    obtain ⟨p1, p2⟩ := HN.out o' c' h1 h2 h3 h4 0
    obtain ⟨t1, t2⟩ := two_new (w.setCell ⟨d, i, none⟩ (.slice (some ⟨x, o', none⟩) q.length c')) o1 o2
    have t1' := t1
    rw [World.size_setCell] at t1'
    exact ⟨t1', ⟨_, p1.below t2, HV.out o' c'⟩, p2.trans (Trn.of_below t2)⟩
  clear h r1 r2 r5 hv hq hb HN HV
  generalize strOfNums bs = st at d1 ⊢
  by_cases hc1 : cp = 1
  · subst hc1
    obtain rfl : q = [] := List.eq_nil_of_length_eq_zero (by omega)
    simp only [List.length_nil] at *
    go_enter Try.func15, Try.ntmps15
    go_wp2_with fail
    refine Calls.mono H.out ?_
    rintro e w1 ⟨rfl, rfl⟩
    go_wp2_with fail
    go_region
    all_goals
      go_wp2_with fail
      obtain ⟨z1, z2, z3⟩ := HE.out o 0 (.cells #[.int .i64 fr, .string st] 46) (.cells #[.int .i64 fr, .string st] 46) (by omega) (by omega) (by omega) (fun h => absurd rfl h)
      exact bodyPost_ret (v := _) (results_cell_row2 Try.results15 _ _ _ _ _ _ _ rfl z1 Try.underlying46 rfl (by kernel_rfl)) rfl ⟨rfl, z2, z3⟩
  · go_enter Try.func15, Try.ntmps15
    go_wp2_with fail
    refine Calls.mono H.out ?_
    rintro e w1 ⟨rfl, rfl⟩
    go_wp2_with fail
    go_region
    all_goals
      go_wp2_with fail
      obtain ⟨z1, z2, z3⟩ := HE.out (o + 2) (cp - 1) (.cells #[.int .i64 fr, .string st] 46) (.cells #[.int .i64 fr, .string st] 46) (by omega) (by omega) (by omega) (fun _ => rfl)
      exact bodyPost_ret (v := _) (results_cell_row2 Try.results15 _ _ _ _ _ _ _ rfl z1 Try.underlying46 rfl (by kernel_rfl)) rfl ⟨rfl, z2, z3⟩
end
end Go.Proofs.Ytnjkbpjkaignbaa
