/-
  The document's cache: items appended; what its Put does.
-/
import Derived.Test.YtgafdbamlmaifaaRb
import Derived.Test.YtgafdbamlmaifaaUc
namespace Go.Proofs.Ytgafdbamlmaifaa.R
open Go.RowKit
set_option linter.unusedVariables false
set_option maxRecDepth 20000

theorem flat3 : ∀ (ls : List It) (k j : Nat) (hk : k < ls.length), j < 3 → (ls.flatMap ic)[k * 3 + j]? = (ic ls[k])[j]?
  | s :: r, 0, j, hk, hj => by
    simp only [List.flatMap_cons, Nat.zero_mul, Nat.zero_add, List.getElem_cons_zero]
    exact List.getElem?_append_left hj
  | s :: r, k + 1, j, hk, hj => by
    simp only [List.flatMap_cons, List.getElem_cons_succ]
    have h9 : (ic s).length = 3 := rfl
    rw [List.getElem?_append_right (by omega), h9, show (k + 1) * 3 + j - 3 = k * 3 + j by omega]
    exact flat3 r k j (by simpa using hk) hj
theorem len3 (ls : List It) : (ls.flatMap ic).length = ls.length * 3 := by
  induction ls with
  | nil => rfl
  | cons s r ih => simp only [List.flatMap_cons, List.length_append, ih, List.length_cons]; simp [ic]; omega
theorem one3 (ls : List It) : ∀ u ∈ ls.flatMap ic, u.oneCell' = true := fun u hu => by
  obtain ⟨p, _, hp⟩ := List.mem_flatMap.1 hu
  simp [ic] at hp
  rcases hp with rfl | rfl | rfl <;> rfl
/-- a row of the call's own -/
theorem its_of_row {B : Nat} {w : World} {v : Value} {is : List It} (h : w.ownsRow B 74 3 v is.length (is.flatMap ic)) : Its B w v is := by
  obtain ⟨_, ⟨rfl, h0⟩ | ⟨g, c, cur, rfl, hB, h, h2, h3, h1, h4⟩⟩ := h
  · exact .inl ⟨rfl, List.eq_nil_of_length_eq_zero h0⟩
  · refine .inr ⟨g, 0, c, by simp, hB, cur, h, by simpa using h1, h2, h3, fun i hi => ?_⟩
    have q : ∀ j, j < 3 → cur[i * 3 + j]? = (ic is[i])[j]? := fun j hj => by
      rw [← flat3 is i j hi hj, ← h4, List.getElem?_take_of_lt (by omega)]
      simp
    simp only [List.getD, List.getElem?_eq_getElem hi, Option.getD_some, Nat.zero_add]
    exact ⟨q 0 (by omega), q 1 (by omega), q 2 (by omega)⟩
/-- the cells of items from place k on -/
theorem Row.cells {w : World} {g o c : Nat} {is : List It} (h : Row w g o c is.length (fun i => is.getD i i0)) (k n : Nat) (hk : k + n ≤ is.length) (j : Nat) (u : Value) (hu : (((is.drop k).take n).flatMap ic)[j]? = some u) :
    w.cell? ⟨g, (o + k) * 3 + j, none⟩ = some u := by
  have hl : ((is.drop k).take n).length = n := by simp; omega
  have hj : j < n * 3 := by
    have := (List.getElem?_eq_some_iff.1 hu).1
    rw [len3, hl] at this
    exact this
  have e : j = j / 3 * 3 + j % 3 := by omega
  have hkj : j / 3 < ((is.drop k).take n).length := by omega
  rw [e, flat3 _ (j / 3) (j % 3) hkj (by omega)] at hu
  have hx : k + j / 3 < is.length := by omega
  obtain ⟨q0, q1, q2⟩ := h.c (k + j / 3) hx
  simp only [List.getD, List.getElem?_eq_getElem hx, Option.getD_some] at q0 q1 q2
  simp only [List.getElem_take, List.getElem_drop] at hu
  rcases (by omega : j % 3 = 0 ∨ j % 3 = 1 ∨ j % 3 = 2) with e2 | e2 | e2
  · rw [show (o + k) * 3 + j = o * 3 + (k + j / 3) * 3 by omega, q0]
    rw [e2] at hu
    simpa [ic] using hu
  · rw [show (o + k) * 3 + j = o * 3 + (k + j / 3) * 3 + 1 by omega, q1]
    rw [e2] at hu
    simpa [ic] using hu
  · rw [show (o + k) * 3 + j = o * 3 + (k + j / 3) * 3 + 2 by omega, q2]
    rw [e2] at hu
    simpa [ic] using hu

theorem info74 : (Try.prog.info? 74).map (fun i => (i.zero, i.size)) = some (some (.agg (ic i0).toArray), 3) := by kernel_rfl
theorem bytes74 : (Try.prog.info? 74).map (fun i => decide (i.bytes ≤ 200)) = some true := by kernel_rfl
theorem info_parts74 : ∃ i, Try.prog.info? 74 = some i ∧ i.zero = some (.agg (ic i0).toArray) ∧ i.size = 3 ∧ i.bytes ≤ 200 := by
  have h := info74
  have h2 := bytes74
  cases hq : Try.prog.info? 74 with
  | none => rw [hq] at h; cases h
  | some i =>
    rw [hq] at h h2
    have e := Option.some.inj h
    exact ⟨i, rfl, congrArg Prod.fst e, congrArg Prod.snd e, by simpa using h2⟩
theorem add_plain (b o j : Nat) : (⟨b, o, none⟩ : Addr).add j = ⟨b, o + j, none⟩ := by unfold Addr.add; split <;> simp_all

theorem Its.push {B : Nat} {w : World} {v : Value} {is : List It} (h : Its B w v is) (it : It) (hl : is.length < 100000) (hB : B ≤ w.heap.size) :
    ∃ v' w', (Builtin.append_ #[41, 41] 41 #[v, .slice (some ⟨w.heap.size, 0, none⟩) 1 1]).run Try.prog (w.alloc (.cells (ic it).toArray 74)) = .ok v' w' ∧ Its B w' v' (is ++ [it]) ∧
      (w.alloc (.cells (ic it).toArray 74)).grownBy w' v.ownBlock ∧ ∀ k, v'.ownBlock = some k → v.ownBlock = some k ∨ w.heap.size ≤ k := by
  obtain ⟨i, hi, hz, hs, hby⟩ := info_parts74
  have hnew : ∀ j u, (ic it)[j]? = some u → (w.alloc (.cells (ic it).toArray 74)).cell? ((⟨w.heap.size, 0, none⟩ : Addr).add j) = some u := fun j u hu => by
    rw [add_plain]
    simp only [World.cell?, heap_alloc_at, Nat.zero_add]
    simpa using hu
  have hone : ∀ u ∈ ic it, u.oneCell' = true := fun u hu => by simp [ic] at hu; rcases hu with rfl | rfl | rfl <;> rfl
  have hbytes : (is.length + 1) * i.bytes ≤ 140737488355328 := by
    have : (is.length + 1) * i.bytes ≤ 100000 * 200 := Nat.mul_le_mul (by omega) hby
    omega
  rcases h with ⟨rfl, rfl⟩ | ⟨g, o, c, rfl, hgB, hrow⟩
  · obtain ⟨v', w', hrun, h1, h2, _, h4⟩ := run_append_own_at (P := Try.prog) (w.alloc (.cells (ic it).toArray 74)) B 41 41 74 i _ 3 i.bytes Try.underlying41 hi hz hs rfl rfl (by decide) (.slice none 0 0) 0 [] (World.ownsRow_nil _ _ _ _) ⟨w.heap.size, 0, none⟩ 1 1 (ic it) rfl hnew hone (by unfold maxLen; omega) (by simpa using hbytes) (by simp; omega)
    refine ⟨v', w', hrun, its_of_row (by simpa using h1), h2, fun k hk => ?_⟩
    rcases h4 with h4 | h4
    · rw [h4] at hk; cases hk
    · rw [h4] at hk
      cases hk
      right; simp
  · have hgl := hrow.lt
    have hcap := hrow.cap
    have hrow1 : Row (w.alloc (.cells (ic it).toArray 74)) g o c is.length (fun i => is.getD i i0) := hrow.keep (heap_alloc_past w _ hgl)
    by_cases hroom : is.length + 1 ≤ c
    · obtain ⟨cur, r1, r2, r3, r4, r5⟩ := hrow1
      have hl3 : (ic it).length = 3 := rfl
      have hrun := run_append_room_cells (P := Try.prog) (w.alloc (.cells (ic it).toArray 74)) 41 41 74 i Try.underlying41 hi g (o * 3) is.length c ⟨w.heap.size, 0, none⟩ 1 1 (ic it) (by rw [hs]; rfl) hnew hone hroom
        (fun j hj => by rw [hs]; simp [World.cell?, r1]; omega) (fun j hj => by simp [World.frozen?, r1])
      rw [hs] at hrun
      obtain ⟨cur', q1, q2, q3, q4⟩ := U.setCells_heap g 74 (ic it) (o * 3 + is.length * 3) _ cur r1 (by rw [hl3]; omega)
      refine ⟨_, _, hrun, .inr ⟨g, o, c, by simp, hgB, cur', q1, by omega, by simpa using hroom, r4, fun j hj => ?_⟩, q4, fun k hk => .inl hk⟩
      simp only [List.length_append, List.length_singleton] at hj
      rw [q3, q3, q3]
      by_cases hjl : j < is.length
      · rw [if_neg (by omega), if_neg (by omega), if_neg (by omega)]
        have := r5 j hjl
        simpa [List.getElem?_append_left hjl] using this
      · obtain rfl : j = is.length := by omega
        rw [if_pos (by omega), if_pos (by omega), if_pos (by omega)]
        rw [show (o + is.length) * 3 - (o * 3 + is.length * 3) = 0 by omega, show (o + is.length) * 3 + 1 - (o * 3 + is.length * 3) = 1 by omega, show (o + is.length) * 3 + 2 - (o * 3 + is.length * 3) = 2 by omega]
        simp [ic]
    · have hall := hrow1.cells 0 is.length (by omega)
      simp only [List.drop_zero, List.take_length, Nat.add_zero] at hall
      obtain ⟨v', w', hrun, h1, h2⟩ := run_append_arg_grows (P := Try.prog) (w.alloc (.cells (ic it).toArray 74)) 41 41 74 i _ 3 i.bytes Try.underlying41 hi hz hs rfl rfl (by decide) ⟨g, o * 3, none⟩ is.length c (is.flatMap ic) (len3 is)
        (fun j u hu => by rw [add_plain]; exact hall j u hu) ⟨w.heap.size, 0, none⟩ 1 1 (ic it) rfl hnew (by omega) (by unfold maxLen; omega) hbytes
      have h1' : w'.ownsRow (w.heap.size + 1) 74 3 v' (is ++ [it]).length ((is ++ [it]).flatMap ic) := by
        rw [List.length_append, List.flatMap_append]
        simpa using h1
      have hI := its_of_row h1'
      refine ⟨v', w', hrun, ?_, ⟨h2.os, h2.tape, h2.output, h2.size, fun k hk _ => h2.block k hk (by simp)⟩, fun k hk => ?_⟩
      · rcases hI with h' | ⟨g', o', c', e, hB', hr'⟩
        · exact .inl h'
        · exact .inr ⟨g', o', c', e, by omega, hr'⟩
      · right
        have := (hI.lt k hk).1
        omega
end Go.Proofs.Ytgafdbamlmaifaa.R
