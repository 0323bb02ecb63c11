/-
  A slice of entries with their places that the law itself makes.
-/
import Derived.Test.YtbaagnfcdphddaaDoorWhole
import Derived.Maps.AppendAt
namespace Go.Proofs.YtbaagnfcdphddaaDoor
open Go.RowKit
set_option linter.unusedVariables false
set_option maxRecDepth 100000

/-- its cells -/
def slC (s : Sl) : List Value := [.int .i64 s.fr, .int .i64 s.pl, .bool s.e.v, .bool s.e.r, .bool s.e.w, .bool s.e.x, .bool s.e.u, .bool s.e.s, .bool s.e.d, .int .i64 s.e.f, .int .u64 s.raw]
def sl0 : Sl := ⟨0, 0, En.zero, 0⟩
theorem info46 : (Tryd.prog.info? 46).map (fun i => (i.zero, i.size)) = some (some (.agg (slC sl0).toArray), 11) := by kernel_rfl
theorem bytes46 : (Tryd.prog.info? 46).map (fun i => decide (i.bytes ≤ 200)) = some true := by kernel_rfl

theorem row_keep {w w' : World} {base e z n : Nat} {v : Value} {xs : List Value} (h : w.ownsRow base e z v n xs) (hk : ∀ b, v.ownBlock = some b → w'.heap[b]? = w.heap[b]?) : w'.ownsRow base e z v n xs := by
  obtain ⟨hl, h | ⟨g, c, cur, rfl, h1, h2, h3⟩⟩ := h
  · exact ⟨hl, Or.inl h⟩
  · exact ⟨hl, Or.inr ⟨g, c, cur, rfl, h1, (hk g rfl).trans h2, h3⟩⟩
theorem row_lt {w : World} {base e z n : Nat} {v : Value} {xs : List Value} (h : w.ownsRow base e z v n xs) (b : Nat) (hb : v.ownBlock = some b) : b < w.heap.size := by
  obtain ⟨hl, h | ⟨g, c, cur, rfl, h1, h2, h3⟩⟩ := h
  · rw [h.1] at hb; cases hb
  · cases hb
    rcases Nat.lt_or_ge g w.heap.size with h' | h'
    · exact h'
    · rw [Array.getElem?_eq_none h'] at h2; cases h2

theorem wpList_append_run {P : Program} {w : World} {ops : Array Oper} {rest : List Oper} {o : Oper} {a : Act} {Q : Exit → Act → World → Prop} (hgd : o.guard = none) (s x : Operand) (t : TypeId)
    (ho : o.op = .call { callee := .builtin .append, args := #[s, x], argTypes := #[t, t] }) (vs vx v' : Value) (w' : World) (hs : a.eval s = vs) (hx : a.eval x = vx)
    (hrun : (Builtin.append_ #[t, t] o.type #[vs, vx]).run P w = .ok v' w') (h : wpList P ops Q rest (a.put o.dst v') w') : wpList P ops Q (o :: rest) a w :=
  wpList_plain hgd fun _ hK => by
    unfold Oper.wp
    simp [execOp, ho, resolve, invoke, builtin, hs, hx, hrun, Result.andThen]
    exact hK _ _ h

theorem flat11 : ∀ (ls : List Sl) (k j : Nat) (hk : k < ls.length), j < 11 → (ls.flatMap slC)[k * 11 + j]? = (slC ls[k])[j]?
  | s :: r, 0, j, hk, hj => by
    simp only [List.flatMap_cons, Nat.zero_mul, Nat.zero_add, List.getElem_cons_zero]
    exact List.getElem?_append_left hj
  | s :: r, k + 1, j, hk, hj => by
    simp only [List.flatMap_cons, List.getElem_cons_succ]
    have h9 : (slC s).length = 11 := rfl
    rw [List.getElem?_append_right (by omega), h9, show (k + 1) * 11 + j - 11 = k * 11 + j by omega]
    exact flat11 r k j (by simpa using hk) hj

/-- a slice of them, the call's own -/
structure SR (wS w : World) (v : Value) (ls : List Sl) : Prop where
  form : ∃ a cap, v = .slice a ls.length cap
  row : w.ownsRow wS.heap.size 46 11 v ls.length (ls.flatMap slC)
  bel : Below wS.heap.size wS w
  rng : ∀ s ∈ ls, 0 ≤ s.raw ∧ s.raw < 18446744073709551616

theorem SR.nil (w : World) : SR w w (.slice none 0 0) [] := ⟨⟨_, _, rfl⟩, World.ownsRow_nil _ _ _ _, Below.refl _ _, fun s h => by cases h⟩
theorem SR.below {wS w w' : World} {v : Value} {ls : List Sl} (h : SR wS w v ls) (hb : Below w.heap.size w w') : SR wS w' v ls :=
  ⟨h.form, row_keep h.row (fun b hbk => hb.block b (row_lt h.row b hbk)), h.bel.trans (hb.mono h.bel.size), h.rng⟩
theorem SR.push {wS w : World} {v : Value} {ls : List Sl} (h : SR wS w v ls) (l : Sl) (hl : ls.length < 100000) (hr : 0 ≤ l.raw ∧ l.raw < 18446744073709551616) :
    ∃ v' w', (Builtin.append_ #[22, 22] 22 #[v, .slice (some ⟨w.heap.size, 0, none⟩) 1 1]).run Tryd.prog (w.alloc (.cells (slC l).toArray 46)) = .ok v' w' ∧ SR wS w' v' (ls ++ [l]) := by
  have hbs := h.bel.size
  obtain ⟨i, hi, hz⟩ : ∃ i, Tryd.prog.info? 46 = some i ∧ (i.zero, i.size) = (some (.agg (slC sl0).toArray), 11) := by
    have h := info46
    cases hq : Tryd.prog.info? 46 with
    | none => rw [hq] at h; cases h
    | some i => rw [hq] at h; exact ⟨i, rfl, Option.some.inj h⟩
  have hby : i.bytes ≤ 200 := by
    have h := bytes46
    rw [hi] at h
    simpa using h
  obtain ⟨v', w', hrun, h1, h2, _, h4⟩ := run_append_own_at (P := Tryd.prog) (w.alloc (.cells (slC l).toArray 46)) wS.heap.size 22 22 46 i _ 11 i.bytes Tryd.underlying22 hi (congrArg Prod.fst hz) (congrArg Prod.snd hz) rfl rfl (by decide) v ls.length (ls.flatMap slC) (h.row.alloc _) ⟨w.heap.size, 0, none⟩ 1 1 (slC l) rfl
    (fun j u hu => by
      have hq : (w.alloc (.cells (slC l).toArray 46)).cell? ⟨w.heap.size, j, none⟩ = some u := by
        simp only [World.cell?, heap_alloc_at]
        simpa using hu
      by_cases hj : j = 0
      · subst hj
        simpa [Addr.add] using hq
      · simpa [Addr.add, hj] using hq)
    (fun u hu => by simp [slC] at hu; rcases hu with rfl | rfl | rfl | rfl | rfl | rfl | rfl | rfl | rfl | rfl | rfl <;> rfl) (by unfold maxLen; omega)
    (by
      have : (ls.length + 1) * i.bytes ≤ 100000 * 200 := Nat.mul_le_mul (by omega) hby
      omega) (by simp; omega)
  have h1' : w'.ownsRow wS.heap.size 46 11 v' (ls ++ [l]).length ((ls ++ [l]).flatMap slC) := by
    rw [List.length_append, List.flatMap_append]
    simpa using h1
  refine ⟨v', w', hrun, ⟨?_, h1', ?_, ?_⟩⟩
  · obtain ⟨_, hq | ⟨g, c, cur, hq, _⟩⟩ := h1'
    · simp at hq
    · exact ⟨_, _, hq⟩
  · exact (h.bel.alloc hbs _).grown h2 (by simp; omega) (fun k hk => (h.row.lt k hk).1)
  · intro s hs
    rcases List.mem_append.1 hs with h' | h'
    · exact h.rng s h'
    · obtain rfl : s = l := by simpa using h'
      exact hr
theorem SR.slots {wS w : World} {a : Option Addr} {n cap : Nat} {ls : List Sl} (h : SR wS w (.slice a n cap) ls) : SlotsIn w a n ls ∧ n ≤ cap ∧ cap ≤ maxLen := by
  obtain ⟨a', cap', e⟩ := h.form
  cases e
  rcases h.row.2 with ⟨e, hn⟩ | ⟨g, cap, cur, e, hg, hgg, hn, hm, hsz, hcur⟩
  · simp only [Value.slice.injEq] at e
    obtain ⟨_, _, rfl⟩ := e
    exact ⟨⟨rfl, .inl hn⟩, by omega, by unfold maxLen; omega⟩
  · cases e
    refine ⟨⟨rfl, .inr ⟨g, 0, rfl, (h.row.lt g rfl).2, fun i s hi => ?_⟩⟩, hn, hm⟩
    have hil := (List.getElem?_eq_some_iff.1 hi).1
    have hs : ls[i] = s := (List.getElem?_eq_some_iff.1 hi).2
    have hc : ∀ j u, j < 11 → (slC s)[j]? = some u → w.cell? ⟨g, 0 + i * 11 + j, none⟩ = some u := by
      intro j u hj hu
      rw [← hs, ← flat11 ls i j hil hj, ← hcur, List.getElem?_take_of_lt (by
        have : (i + 1) * 11 ≤ ls.length * 11 := Nat.mul_le_mul_right _ hil
        omega)] at hu
      simp only [World.cell?, hgg, Nat.zero_add]
      simpa using hu
    have hr := h.rng s (List.mem_of_getElem? hi)
    exact ⟨hc 0 _ (by decide) rfl, hc 1 _ (by decide) rfl, hc 2 _ (by decide) rfl, hc 3 _ (by decide) rfl, hc 4 _ (by decide) rfl, hc 5 _ (by decide) rfl, hc 6 _ (by decide) rfl, hc 7 _ (by decide) rfl, hc 8 _ (by decide) rfl, hc 9 _ (by decide) rfl, hc 10 _ (by decide) rfl, hr.1, hr.2⟩
end Go.Proofs.YtbaagnfcdphddaaDoor
