/-
  The document's Begin.
-/
import Derived.Test.YtgiafngiledmbaaRf
namespace Go.Proofs.Ytgiafngiledmbaa
open Go.RowKit Go.Maps
set_option linter.unusedVariables false
set_option maxRecDepth 100000
theorem append_none (a : Addr) (n c : Nat) (hn : n ≤ c) (w : World) : (Builtin.append_ #[26, 26] 26 #[.slice (some a) n c, .slice none 0 0]).run Try.prog w = .ok (.slice (some a) n c) w := by
  obtain ⟨inf, hinf, hz, hs, hby⟩ := info_parts63
  simp [Builtin.append_, go_sem]
  intro h
  omega
theorem step_app {P : Program} {w : World} {ops : Array Oper} {rest : List Oper} {o : Oper} {a : Act} {Q : Exit → Act → World → Prop} (hgd : o.guard = none) (s x : Operand) (t : TypeId)
    (ho : o.op = .call { callee := .builtin .append, args := #[s, x], argTypes := #[t, t] }) (vs vx v' : Value) (w' : World) (hs : a.eval s = vs) (hx : a.eval x = vx)
    (hrun : (Builtin.append_ #[t, t] o.type #[vs, vx]).run P w = .ok v' w') (h : wpList P ops Q rest (a.put o.dst v') w') : wpList P ops Q (o :: rest) a w := by
  refine wpList_plain hgd fun K hK => ?_
  unfold Oper.wp
  simp [execOp, ho, resolve, invoke, builtin, hs, hx, hrun, Result.andThen]
  exact hK _ _ h
theorem ins_at {x : Tm} : ∀ {L : List Tm} (p : Nat), (∀ i y, i < p → L[i]? = some y → y.id < x.id) → p ≤ L.length → (∀ y, L[p]? = some y → ¬ y.id < x.id) → ins x L = L.take p ++ x :: L.drop p
  | [], 0, _, _, _ => rfl
  | [], p + 1, _, h, _ => by simp at h
  | y :: r, 0, _, _, h3 => by
    have := h3 y rfl
    unfold ins
    rw [if_neg this]
    rfl
  | y :: r, p + 1, h1, h2, h3 => by
    unfold ins
    rw [if_pos (h1 0 y (by omega) rfl), ins_at p (fun i z hi hz => h1 (i + 1) z (by omega) (by simpa using hz)) (by simpa using h2) (fun z hz => h3 z (by simpa using hz))]
    rfl
section
variable {w : World} {r : Nat} {v : Value} {L : List Tm} {x : Tm}
/-- the three appends of Begin -/
theorem begin_runs (h : DX w r v L) (p : Nat) (hp : p ≤ L.length) (ok : LOk (L.take p ++ x :: L.drop p)) (s1 s3 : Value)
    (hs : (v = .slice none 0 0 ∧ L = [] ∧ s1 = .slice none 0 0 ∧ s3 = .slice none 0 0) ∨ ∃ g c, v = .slice (some ⟨g, 0, none⟩) L.length c ∧ s1 = .slice (some ⟨g, 0, none⟩) p c ∧ s3 = .slice (some (if c = p then ⟨g, 0, none⟩ else ⟨g, p * 6, none⟩)) (L.length - p) (c - p)) :
    ∃ v1 w1 v2 w2 v3 w3, (Builtin.append_ #[26, 26] 26 #[.slice (some ⟨w.heap.size, 0, none⟩) 0 0, s1]).run Try.prog (w.alloc (.cells #[] 63)) = .ok v1 w1 ∧
      (Builtin.append_ #[26, 26] 26 #[v1, .slice (some ⟨w1.heap.size, 0, none⟩) 1 1]).run Try.prog (w1.alloc (.cells (ic x).toArray 63)) = .ok v2 w2 ∧
      (Builtin.append_ #[26, 26] 26 #[v2, s3]).run Try.prog w2 = .ok v3 w3 ∧
      w1.heap[r]? = w.heap[r]? ∧ w2.heap[r]? = w.heap[r]? ∧ w3.heap[r]? = w.heap[r]? ∧ DX (w3.setCell ⟨r, 0, none⟩ v3) r v3 (L.take p ++ x :: L.drop p) ∧ Trn (Sr r v) w (w3.setCell ⟨r, 0, none⟩ v3) ∧ ∀ k, v3.ownBlock = some k → w.heap.size ≤ k := by
  have h64 := h.ok.len
  have h0 : (w.alloc (.cells #[] 63)).ownsRow w.heap.size 63 6 (.slice (some ⟨w.heap.size, 0, none⟩) 0 0) ([] : List Tm).length (([] : List Tm).flatMap ic) :=
    ⟨rfl, .inr ⟨w.heap.size, 0, #[], rfl, Nat.le_refl _, heap_alloc_at w _, by simp, by unfold maxLen; omega, rfl, rfl⟩⟩
  have hk0 : ∀ j, j < w.heap.size → (w.alloc (.cells #[] 63)).heap[j]? = w.heap[j]? := fun j hj => heap_alloc_past w _ hj
  -- the first
  have S1 : ∃ v1 w1, (Builtin.append_ #[26, 26] 26 #[.slice (some ⟨w.heap.size, 0, none⟩) 0 0, s1]).run Try.prog (w.alloc (.cells #[] 63)) = .ok v1 w1 ∧ w1.ownsRow w.heap.size 63 6 v1 (L.take p).length ((L.take p).flatMap ic) ∧ (w.alloc (.cells #[] 63)).grownBy w1 (some w.heap.size) := by
    rcases hs with ⟨_, rfl, rfl, _⟩ | ⟨g, c, rfl, rfl, _⟩
    · exact ⟨_, _, append_none _ 0 0 (by omega) _, by simpa using h0, grown_refl _ _⟩
    · obtain ⟨g', c', e, hrow⟩ : ∃ g' c', (Value.slice (some ⟨g, 0, none⟩) L.length c) = .slice (some ⟨g', 0, none⟩) L.length c' ∧ Row w g' c' L := by
        rcases h.its with ⟨e, _⟩ | h'
        · cases e
        · exact h'
      cases e
      obtain ⟨v1, w1, r1, o1, g1⟩ := append_part h0 hrow (hk0 g hrow.lt) 0 p c (by omega) (by simp) (by omega) (by simp) ⟨g, 0, none⟩ (.inr (by simp))
      have ht : (([] : List Tm) ++ (L.drop 0).take p) = L.take p := by simp
      rw [ht] at o1
      exact ⟨v1, w1, r1, o1, g1⟩
  obtain ⟨v1, w1, r1, o1, g1⟩ := S1
  have hs1 : w.heap.size + 1 ≤ w1.heap.size := by have := g1.size; simp at this; omega
  have old1 : ∀ j, j < w.heap.size → w1.heap[j]? = w.heap[j]? := fun j hj => (g1.block j (by simp; omega) (fun e => by simp at e; omega)).trans (hk0 j hj)
  have hlt : (L.take p).length = p := by simp; omega
  -- the second
  have S2 : ∃ v2 w2, (Builtin.append_ #[26, 26] 26 #[v1, .slice (some ⟨w1.heap.size, 0, none⟩) 1 1]).run Try.prog (w1.alloc (.cells (ic x).toArray 63)) = .ok v2 w2 ∧ w2.ownsRow w.heap.size 63 6 v2 (L.take p ++ [x]).length ((L.take p ++ [x]).flatMap ic) ∧ (w1.alloc (.cells (ic x).toArray 63)).grownBy w2 v1.ownBlock := by
    have hrow : Row (w1.alloc (.cells (ic x).toArray 63)) w1.heap.size 1 [x] := by
      refine ⟨(ic x).toArray, heap_alloc_at _ _, rfl, by simp, by unfold maxLen; omega, fun i hi j hj => ?_⟩
      have hi' : i < 1 := by simpa using hi
      obtain rfl : i = 0 := by omega
      simp
    have o1' : (w1.alloc (.cells (ic x).toArray 63)).ownsRow w.heap.size 63 6 v1 (L.take p).length ((L.take p).flatMap ic) := World.ownsRow.alloc o1 _
    obtain ⟨v2, w2, r2, o2, g2⟩ := append_part o1' hrow rfl 0 1 1 (by simp) (by omega) (by simp) (by simp; omega) ⟨w1.heap.size, 0, none⟩ (.inr (by simp))
    exact ⟨v2, w2, r2, by simpa using o2, g2⟩
  obtain ⟨v2, w2, r2, o2, g2⟩ := S2
  have own1 := (its_of_row o1).2
  have hs2 : w1.heap.size + 1 ≤ w2.heap.size := by have := g2.size; simp at this; omega
  have old2 : ∀ j, j < w.heap.size → w2.heap[j]? = w.heap[j]? := fun j hj => (g2.block j (by simp; omega) (fun e => by have := own1 j e.symm; omega)).trans ((heap_alloc_past _ _ (by omega)).trans (old1 j hj))
  have own2 := (its_of_row o2).2
  -- the third
  have S3 : ∃ v3 w3, (Builtin.append_ #[26, 26] 26 #[v2, s3]).run Try.prog w2 = .ok v3 w3 ∧ w3.ownsRow w.heap.size 63 6 v3 (L.take p ++ x :: L.drop p).length ((L.take p ++ x :: L.drop p).flatMap ic) ∧ w2.grownBy w3 v2.ownBlock := by
    rcases hs with ⟨_, rfl, _, rfl⟩ | ⟨g, c, rfl, _, rfl⟩
    · obtain ⟨_, ⟨e, h0⟩ | ⟨g2', c2, cur, e, hB, q1, q2, q3⟩⟩ := id o2
      · simp at h0
      · rw [e]
        exact ⟨_, _, append_none _ _ _ q2 _, by rw [← e]; simpa using o2, by rw [← e]; exact ⟨rfl, rfl, rfl, Nat.le_refl _, fun _ _ _ => rfl⟩⟩
    · obtain ⟨g', c', e, hrow⟩ : ∃ g' c', (Value.slice (some ⟨g, 0, none⟩) L.length c) = .slice (some ⟨g', 0, none⟩) L.length c' ∧ Row w g' c' L := by
        rcases h.its with ⟨e, _⟩ | h'
        · cases e
        · exact h'
      cases e
      have hcap := hrow.cap
      obtain ⟨v3, w3, r3, o3, g3⟩ := append_part o2 hrow (old2 g hrow.lt) p (L.length - p) (c - p) (by omega) (by simp; omega) (by omega) (by omega) (if c = p then ⟨g, 0, none⟩ else ⟨g, p * 6, none⟩) (by
        by_cases hc : c = p
        · exact .inl (by omega)
        · rw [if_neg hc]; exact .inr rfl)
      have ht : L.take p ++ [x] ++ (L.drop p).take (L.length - p) = L.take p ++ x :: L.drop p := by
        rw [List.take_of_length_le (l := L.drop p) (by simp)]; simp
      rw [ht] at o3
      exact ⟨v3, w3, r3, o3, g3⟩
  obtain ⟨v3, w3, r3, o3, g3⟩ := S3
  have old3 : ∀ j, j < w.heap.size → w3.heap[j]? = w.heap[j]? := fun j hj => (g3.block j (by omega) (fun e => by have := own2 j e.symm; omega)).trans (old2 j hj)
  obtain ⟨hI, hB⟩ := its_of_row o3
  have P := h.fresh old3 (by have := g3.size; omega) ⟨g3.os.trans (g2.os.trans g1.os), g3.tape.trans (g2.tape.trans g1.tape), g3.output.trans (g2.output.trans g1.output)⟩ hI hB ok
  exact ⟨v1, w1, v2, w2, v3, w3, r1, r2, r3, old1 r h.lt, old2 r h.lt, old3 r h.lt, P.1, P.2, hB⟩
end
end Go.Proofs.Ytgiafngiledmbaa
