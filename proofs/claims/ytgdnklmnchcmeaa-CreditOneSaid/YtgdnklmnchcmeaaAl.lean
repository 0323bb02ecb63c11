/-
  All who stand in a queue or run, core by core: plainly, and as a row that the law fills.
-/
import Derived.Test.YtgdnklmnchcmeaaVw
namespace Go.Proofs.Ytgdnklmnchcmeaa
open Go.RowKit Go.Maps
set_option linter.unusedVariables false
set_option maxRecDepth 100000
/-- a row of numbers that is the call's own -/
def LR (base : Nat) (w : World) (v : Value) (xs : List Int) : Prop := w.ownsRow base 3 1 v xs.length (nv xs)
section
variable {base : Nat} {w w' : World} {v : Value} {xs ys : List Int}
theorem LR.nil (base : Nat) (w : World) : LR base w (.slice none 0 0) [] := ⟨rfl, .inl ⟨rfl, rfl⟩⟩
theorem LR.push (h : LR base w v xs) (x : Int) (hl : xs.length ≤ 65536) (hB : base ≤ w.heap.size) :
    ∃ v' w', (Builtin.append_ #[57, 57] 57 #[v, .slice (some ⟨w.heap.size, 0, none⟩) 1 1]).run Try.prog (w.alloc (.cells #[.int .i64 x] 3)) = .ok v' w' ∧ LR base w' v' (xs ++ [x]) ∧ w.grownBy w' v.ownBlock := by
  obtain ⟨i, hi, hz, hs, hby⟩ := info3
  have hnew : ∀ j u, [Value.int .i64 x][j]? = some u → (w.alloc (.cells #[.int .i64 x] 3)).cell? ((⟨w.heap.size, 0, none⟩ : Addr).add j) = some u := fun j u hu => by
    rw [add_plain]
    simp only [World.cell?, heap_alloc_at, Nat.zero_add]
    simpa using hu
  have hone : ∀ u ∈ [Value.int .i64 x], u.oneCell' = true := fun u hu => by simp at hu; subst hu; rfl
  have ha : w.grownBy (w.alloc (.cells #[.int .i64 x] 3)) v.ownBlock := World.grownBy_alloc w _ _
  have h0 : (w.alloc (.cells #[.int .i64 x] 3)).ownsRow base 3 1 v xs.length (nv xs) := World.ownsRow.alloc h _
  obtain ⟨v', w', hrun, h1, h2, _, h4⟩ := run_append_own_at (P := Try.prog) (w.alloc (.cells #[.int .i64 x] 3)) base 57 57 3 i _ 1 i.bytes Try.underlying57 hi hz hs rfl rfl (by decide) v xs.length (nv xs) h0 ⟨w.heap.size, 0, none⟩ 1 1 [.int .i64 x] rfl hnew hone (by unfold maxLen; omega) (by rw [hby]; omega) (by simp; omega)
  refine ⟨v', w', hrun, ?_, ?_⟩
  · unfold LR
    simpa [nv] using h1
  · exact ⟨h2.os.trans ha.os, h2.tape.trans ha.tape, h2.output.trans ha.output, Nat.le_trans ha.size h2.size, fun k hk hr => (h2.block k (Nat.lt_of_lt_of_le hk ha.size) hr).trans (ha.block k hk hr)⟩
/-- a queue's copy behind it -/
theorem LR.append (h : LR base w v xs) {q : Value} (hq : Qs w q ys) (hl : xs.length ≤ 65536) (hl2 : ys.length ≤ 64) (hB : base ≤ w.heap.size) :
    ∃ v' w', (Builtin.append_ #[57, 57] 57 #[v, q]).run Try.prog w = .ok v' w' ∧ LR base w' v' (xs ++ ys) ∧ w.grownBy w' v.ownBlock := by
  obtain ⟨i, hi, hz, hs, hby⟩ := info3
  rcases hq with ⟨rfl, rfl⟩ | ⟨g, c, rfl, hr⟩
  · refine ⟨v, w, ?_, by rw [List.append_nil]; exact h, grown_refl _ _⟩
    obtain ⟨_, ⟨rfl, h0⟩ | ⟨g, c, cur, rfl, hb, hg, h1, h2, h3, h4⟩⟩ := h
    · simp [Builtin.append_, run_underlying Try.underlying57, sizeOf, typeInfo, hi, Builtin.lenOf, Builtin.firstCells]
    · simp [Builtin.append_, run_underlying Try.underlying57, sizeOf, typeInfo, hi, Builtin.lenOf, Builtin.firstCells, loadCells, storeCells, h1]
  · have hnew : ∀ j u, (nv ys)[j]? = some u → w.cell? ((⟨g, 0, none⟩ : Addr).add j) = some u := fun j u hu => by
      have hj : j < ys.length := by have := (List.getElem?_eq_some_iff.1 hu).1; simpa [nv] using this
      rw [add_plain, Nat.zero_add, hr.at_ hj, ← hu, nv_at hj]
    have hone : ∀ u ∈ nv ys, u.oneCell' = true := fun u hu => by
      obtain ⟨k, _, rfl⟩ := List.mem_map.1 hu
      rfl
    obtain ⟨v', w', hrun, h1, h2, _, h4⟩ := run_append_own_at (P := Try.prog) w base 57 57 3 i _ 1 i.bytes Try.underlying57 hi hz hs rfl rfl (by decide) v xs.length (nv xs) h ⟨g, 0, none⟩ ys.length c (nv ys) (by simp [nv]) hnew hone (by unfold maxLen; omega) (by rw [hby]; omega) hB
    refine ⟨v', w', hrun, ?_, h2⟩
    unfold LR
    simpa [nv] using h1
theorem LR.own (h : LR base w v xs) : ∀ k, v.ownBlock = some k → base ≤ k ∧ k < w.heap.size := fun k hk => by
  obtain ⟨_, ⟨rfl, h0⟩ | ⟨g, c, cur, rfl, hb, h2, _⟩⟩ := h
  · cases hk
  · simp [Value.ownBlock] at hk
    subst hk
    exact ⟨hb, lt_of_heap h2⟩
theorem LR.keep (h : LR base w v xs) (hk : ∀ k, v.ownBlock = some k → w'.heap[k]? = w.heap[k]?) : LR base w' v xs := by
  obtain ⟨h1, ⟨rfl, h0⟩ | ⟨g, c, cur, rfl, hb, h2, h3⟩⟩ := h
  · exact ⟨h1, .inl ⟨rfl, h0⟩⟩
  · exact ⟨h1, .inr ⟨g, c, cur, rfl, hb, (hk g rfl).trans h2, h3⟩⟩
theorem LR.below (h : LR base w v xs) (hk : Below w.heap.size w w') : LR base w' v xs := h.keep fun k hv => hk.block k (h.own k hv).2
theorem LR.qs (h : LR base w v xs) : Qs w v xs := (qs_of_row h).1
/-- what is below a row's base stays, as the row grows -/
theorem LR.grow (h : LR base w v xs) {W : World} (hb : Below W.heap.size W w) (hW : W.heap.size ≤ base) (hg : w.grownBy w' v.ownBlock) : Below W.heap.size W w' :=
  hb.trans ⟨hg.os, hg.tape, hg.output, hg.size, fun k hk => hg.block k (Nat.lt_of_lt_of_le hk hb.size) fun e => by have := (h.own k e.symm).1; omega⟩
end
/-- who stands in a core's queue, and who runs there -/
def onC (S : St) (c : Nat) : List Int := S.Q c ++ if tkB S.L c then [riI S.L c] else []
def allC (S : St) (j : Nat) : List Int := flat (onC S) j
section
variable {n : Nat} {per : Int} {S : St}
theorem onC_mem (h : SOk n per S) {c : Nat} (hc : c < n) {k : Int} (hk : k ∈ onC S c) : ∃ x ∈ S.L, x.id = k ∧ x.co = c := by
  rcases List.mem_append.1 hk with hk | hk
  · obtain ⟨x, h1, h2, _, h3⟩ := (h.q1 c hc k).1 hk
    exact ⟨x, h1, h2, h3⟩
  · unfold tkB riI at hk
    cases hr : rn S.L c with
    | none => rw [hr] at hk; simp at hk
    | some x =>
      rw [hr] at hk
      simp at hk
      obtain ⟨h1, h2, h3⟩ := rn_mem hr
      exact ⟨x, h1, hk.symm, h3⟩
theorem onC_nd (h : SOk n per S) {c : Nat} (hc : c < n) : (onC S c).Nodup := by
  unfold onC tkB riI
  cases hr : rn S.L c with
  | none => simpa using h.qn c hc
  | some x =>
    obtain ⟨h1, h2, h3⟩ := rn_mem hr
    simp only [Option.isSome_some, if_true]
    refine List.nodup_append.2 ⟨h.qn c hc, by simp, fun a ha b hb => ?_⟩
    simp at hb
    subst hb
    rintro rfl
    obtain ⟨y, e1, e2, e3, _⟩ := (h.q1 c hc x.id).1 ha
    rw [nd_inj h.nd e1 h1 e2, h2] at e3
    exact absurd e3 (by decide)
theorem allC_nd (h : SOk n per S) : ∀ {j : Nat}, j ≤ n → (allC S j).Nodup
  | 0, _ => by simp [allC, flat]
  | j + 1, hj => by
    show (flat (onC S) j ++ onC S j).Nodup
    refine List.nodup_append.2 ⟨allC_nd h (j := j) (by omega), onC_nd h (by omega), fun a ha b hb => ?_⟩
    rintro rfl
    obtain ⟨i, hi, hk⟩ := flat_mem ha
    obtain ⟨x, h1, h2, h3⟩ := onC_mem h (by omega) hk
    obtain ⟨y, e1, e2, e3⟩ := onC_mem h (by omega) hb
    rw [nd_inj h.nd h1 e1 (h2.trans e2.symm)] at h3
    omega
theorem allC_len (h : SOk n per S) : ∀ {j : Nat}, j ≤ n → (allC S j).length ≤ 65 * j
  | 0, _ => by simp [allC, flat]
  | j + 1, hj => by
    have h1 := allC_len h (j := j) (by omega)
    have h2 := h.qlen (c := j) (by omega)
    show (flat (onC S) j ++ onC S j).length ≤ _
    unfold allC at h1
    have : (onC S j).length ≤ 65 := by
      unfold onC
      split <;> simp <;> omega
    simp
    omega
end
end Go.Proofs.Ytgdnklmnchcmeaa
