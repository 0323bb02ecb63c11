/-
  What the document builds of a text, in plain terms, is what the program builds of it.
  Line by line, and in the whole, the document builds what the program builds.
-/
import Derived.Test.YtopankjjlapfbaaGreatDoorRfV
import Derived.Test.YtopankjjlapfbaaGreatDoorAsmW
namespace Go.Proofs.YtopankjjlapfbaaGreatDoor
open Go.RowKit
set_option linter.unusedVariables false
set_option maxRecDepth 100000

def sumW : List Ln → Int
  | [] => 0
  | l :: r => l.words + sumW r
/-- a mark's place among the lines -/
def findM (ls : List Ln) (m : ByteArray) : Option Int := if findP ls m 0 < 0 then none else some (findP ls m 0)
def dimm (ls : List Ln) (out : List Int) (l : Ln) : Option Int := if l.want = ⟨#[]⟩ then some l.imm else (findM ls l.want).map fun a => a - (out.length : Int)
def dstep (ls : List Ln) (out : List Int) (l : Ln) : Option (List Int) :=
  if l.is_ = true then (match dimm ls out l with
    | some i => if validP l.op l.rd l.rs1 l.rs2 i = true then some (out ++ [wordP l.op l.rd l.rs1 l.rs2 i]) else none
    | none => none)
  else some (out ++ List.replicate l.words.toNat l.value)
def dwords (ls : List Ln) : List Int → List Ln → Except Int (List Int)
  | out, [] => .ok out
  | out, l :: r => match dstep ls out l with
    | some out' => dwords ls out' r
    | none => .error l.at_
def dbuildO (text : ByteArray) (base : Int) : Bld :=
  if ¬ base % 4 = 0 ∨ 1099511627776 < base then .errno 2
  else if 65536 < text.size then .errno 3
  else match dlinesP (linesL text) [] with
    | .inr n => .fault n
    | .inl ls => if 16384 < sumW ls then .errno 3 else match dwords ls [] ls with
      | .error n => .fault n
      | .ok out => .ok out (findM ls)

theorem sumW_append : ∀ (a b : List Ln), sumW (a ++ b) = sumW a + sumW b
  | [], b => by simp [sumW]
  | l :: a, b => by
    simp only [List.cons_append, sumW]
    rw [sumW_append a b]
    omega
theorem findP_none : ∀ (a : List Ln) (m : ByteArray) (p : Int), (m = ⟨#[]⟩ ∨ ∀ x ∈ a, x.mark ≠ m) → findP a m p = -1
  | [], m, p, h => rfl
  | l :: a, m, p, h => by
    unfold findP
    rw [if_neg (fun e => by
      rcases h with h | h
      · exact e.2 h
      · exact h l (by simp) e.1)]
    exact findP_none a m _ (h.imp id fun h x hx => h x (by simp [hx]))
theorem findP_some : ∀ (a : List Ln) (m : ByteArray) (p : Int), (∀ x ∈ a, 0 ≤ x.words) → m ≠ ⟨#[]⟩ → (∃ x ∈ a, x.mark = m) → p ≤ findP a m p
  | [], m, p, hw, hm, h => by obtain ⟨x, hx, _⟩ := h; cases hx
  | l :: a, m, p, hw, hm, h => by
    unfold findP
    by_cases e : l.mark = m
    · rw [if_pos ⟨e, hm⟩]
      exact Int.le_refl _
    · rw [if_neg (fun q => e q.1)]
      have h1 := hw l (by simp)
      have := findP_some a m (p + l.words) (fun x hx => hw x (by simp [hx])) hm (by
        obtain ⟨x, hx, hxm⟩ := h
        rcases List.mem_cons.1 hx with rfl | hx
        · exact absurd hxm e
        · exact ⟨x, hx, hxm⟩)
      omega
theorem findP_cons (l : Ln) (r : List Ln) (n : ByteArray) (p : Int) : findP (l :: r) n p = if l.mark = n ∧ n ≠ ⟨#[]⟩ then p else findP r n (p + l.words) := rfl
theorem findP_append : ∀ (a b : List Ln) (m : ByteArray) (p : Int), findP (a ++ b) m p = if m ≠ ⟨#[]⟩ ∧ ∃ x ∈ a, x.mark = m then findP a m p else findP b m (p + sumW a)
  | [], b, m, p => by simp [sumW]
  | l :: a, b, m, p => by
    show findP (l :: (a ++ b)) m p = _
    rw [findP_cons, findP_cons]
    by_cases e : l.mark = m ∧ m ≠ ⟨#[]⟩
    · rw [if_pos e, if_pos e, if_pos ⟨e.2, l, by simp, e.1⟩]
    · rw [if_neg e, if_neg e, findP_append a b m]
      by_cases h : m ≠ ⟨#[]⟩ ∧ ∃ x ∈ a, x.mark = m
      · rw [if_pos h, if_pos ⟨h.1, by obtain ⟨x, hx, hm⟩ := h.2; exact ⟨x, by simp [hx], hm⟩⟩]
      · rw [if_neg h, if_neg (fun q => h ⟨q.1, by
          obtain ⟨x, hx, hm⟩ := q.2
          rcases List.mem_cons.1 hx with rfl | hx
          · exact absurd ⟨hm, q.1⟩ e
          · exact ⟨x, hx, hm⟩⟩)]
        simp only [sumW]
        rw [show p + l.words + sumW a = p + (l.words + sumW a) by omega]

theorem okL_iff (acc : List Ln) (m : ByteArray) : okL acc m = true ↔ (m = ⟨#[]⟩ ∨ ∀ x ∈ acc, x.mark ≠ m) := by
  unfold okL
  simp
theorem okL_find (acc : List Ln) (hw : ∀ x ∈ acc, 0 ≤ x.words) (m : ByteArray) : okL acc m = (findM acc m).isNone := by
  unfold findM
  cases h : okL acc m
  · have h1 : ¬ (m = ⟨#[]⟩ ∨ ∀ x ∈ acc, x.mark ≠ m) := fun q => by rw [(okL_iff acc m).2 q] at h; cases h
    have h2 : m ≠ ⟨#[]⟩ := fun e => h1 (Or.inl e)
    have h3 : ∃ x ∈ acc, x.mark = m := Classical.byContradiction fun q => h1 (Or.inr fun x hx e => q ⟨x, hx, e⟩)
    have := findP_some acc m 0 hw h2 h3
    rw [if_neg (by omega)]
    rfl
  · rw [findP_none acc m 0 ((okL_iff acc m).1 h)]
    rfl

/-- which statements the lines are -/
inductive SR : List Ln → List St → Prop
  | nil : SR [] []
  | skip (l : Ln) (ls : List Ln) (sts : List St) (h : l.is_ = false ∧ l.words = 0) (r : SR ls sts) : SR (l :: ls) sts
  | put (l : Ln) (ls : List Ln) (s : St) (sts : List St) (m : ByteArray) (h : l = { lnOf m s with at_ := s.line }) (r : SR ls sts) : SR (l :: ls) (s :: sts)
theorem SR.append {ls ls' : List Ln} {sts sts' : List St} (h : SR ls sts) (h' : SR ls' sts') : SR (ls ++ ls') (sts ++ sts') := by
  induction h with
  | nil => exact h'
  | skip l ls sts h r ih => exact SR.skip l _ _ h ih
  | put l ls s sts m h r ih => exact SR.put l _ s _ m h ih

theorem words_tie (M : ByteArray → Option Int) (L : List Ln) (hM : ∀ m, M m = findM L m) {ls : List Ln} {sts : List St} (h : SR ls sts) : ∀ out, dwords L out ls = wordsP M out sts := by
  induction h with
  | nil => intro out; rfl
  | skip l ls sts h r ih =>
    intro out
    have e : dstep L out l = some out := by
      unfold dstep
      rw [h.1, h.2]
      simp
    unfold dwords
    rw [e]
    exact ih out
  | put l ls s sts m h r ih =>
    intro out
    have e : dstep L out l = stepW M out s := by
      subst h
      unfold dstep stepW lnOf
      by_cases h0 : s.op = 0
      · simp [h0]
      · simp [h0, lnS, dimm, immO, hM]
        generalize (if s.target = ⟨#[]⟩ then some s.imm else Option.map (fun a => a - (out.length : Int)) (findM L s.target)) = o
        cases o <;> rfl
    unfold dwords wordsP
    rw [e]
    cases stepW M out s with
    | none => simp [h]
    | some o => exact ih o

/-- the program while its lines are read, and the document's lines -/
structure TR (S : PSt) (acc : List Ln) : Prop where
  len : S.len = sumW acc
  M : ∀ m, S.M m = findM acc m
  sts : SR acc S.sts
  w0 : ∀ x ∈ acc, 0 ≤ x.words ∧ x.words ≤ 4096

/-- one line of the document -/
def dline (acc : List Ln) (ws : List ByteArray) : Option Ln :=
  match lnO ws with
  | none => none
  | some l => if okL acc l.mark = true then some { l with at_ := acc.length } else none
theorem dlines_cons (s : ByteArray) (r : List ByteArray) (acc : List Ln) : dlinesP (s :: r) acc = match dline acc (wordsL s) with
    | none => .inr acc.length
    | some l => dlinesP r (acc ++ [l]) := by
  conv => lhs; unfold dlinesP
  unfold dline
  cases lnO (wordsL s) with
  | none => rfl
  | some l =>
    show (if okL acc l.mark = true then _ else _) = _
    by_cases h : okL acc l.mark = true
    · simp [h]
    · simp [h]

theorem name_ne (m : ByteArray) (h : nameB m = true) : m ≠ ⟨#[]⟩ := fun e => by
  subst e
  unfold nameB at h
  simp only [Bool.and_eq_true] at h
  exact absurd h.1.1.1.1 (by decide)
theorem stmtO_words (h : ByteArray) (os : List ByteArray) (s : St) (hs : stmtO (opM 48) h os = some s) : s.op ≠ 0 → s.count = 1 := by
  intro h0
  unfold stmtO at hs
  split at hs
  · obtain ⟨v, _, rfl⟩ := Option.map_eq_some_iff.1 hs
    exact absurd rfl h0
  · split at hs
    · obtain ⟨v, hv, rfl⟩ := Option.map_eq_some_iff.1 hs
      exact absurd rfl h0
    · split at hs
      · unfold instrO at hs
        split at hs
        · rw [opdsO_count _ _ _ _ hs]
        · cases hs
      · cases hs
theorem lnOf_words (m h : ByteArray) (os : List ByteArray) (s : St) (hs : stmtO (opM 48) h os = some s) : (lnOf m s).words = s.count ∧ (lnOf m s).mark = m := by
  unfold lnOf
  by_cases h0 : s.op = 0
  · simp [h0]
  · simp [h0, lnS, stmtO_words h os s hs h0]

/-- a line behind the others -/
theorem TR.push {S : PSt} {acc : List Ln} (h : TR S acc) (l : Ln) (xs : List St) (M' : ByteArray → Option Int) (hw : 0 ≤ l.words ∧ l.words ≤ 4096) (hx : SR [l] xs)
    (hM : (l.mark = ⟨#[]⟩ ∧ M' = S.M) ∨ (l.mark ≠ ⟨#[]⟩ ∧ S.M l.mark = none ∧ M' = putM S.M l.mark S.len)) : TR ⟨M', S.sts ++ xs, S.len + l.words⟩ (acc ++ [l]) := by
  refine ⟨?_, ?_, h.sts.append hx, fun x hx => ?_⟩
  · show S.len + l.words = _
    rw [sumW_append, h.len]
    simp [sumW]
  · intro m
    show M' m = _
    rcases hM with ⟨h1, rfl⟩ | ⟨h1, h2, rfl⟩
    · rw [h.M]
      unfold findM
      rw [findP_append]
      by_cases hq : m ≠ ⟨#[]⟩ ∧ ∃ x ∈ acc, x.mark = m
      · simp only [if_pos hq]
      · simp only [if_neg hq]
        have e1 : findP acc m 0 = -1 := findP_none acc m 0 (by
          by_cases hm : m = ⟨#[]⟩
          · exact Or.inl hm
          · exact Or.inr fun x hx e => hq ⟨hm, x, hx, e⟩)
        have e2 : findP [l] m (0 + sumW acc) = -1 := findP_none [l] m _ (by
          by_cases hm : m = ⟨#[]⟩
          · exact Or.inl hm
          · exact Or.inr fun x hx e => by
              simp at hx
              subst hx
              exact hm (e.symm.trans h1))
        rw [e1, e2]
    · unfold putM
      by_cases e : m = l.mark
      · subst e
        rw [if_pos rfl]
        unfold findM
        have hok : okL acc l.mark = true := by rw [okL_find acc (fun x hx => (h.w0 x hx).1), ← h.M, h2]; rfl
        have hno : ¬ (l.mark ≠ ⟨#[]⟩ ∧ ∃ x ∈ acc, x.mark = l.mark) := fun q => by
          rcases (okL_iff _ _).1 hok with h3 | h3
          · exact q.1 h3
          · obtain ⟨x, hx, e⟩ := q.2
            exact h3 x hx e
        have e3 : findP [l] l.mark (0 + sumW acc) = sumW acc := by
          unfold findP
          rw [if_pos ⟨rfl, h1⟩]
          omega
        rw [findP_append, if_neg hno, e3]
        have hs0 : 0 ≤ sumW acc := by
          have hw0 := h.w0
          clear h hok hno h2 e3
          induction acc with
          | nil => simp [sumW]
          | cons a r ih =>
            have := hw0 a (by simp)
            have := ih (fun x hx => hw0 x (by simp [hx]))
            simp only [sumW]
            omega
        rw [if_neg (by omega), h.len]
      · rw [if_neg e, h.M]
        unfold findM
        rw [findP_append]
        by_cases hq : m ≠ ⟨#[]⟩ ∧ ∃ x ∈ acc, x.mark = m
        · simp only [if_pos hq]
        · simp only [if_neg hq]
          have e1 : findP acc m 0 = -1 := findP_none acc m 0 (by
            by_cases hm : m = ⟨#[]⟩
            · exact Or.inl hm
            · exact Or.inr fun x hx e => hq ⟨hm, x, hx, e⟩)
          have e2 : findP [l] m (0 + sumW acc) = -1 := findP_none [l] m _ (Or.inr fun x hx e' => by
            simp at hx
            subst hx
            exact e e'.symm)
          rw [e1, e2]
  · rcases List.mem_append.1 hx with hx | hx
    · exact h.w0 x hx
    · simp at hx
      subst hx
      exact hw
end Go.Proofs.YtopankjjlapfbaaGreatDoor
namespace Go.Proofs.YtopankjjlapfbaaGreatDoor
open Go.RowKit
set_option linter.unusedVariables false
set_option maxRecDepth 100000

theorem stm_step {S : PSt} {acc : List Ln} (h : TR S acc) (m : ByteArray) (M' : ByteArray → Option Int) (r : List ByteArray)
    (hM : (m = ⟨#[]⟩ ∧ M' = S.M) ∨ (m ≠ ⟨#[]⟩ ∧ S.M m = none ∧ M' = putM S.M m S.len)) :
    (stmtP (opM 48) acc.length ⟨M', S.sts, S.len⟩ r = none ∧ stL m r = none) ∨
    ∃ T l, stmtP (opM 48) acc.length ⟨M', S.sts, S.len⟩ r = some T ∧ stL m r = some l ∧ l.mark = m ∧ TR T (acc ++ [{ l with at_ := (acc.length : Int) }]) := by
  cases r with
  | nil =>
    refine Or.inr ⟨⟨M', S.sts, S.len⟩, { ln0 with mark := m }, rfl, rfl, rfl, ?_⟩
    have := h.push { ln0 with mark := m, at_ := (acc.length : Int) } [] M' ⟨by show (0 : Int) ≤ 0; decide, by show (0 : Int) ≤ 4096; decide⟩ (SR.skip _ _ _ ⟨rfl, rfl⟩ SR.nil) hM
    simpa [ln0] using this
  | cons hd os =>
    cases hs : stmtO (opM 48) hd os with
    | none => exact Or.inl ⟨by simp [stmtP, hs], by simp [stL, hs]⟩
    | some s =>
      obtain ⟨hw, hmk⟩ := lnOf_words m hd os s hs
      have hc := stmtO_count _ hd os s hs
      refine Or.inr ⟨⟨M', S.sts ++ [{ s with line := (acc.length : Int) }], S.len + s.count⟩, lnOf m s, by simp [stmtP, hs], by simp [stL, hs], hmk, ?_⟩
      have he : ({ lnOf m s with at_ := (acc.length : Int) } : Ln) = { lnOf m { s with line := (acc.length : Int) } with at_ := (acc.length : Int) } := by
        unfold lnOf lnS
        by_cases h0 : s.op = 0
        · simp [h0]
        · simp [h0]
      have := h.push { lnOf m s with at_ := (acc.length : Int) } [{ s with line := (acc.length : Int) }] M' ⟨by show 0 ≤ (lnOf m s).words; rw [hw]; exact hc.1, by show (lnOf m s).words ≤ 4096; rw [hw]; exact hc.2⟩ (SR.put _ _ _ _ m he SR.nil) (by
        show ((lnOf m s).mark = ⟨#[]⟩ ∧ _) ∨ ((lnOf m s).mark ≠ ⟨#[]⟩ ∧ S.M (lnOf m s).mark = none ∧ M' = putM S.M (lnOf m s).mark S.len)
        rw [hmk]
        exact hM)
      have e2 : ({ lnOf m s with at_ := (acc.length : Int) } : Ln).words = s.count := hw
      rw [e2] at this
      exact this

theorem TR.step {S : PSt} {acc : List Ln} (h : TR S acc) (ws : List ByteArray) :
    (readP (opM 48) acc.length S ws = none ∧ dline acc ws = none) ∨ ∃ T l, readP (opM 48) acc.length S ws = some T ∧ dline acc ws = some l ∧ TR T (acc ++ [l]) := by
  have plain : ∀ r, markP S r = some (S, r) → lnO r = stL ⟨#[]⟩ r → (readP (opM 48) acc.length S r = none ∧ dline acc r = none) ∨ ∃ T l, readP (opM 48) acc.length S r = some T ∧ dline acc r = some l ∧ TR T (acc ++ [l]) := by
    intro r hm hl
    rcases stm_step h ⟨#[]⟩ S.M r (Or.inl ⟨rfl, rfl⟩) with ⟨h1, h2⟩ | ⟨T, l, h1, h2, h3, h4⟩
    · refine Or.inl ⟨?_, ?_⟩
      · unfold readP
        rw [hm]
        exact h1
      · unfold dline
        rw [hl, h2]
    · refine Or.inr ⟨T, _, ?_, ?_, h4⟩
      · unfold readP
        rw [hm]
        exact h1
      · unfold dline
        rw [hl, h2]
        simp only
        rw [h3, okL_empty]
        rfl
  cases ws with
  | nil => exact plain [] rfl rfl
  | cons hd r =>
    by_cases hc : Lib.hasSuffix hd.data.toList [58] = true
    · have hlo : lnO (hd :: r) = if nameB (markN hd) = true then stL (markN hd) r else none := by simp [lnO, hc]
      have hmo : markP S (hd :: r) = if ((S.M (markN hd)).isNone && nameB (markN hd)) = true then some ({ S with M := putM S.M (markN hd) S.len }, r) else none := by simp [markP, hc]
      generalize markN hd = m at *
      have hok := okL_find acc (fun x hx => (h.w0 x hx).1) m
      rw [← h.M] at hok
      by_cases hn : nameB m = true
      · have hne := name_ne m hn
        by_cases hq : (S.M m).isNone = true
        · have hqn : S.M m = none := by simpa using hq
          rcases stm_step h m (putM S.M m S.len) r (Or.inr ⟨hne, hqn, rfl⟩) with ⟨h1, h2⟩ | ⟨T, l, h1, h2, h3, h4⟩
          · refine Or.inl ⟨?_, ?_⟩
            · unfold readP
              rw [hmo, hq, hn]
              exact h1
            · unfold dline
              rw [hlo, hn, h2]
              rfl
          · refine Or.inr ⟨T, _, ?_, ?_, h4⟩
            · unfold readP
              rw [hmo, hq, hn]
              exact h1
            · unfold dline
              rw [hlo, hn, h2]
              simp only [if_true]
              rw [h3, hok, hq]
              rfl
        · have hqf : (S.M m).isNone = false := by cases hz : (S.M m).isNone with | false => rfl | true => exact absurd hz hq
          refine Or.inl ⟨?_, ?_⟩
          · unfold readP
            rw [hmo, hqf]
            rfl
          · unfold dline
            rw [hlo, hn]
            simp only [if_true]
            cases hst : stL m r with
            | none => rfl
            | some l =>
              have hlm : l.mark = m := by
                cases r with
                | nil => simp [stL] at hst; rw [← hst]
                | cons a os =>
                  simp only [stL] at hst
                  obtain ⟨s, hs, rfl⟩ := Option.map_eq_some_iff.1 hst
                  exact (lnOf_words m a os s hs).2
              simp only
              rw [hlm, hok, hqf]
              rfl
      · have hnf : nameB m = false := by simpa using hn
        refine Or.inl ⟨?_, ?_⟩
        · unfold readP
          rw [hmo, hnf, Bool.and_false]
          rfl
        · unfold dline
          rw [hlo, hnf]
          rfl
    · exact plain (hd :: r) (by simp [markP, hc]) (by simp [lnO, hc])

theorem lines_tie : ∀ (ls : List ByteArray) (S : PSt) (acc : List Ln), TR S acc →
    (∃ n : Nat, readsP (opM 48) acc.length S ls = .error n ∧ dlinesP ls acc = .inr n) ∨ ∃ T acc', readsP (opM 48) acc.length S ls = .ok T ∧ dlinesP ls acc = .inl acc' ∧ TR T acc' ∧ acc'.length = acc.length + ls.length
  | [], S, acc, h => Or.inr ⟨S, acc, rfl, rfl, h, by simp⟩
  | s :: r, S, acc, h => by
    rw [dlines_cons]
    unfold readsP
    rcases h.step (wordsL s) with ⟨h1, h2⟩ | ⟨T, l, h1, h2, h3⟩
    · rw [h1, h2]
      exact Or.inl ⟨_, rfl, rfl⟩
    · rw [h1, h2]
      have := lines_tie r T (acc ++ [l]) h3
      have e : (((acc ++ [l]).length : Nat) : Int) = (acc.length : Int) + 1 := by simp
      rw [e] at this
      rcases this with ⟨n, h4, h5⟩ | ⟨T', acc', h4, h5, h6, h7⟩
      · exact Or.inl ⟨n, h4, h5⟩
      · refine Or.inr ⟨T', acc', h4, h5, h6, ?_⟩
        rw [h7]
        simp
        omega

theorem tr0 : TR ⟨fun _ => none, [], 0⟩ [] := ⟨rfl, fun m => by unfold findM; rw [findP_none [] m 0 (Or.inr fun x hx => by cases hx)]; rfl, SR.nil, fun x hx => by cases hx⟩

/-- in the whole -/
theorem build_tie (text : ByteArray) (base : Int) : dbuildO text base = buildO text base := by
  unfold dbuildO buildO
  by_cases h1 : ¬ base % 4 = 0 ∨ 1099511627776 < base
  · rw [if_pos h1, if_pos h1]
  · rw [if_neg h1, if_neg h1]
    by_cases h2 : 65536 < text.size
    · rw [if_pos h2, if_pos h2]
    · rw [if_neg h2, if_neg h2]
      rcases lines_tie (linesL text) _ [] tr0 with ⟨n, h3, h4⟩ | ⟨T, ls, h3, h4, h5, _⟩
      · rw [h4]
        have h3' : readsP (opM 48) 0 ⟨fun _ => none, [], 0⟩ (linesL text) = .error n := h3
        rw [h3']
      · rw [h4]
        have h3' : readsP (opM 48) 0 ⟨fun _ => none, [], 0⟩ (linesL text) = .ok T := h3
        rw [h3']
        simp only
        rw [h5.len]
        have hf : T.M = findM ls := funext h5.M
        rw [words_tie T.M ls h5.M h5.sts, hf]
        by_cases h6 : 16384 < sumW ls
        · rw [if_pos h6, if_pos h6]
        · rw [if_neg h6, if_neg h6]
          cases wordsP (findM ls) [] T.sts <;> rfl
end Go.Proofs.YtopankjjlapfbaaGreatDoor
