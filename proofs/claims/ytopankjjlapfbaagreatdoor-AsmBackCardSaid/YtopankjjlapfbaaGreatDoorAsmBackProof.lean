/-
  What is shown of words is assembled to these words: AsmBack returns true at every input; the operations' names, the library's tables and errors hold what their own text lays, which the card ties.
  Words with one blank between them: what is told of such a line.
  A number written in decimals is read as itself.
  A word shown as a line, and the line read again: in plain terms, over no program.
  The lines of shown words, read and built again: in plain terms, over no program.
  What is shown of words is assembled to these words: the walk of AsmBack.
-/
import Derived.Test.YtopankjjlapfbaaGreatDoorSplit
import Derived.Laws.RangeString
import Derived.Test.YtopankjjlapfbaaGreatDoorAsm
import Derived.Test.YtopankjjlapfbaaGreatDoorDec
import Derived.Lib.AtoiTie
import Derived.Test.YtopankjjlapfbaaGreatDoorMarksWalk
import Derived.Deep.QuietTactic
import Derived.BigQuiet
import Derived.Test.YtopankjjlapfbaaGreatDoorRows
import Derived.Test.YtopankjjlapfbaaGreatDoorTie
import Derived.Test.YtopankjjlapfbaaGreatDoorCards
import Derived.Test.YtopankjjlapfbaaGreatDoorLaid
import Derived.SevenTiedAt
import Derived.ChangeMaps5
import Derived.ChangeOld
import Derived.Below
namespace Go.Proofs.YtopankjjlapfbaaGreatDoor
set_option linter.unusedVariables false
set_option maxRecDepth 100000

/-- words, one blank between two -/
def joinW : List (List UInt8) → List UInt8
  | [] => []
  | [w] => w
  | w :: r => w ++ 32 :: joinW r
/-- a word: some signs, none of them a gap -/
def WordOk (w : List UInt8) : Prop := w ≠ [] ∧ ∀ c ∈ w, c.toNat < 128 ∧ gapB c.toNat = false

theorem dec_at (l : List UInt8) (pos : Nat) (c : UInt8) (hc : l[pos]? = some c) (ha : c.toNat < 128) : Utf8.decode ⟨l.toArray⟩ pos = (c.toNat, 1) ∧ pos < (⟨l.toArray⟩ : ByteArray).size := by
  have hlt : pos < l.length := (List.getElem?_eq_some_iff.1 hc).1
  have hs : pos < (⟨l.toArray⟩ : ByteArray).size := by show pos < l.toArray.size; simpa using hlt
  have he : (⟨l.toArray⟩ : ByteArray)[pos]'hs = c := by
    show l.toArray[pos] = c
    simpa using (List.getElem?_eq_some_iff.1 hc).2
  have h := decode_ascii ⟨l.toArray⟩ pos hs (by rw [he]; exact ha)
  rw [he] at h
  exact ⟨h, hs⟩

theorem in_word (l : List UInt8) : ∀ (w : List UInt8) (pos f a : Nat) (acc : List (Nat × Nat)), (∀ c ∈ w, c.toNat < 128 ∧ gapB c.toNat = false) → (∀ i, i < w.length → l[pos + i]? = w[i]?) →
    Lib.spansFromP gapB ⟨l.toArray⟩ (w.length + f) pos (some a) acc = Lib.spansFromP gapB ⟨l.toArray⟩ f (pos + w.length) (some a) acc
  | [], pos, f, a, acc, hw, hl => by simp
  | c :: w, pos, f, a, acc, hw, hl => by
    have h0 := hl 0 (by simp)
    simp at h0
    obtain ⟨hd, hs⟩ := dec_at l pos c h0 (hw c (by simp)).1
    have ih := in_word l w (pos + 1) f a acc (fun x hx => hw x (by simp [hx])) (fun i hi => by
      have := hl (i + 1) (by simp; omega)
      rw [show pos + 1 + i = pos + (i + 1) by omega, this]
      simp)
    rw [show (c :: w).length + f = (w.length + f) + 1 by simp; omega, Lib.spansFromP, if_pos hs, hd]
    simp only [(hw c (by simp)).2, Bool.false_eq_true, if_false]
    rw [ih]
    congr 1
    simp
    omega
theorem at_word (l : List UInt8) (w : List UInt8) (hw : WordOk w) (pos f : Nat) (acc : List (Nat × Nat)) (hl : ∀ i, i < w.length → l[pos + i]? = w[i]?) :
    Lib.spansFromP gapB ⟨l.toArray⟩ (w.length + f) pos none acc = Lib.spansFromP gapB ⟨l.toArray⟩ f (pos + w.length) (some pos) acc := by
  obtain ⟨hne, hc⟩ := hw
  cases w with
  | nil => exact absurd rfl hne
  | cons c w =>
    have h0 := hl 0 (by simp)
    simp at h0
    obtain ⟨hd, hs⟩ := dec_at l pos c h0 (hc c (by simp)).1
    have ih := in_word l w (pos + 1) f pos acc (fun x hx => hc x (by simp [hx])) (fun i hi => by
      have := hl (i + 1) (by simp; omega)
      rw [show pos + 1 + i = pos + (i + 1) by omega, this]
      simp)
    rw [show (c :: w).length + f = (w.length + f) + 1 by simp; omega, Lib.spansFromP, if_pos hs, hd]
    simp only [(hc c (by simp)).2, Bool.false_eq_true, if_false]
    rw [ih]
    congr 1
    simp
    omega
theorem at_gap (l : List UInt8) (pos f a : Nat) (acc : List (Nat × Nat)) (h : l[pos]? = some 32) :
    Lib.spansFromP gapB ⟨l.toArray⟩ (f + 1) pos (some a) acc = Lib.spansFromP gapB ⟨l.toArray⟩ f (pos + 1) none (acc ++ [(a, pos)]) := by
  obtain ⟨hd, hs⟩ := dec_at l pos 32 h (by decide)
  rw [Lib.spansFromP, if_pos hs, hd]
  simp [gapB]

theorem fields_at : ∀ (ws : List (List UInt8)) (pre : List UInt8) (acc : List (Nat × Nat)), ws ≠ [] → (∀ w ∈ ws, WordOk w) →
    (Lib.closeSpans ⟨(pre ++ joinW ws).toArray⟩ (Lib.spansFromP gapB ⟨(pre ++ joinW ws).toArray⟩ (joinW ws).length pre.length none acc)).map (fun x => (⟨(pre ++ joinW ws).toArray⟩ : ByteArray).extract x.1 x.2) =
      acc.map (fun x => (⟨(pre ++ joinW ws).toArray⟩ : ByteArray).extract x.1 x.2) ++ ws.map (fun w => ⟨w.toArray⟩)
  | [], pre, acc, hne, hw => absurd rfl hne
  | [w], pre, acc, hne, hw => by
    have hl : ∀ i, i < w.length → (pre ++ joinW [w])[pre.length + i]? = w[i]? := fun i hi => by
      show (pre ++ w)[pre.length + i]? = _
      rw [List.getElem?_append_right (by omega)]
      congr 1
      omega
    have h1 := at_word (pre ++ joinW [w]) w (hw w (by simp)) pre.length 0 acc hl
    have hsz : ¬ pre.length + w.length < (⟨(pre ++ joinW [w]).toArray⟩ : ByteArray).size := by
      show ¬ _ < (pre ++ w).toArray.size
      simp
    rw [show (joinW [w]).length = w.length + 0 from rfl, h1, Lib.spansFromP_end _ _ _ _ _ _ hsz]
    unfold Lib.closeSpans
    simp
    apply ByteArray.ext
    simp [joinW, ByteArray.size]
  | w :: v :: r, pre, acc, hne, hw => by
    have hj : joinW (w :: v :: r) = w ++ 32 :: joinW (v :: r) := rfl
    have hl : ∀ i, i < w.length → (pre ++ joinW (w :: v :: r))[pre.length + i]? = w[i]? := fun i hi => by
      rw [hj, List.getElem?_append_right (by omega), show pre.length + i - pre.length = i by omega, List.getElem?_append_left hi]
    have hg : (pre ++ joinW (w :: v :: r))[pre.length + w.length]? = some 32 := by
      rw [hj, List.getElem?_append_right (by omega), show pre.length + w.length - pre.length = w.length by omega, List.getElem?_append_right (by omega)]
      simp
    have h1 := at_word (pre ++ joinW (w :: v :: r)) w (hw w (by simp)) pre.length ((joinW (v :: r)).length + 1) acc hl
    have ih := fields_at (v :: r) (pre ++ w ++ [32]) (acc ++ [(pre.length, pre.length + w.length)]) (by simp) (fun x hx => hw x (by simp at hx ⊢; right; exact hx))
    have hpre : pre ++ w ++ [32] ++ joinW (v :: r) = pre ++ joinW (w :: v :: r) := by rw [hj]; simp
    have hpl : (pre ++ w ++ [32]).length = pre.length + w.length + 1 := by simp; omega
    rw [hpre, hpl] at ih
    rw [show (joinW (w :: v :: r)).length = w.length + ((joinW (v :: r)).length + 1) by rw [hj]; simp, h1, at_gap _ _ _ _ _ hg, ih]
    simp
    apply ByteArray.ext
    rw [hj]
    simp
theorem fields_join (ws : List (List UInt8)) (hne : ws ≠ []) (hw : ∀ w ∈ ws, WordOk w) : Lib.goFieldsP gapB ⟨(joinW ws).toArray⟩ = ws.map fun w => ⟨w.toArray⟩ := by
  have h := fields_at ws [] [] hne hw
  unfold Lib.goFieldsP Lib.spansOfP
  rw [show (⟨(joinW ws).toArray⟩ : ByteArray).size = (joinW ws).length by show (joinW ws).toArray.size = _; simp]
  simpa using h
end Go.Proofs.YtopankjjlapfbaaGreatDoor
namespace Go.Proofs.YtopankjjlapfbaaGreatDoor
set_option linter.unusedVariables false
set_option maxRecDepth 100000

theorem decFrom_snoc : ∀ (l : List UInt8) (acc n : Nat) (d : Nat), Lib.decFrom acc l = some n → d < 10 → Lib.decFrom acc (l ++ [UInt8.ofNat (48 + d)]) = some (n * 10 + d)
  | [], acc, n, d, h, hd => by
    cases h
    have hv : (UInt8.ofNat (48 + d)).toNat = 48 + d := by simp; omega
    show (match Lib.digitVal (UInt8.ofNat (48 + d)) with | some e => Lib.decFrom (acc * 10 + e) [] | none => none) = _
    unfold Lib.digitVal
    rw [hv, if_pos (by omega)]
    simp [Lib.decFrom]
  | b :: r, acc, n, d, h, hd => by
    unfold Lib.decFrom at h
    show (match Lib.digitVal b with | some e => Lib.decFrom (acc * 10 + e) (r ++ [UInt8.ofNat (48 + d)]) | none => none) = _
    cases hb : Lib.digitVal b with
    | none => rw [hb] at h; cases h
    | some e =>
      rw [hb] at h
      exact decFrom_snoc r _ n d h hd
theorem decFrom_digits (u : Nat) : Lib.decFrom 0 (Lib.decDigits u) = some u := by
  induction u using Nat.strongRecOn with
  | _ u ih =>
    by_cases h : u < 10
    · rw [Lib.decDigits, dif_pos h]
      simpa using decFrom_snoc [] 0 0 u rfl h
    · rw [Lib.decDigits, dif_neg h, decFrom_snoc _ _ _ (u % 10) (ih (u / 10) (by omega)) (by omega)]
      congr 1
      omega
theorem digits_ne (u : Nat) : Lib.decDigits u ≠ [] := by
  rw [Lib.decDigits]
  split <;> simp
theorem digits_len (u k : Nat) (h : u < 10 ^ (k + 1)) : (Lib.decDigits u).length ≤ k + 1 := by
  induction k generalizing u with
  | zero => rw [Lib.decDigits, dif_pos (by simpa using h)]; simp
  | succ k ih =>
    rw [Lib.decDigits]
    split
    · simp
    · have := ih (u / 10) (by rw [Nat.pow_succ] at h; omega)
      simp
      omega
/-- the first digit: of a number above 0 it is none -/
theorem digits_head (u : Nat) (h1 : 1 ≤ u) : 49 ≤ ((Lib.decDigits u).headD 0).toNat := by
  induction u using Nat.strongRecOn with
  | _ u ih =>
    rw [Lib.decDigits]
    split
    · simp; omega
    · have := ih (u / 10) (by omega) (by omega)
      have hne := digits_ne (u / 10)
      cases hd : Lib.decDigits (u / 10) with
      | nil => exact absurd hd hne
      | cons c r => rw [hd] at this; simpa using this
theorem digits_chars (u : Nat) : ∀ c ∈ Lib.decDigits u, 48 ≤ c.toNat ∧ c.toNat ≤ 57 := by
  induction u using Nat.strongRecOn with
  | _ u ih =>
    intro c hc
    rw [Lib.decDigits] at hc
    split at hc
    · simp at hc
      subst hc
      simp
      omega
    · rcases List.mem_append.1 hc with h | h
      · exact ih (u / 10) (by omega) c h
      · simp at h
        subst h
        simp
        omega
theorem digits_cons (u : Nat) : ∃ c r, Lib.decDigits u = c :: r ∧ 48 ≤ c.toNat ∧ c.toNat ≤ 57 := by
  cases hd : Lib.decDigits u with
  | nil => exact absurd hd (digits_ne u)
  | cons c r => exact ⟨c, r, rfl, digits_chars u c (by rw [hd]; simp)⟩

theorem numO_nat (u : Nat) (h : u < 10 ^ 15) : numO ⟨(Lib.decDigits u).toArray⟩ = some (u : Int) := by
  by_cases h0 : u = 0
  · subst h0
    decide +kernel
  obtain ⟨c, r, hd, hc1, hc2⟩ := digits_cons u
  have hh := digits_head u (by omega)
  have hl := digits_len u 14 h
  have hf := decFrom_digits u
  unfold numO
  rw [if_neg (by
    intro e
    have e2 : Lib.decDigits u = [48] := by
      have := congrArg (fun b : ByteArray => b.data.toList) e
      simpa using this
    rw [e2] at hh
    exact absurd hh (by decide))]
  have ht : Lib.trimPrefix (Lib.decDigits u) [45] = Lib.decDigits u := by
    unfold Lib.trimPrefix Lib.hasPrefix
    rw [hd, if_neg]
    simp
    intro e
    rw [← e] at hc1
    exact absurd hc1 (by decide)
  show (if Lib.trimPrefix (Lib.decDigits u) [45] = [] ∨ 15 < (Lib.trimPrefix (Lib.decDigits u) [45]).length ∨ ((Lib.trimPrefix (Lib.decDigits u) [45]).headD 0).toNat < 49 then none else match Lib.atoiAll (Lib.decDigits u) with | .ok v => some v | _ => none) = _
  rw [ht, if_neg (by
    rintro (e | e | e)
    · exact digits_ne u e
    · omega
    · omega), Lib.atoiAll_short _ (by omega)]
  have ha : Lib.atoi (Lib.decDigits u) = some (u : Int) := by
    rw [hd] at hf ⊢
    unfold Lib.atoi
    have n1 : (c == 45) = false := by rw [beq_eq_false_iff_ne]; intro e; subst e; exact absurd hc1 (by decide)
    have n2 : (c == 43) = false := by rw [beq_eq_false_iff_ne]; intro e; subst e; exact absurd hc1 (by decide)
    simp [n1, n2, Lib.decNat, hf]
  rw [ha]
  rfl
theorem numO_neg (u : Nat) (h1 : 1 ≤ u) (h : u < 10 ^ 15) : numO ⟨(45 :: Lib.decDigits u).toArray⟩ = some (-(u : Int)) := by
  have hh := digits_head u h1
  have hl := digits_len u 14 h
  have hf := decFrom_digits u
  unfold numO
  rw [if_neg (by
    intro e
    have := congrArg (fun b : ByteArray => b.data.toList) e
    simp at this)]
  have ht : Lib.trimPrefix (45 :: Lib.decDigits u) [45] = Lib.decDigits u := by
    unfold Lib.trimPrefix Lib.hasPrefix
    simp
  show (if Lib.trimPrefix (45 :: Lib.decDigits u) [45] = [] ∨ 15 < (Lib.trimPrefix (45 :: Lib.decDigits u) [45]).length ∨ ((Lib.trimPrefix (45 :: Lib.decDigits u) [45]).headD 0).toNat < 49 then none else match Lib.atoiAll (45 :: Lib.decDigits u) with | .ok v => some v | _ => none) = _
  rw [ht, if_neg (by
    rintro (e | e | e)
    · exact digits_ne u e
    · omega
    · omega), Lib.atoiAll_short _ (by simp; omega)]
  have ha : Lib.atoi (45 :: Lib.decDigits u) = some (-(u : Int)) := by
    unfold Lib.atoi
    simp [Lib.decNat, hf, digits_ne]
  rw [ha]
  rfl
theorem numO_itoS (v : Int) (h0 : -1000000000000 ≤ v) (h1 : v ≤ 1000000000000) : numO (itoS v) = some v := by
  unfold itoS Lib.itoa
  by_cases h : v < 0
  · rw [if_pos h, numO_neg _ (by omega) (by omega)]
    congr 1
    omega
  · rw [if_neg h, numO_nat _ (by omega)]
    congr 1
    omega
theorem itoS_ok (v : Int) : WordOk (itoS v).data.toList := by
  have hd : ∀ u, ∀ c ∈ Lib.decDigits u, c.toNat < 128 ∧ gapB c.toNat = false := fun u c hc => by
    have := digits_chars u c hc
    refine ⟨by omega, ?_⟩
    unfold gapB
    simp
    omega
  unfold itoS Lib.itoa
  by_cases h : v < 0
  · rw [if_pos h]
    refine ⟨by simp, fun c hc => ?_⟩
    rcases List.mem_cons.1 hc with rfl | hc
    · exact ⟨by decide, by decide⟩
    · exact hd _ c hc
  · rw [if_neg h]
    exact ⟨digits_ne _, hd _⟩
theorem itoS_len (v : Int) (h0 : -9999999999 ≤ v) (h1 : v ≤ 9999999999) : (itoS v).size ≤ 11 := by
  unfold itoS Lib.itoa
  by_cases h : v < 0
  · rw [if_pos h]
    have := digits_len v.natAbs 9 (by omega)
    show (45 :: Lib.decDigits v.natAbs).toArray.size ≤ 11
    simp
    omega
  · rw [if_neg h]
    have := digits_len v.toNat 9 (by omega)
    show (Lib.decDigits v.toNat).toArray.size ≤ 11
    simp
    omega
theorem regO_itoS (v : Int) (h0 : 0 ≤ v) (h1 : v ≤ 15) : regO (⟨#[120]⟩ ++ itoS v) = some v := by
  have hc : v = 0 ∨ v = 1 ∨ v = 2 ∨ v = 3 ∨ v = 4 ∨ v = 5 ∨ v = 6 ∨ v = 7 ∨ v = 8 ∨ v = 9 ∨ v = 10 ∨ v = 11 ∨ v = 12 ∨ v = 13 ∨ v = 14 ∨ v = 15 := by omega
  rcases hc with rfl | rfl | rfl | rfl | rfl | rfl | rfl | rfl | rfl | rfl | rfl | rfl | rfl | rfl | rfl | rfl <;> decide +kernel
end Go.Proofs.YtopankjjlapfbaaGreatDoor
namespace Go.Proofs.YtopankjjlapfbaaGreatDoor
set_option linter.unusedVariables false
set_option maxRecDepth 100000

theorem joinW_merge (a b : List UInt8) : ∀ r, joinW ((a ++ 32 :: b) :: r) = joinW (a :: b :: r)
  | [] => rfl
  | c :: r => by simp [joinW]
/-- a shown line, as its words -/
theorem lineS_join (x1 x2 x3 x4 : Int) : ∀ (ps : List Int) (nm : ByteArray), (lineS nm x1 x2 x3 x4 ps).data.toList = joinW (nm.data.toList :: ps.map fun p => (opdS p (fv x1 x2 x3 x4 p)).data.toList)
  | [], nm => rfl
  | p :: r, nm => by
    unfold lineS
    rw [lineS_join x1 x2 x3 x4 r, List.map_cons]
    have e : (nm ++ (⟨#[32]⟩ ++ opdS p (fv x1 x2 x3 x4 p))).data.toList = nm.data.toList ++ 32 :: (opdS p (fv x1 x2 x3 x4 p)).data.toList := by simp
    rw [e, joinW_merge]

theorem valid_zero {op rd rs1 rs2 imm : Int} (h : validP op rd rs1 rs2 imm = true) :
    (rdP op = false → rd = 0) ∧ (rs1P op = false → rs1 = 0) ∧ (rs2P op = false → rs2 = 0) ∧ (shapeR op = 0 ∨ shapeR op = 1 ∨ shapeR op = 6 → imm = 0) := by
  have hc := shape_cases op
  unfold validP at h
  simp only [Bool.and_eq_true] at h
  obtain ⟨⟨⟨⟨h0, h1⟩, h2⟩, h3⟩, h4⟩ := h
  refine ⟨fun e => ?_, fun e => ?_, fun e => ?_, fun e => ?_⟩
  · rw [e] at h1; simpa [regP] using h1
  · rw [e] at h2; simpa [regP] using h2
  · rw [e] at h3; simpa [regP] using h3
  · have e1 : loP op = 0 := by
      unfold loP
      split
      · rfl
      · rw [if_neg (by omega), if_neg (by omega)]
    have e2 : hiP op = 0 := by
      unfold hiP
      rw [if_neg (by omega), if_neg (by omega), if_neg (by omega), if_neg (by omega)]
    rw [e1, e2] at h4
    simp [hasP] at h4
    omega

theorem itoS_noname (v : Int) : nameB (itoS v) = false := by
  unfold itoS Lib.itoa
  by_cases h : v < 0
  · rw [if_pos h]
    unfold nameB
    have : (List.all (45 :: Lib.decDigits v.natAbs) fun c => chrB ((c.toNat : Nat) : Int)) = false := by
      simp [List.all_cons, chrB, digB]
    simp [this]
  · rw [if_neg h]
    obtain ⟨c, r, e, h1, h2⟩ := digits_cons v.toNat
    unfold nameB
    rw [e]
    have : digB ((c.toNat : Nat) : Int) = true := by
      unfold digB
      simp
      omega
    simp [this]

/-- an operand that is shown is read again -/
theorem opd_back (s : St) (p v : Int) (h : (p = 0 ∨ p = 1 ∨ p = 2) ∧ 0 ≤ v ∧ v ≤ 15 ∨ (p = 3 ∨ p = 4) ∧ -131072 ≤ v ∧ v ≤ 131071) : opdO s p (opdS p v) = some (putF s p v) := by
  rcases h with ⟨hp, h0, h1⟩ | ⟨hp, h0, h1⟩
  · unfold opdO opdS
    rw [if_neg (by omega), if_neg (by omega), if_pos hp, regO_itoS v h0 h1]
    rfl
  · unfold opdO opdS
    rw [if_neg (show ¬ (p = 0 ∨ p = 1 ∨ p = 2) by omega)]
    have hn := numO_itoS v (by omega) (by omega)
    rcases hp with rfl | rfl
    · rw [if_neg (by decide), if_pos rfl, hn]; rfl
    · rw [if_pos rfl, itoS_noname, hn]; rfl

/-- what the line of a valid instruction asks for -/
def stI (op rd rs1 rs2 imm : Int) : St := ⟨0, op, rd, rs1, rs2, imm, ⟨#[]⟩, 0, 1⟩
theorem opds_back {op rd rs1 rs2 imm : Int} (h : validP op rd rs1 rs2 imm = true) :
    opdsO (stI op 0 0 0 0) (plcL op) ((plcL op).map fun p => opdS p (fv rd rs1 rs2 imm p)) = some (stI op rd rs1 rs2 imm) := by
  have f := valid_facts h
  have z := valid_zero h
  have hc := shape_cases op
  have i1 : -131072 ≤ imm ∧ imm ≤ 131071 := by
    by_cases h5 : shapeR op = 5
    · have := f.2.2.2.2.2.2.2.2.1 h5; omega
    · have := f.2.2.2.2.2.2.2.2.2 h5; omega
  obtain ⟨f1, f2, f3, f4, f5, f6, f7, f8, _, _⟩ := f
  obtain ⟨z1, z2, z3, z4⟩ := z
  have o0 : ∀ s : St, opdO s 0 (opdS 0 rd) = some (putF s 0 rd) := fun s => opd_back s 0 rd (by omega)
  have o1 : ∀ s : St, opdO s 1 (opdS 1 rs1) = some (putF s 1 rs1) := fun s => opd_back s 1 rs1 (by omega)
  have o2 : ∀ s : St, opdO s 2 (opdS 2 rs2) = some (putF s 2 rs2) := fun s => opd_back s 2 rs2 (by omega)
  have o3 : ∀ s : St, opdO s 3 (opdS 3 imm) = some (putF s 3 imm) := fun s => opd_back s 3 imm (by omega)
  have o4 : ∀ s : St, opdO s 4 (opdS 4 imm) = some (putF s 4 imm) := fun s => opd_back s 4 imm (by omega)
  have w0 : fv rd rs1 rs2 imm 0 = rd := rfl
  have w1 : fv rd rs1 rs2 imm 1 = rs1 := rfl
  have w2 : fv rd rs1 rs2 imm 2 = rs2 := rfl
  have w3 : fv rd rs1 rs2 imm 3 = imm := rfl
  have w4 : fv rd rs1 rs2 imm 4 = imm := rfl
  have y1 : ¬ (shapeR op = 1 ∨ shapeR op = 2 ∨ shapeR op = 5) → rd = 0 := fun e => z1 (decide_eq_false e)
  have y2 : ¬ (shapeR op = 1 ∨ shapeR op = 2 ∨ shapeR op = 3 ∨ shapeR op = 4 ∨ shapeR op = 6) → rs1 = 0 := fun e => z2 (decide_eq_false e)
  have y3 : ¬ (shapeR op = 1 ∧ op ≠ 37 ∨ shapeR op = 3 ∨ shapeR op = 4) → rs2 = 0 := fun e => z3 (decide_eq_false e)
  clear z1 z2 z3
  unfold plcL
  split
  · have : rs2 = 0 := y3 (by omega)
    have : imm = 0 := z4 (by omega)
    subst_vars
    simp [opdsO, w0, w1, o0, o1, putF, stI]
  split
  · have : rs2 = 0 := y3 (by omega)
    subst_vars
    simp [opdsO, w0, w1, w3, o0, o1, o3, putF, stI]
  split
  · have : rs2 = 0 := y3 (by omega)
    have : rs1 = 0 := y2 (by omega)
    subst_vars
    simp [opdsO, w0, w3, o0, o3, putF, stI]
  split
  · have : imm = 0 := z4 (by omega)
    subst_vars
    simp [opdsO, w0, w1, w2, o0, o1, o2, putF, stI]
  split
  · have : rs2 = 0 := y3 (by omega)
    subst_vars
    simp [opdsO, w0, w1, w3, o0, o1, o3, putF, stI]
  split
  · have : rd = 0 := y1 (by omega)
    subst_vars
    simp [opdsO, w1, w2, w3, o1, o2, o3, putF, stI]
  split
  · have : rd = 0 := y1 (by omega)
    subst_vars
    simp [opdsO, w1, w2, w4, o1, o2, o4, putF, stI]
  split
  · have : rs2 = 0 := y3 (by omega)
    have : rs1 = 0 := y2 (by omega)
    subst_vars
    simp [opdsO, w0, w4, o0, o4, putF, stI]
  split
  · have : rd = 0 := y1 (by omega)
    have : rs2 = 0 := y3 (by omega)
    have : imm = 0 := z4 (by omega)
    subst_vars
    simp [opdsO, w1, o1, putF, stI]
  · have : rd = 0 := y1 (by omega)
    have : rs1 = 0 := y2 (by omega)
    have : rs2 = 0 := y3 (by omega)
    have : imm = 0 := z4 (by omega)
    subst_vars
    rfl
end Go.Proofs.YtopankjjlapfbaaGreatDoor
namespace Go.Proofs.YtopankjjlapfbaaGreatDoor
set_option linter.unusedVariables false
set_option maxRecDepth 100000

theorem names_ok : ∀ n : Fin 48, ((nameL.getD (n.val + 1) ⟨#[]⟩).data.toList.all fun c => decide (45 ≤ c.toNat) && decide (c.toNat < 128) && !gapB c.toNat) = true ∧ ((nameL.getD (n.val + 1) ⟨#[]⟩).data.toList == []) = false ∧
    Lib.hasSuffix (nameL.getD (n.val + 1) ⟨#[]⟩).data.toList [58] = false ∧ ¬ nameL.getD (n.val + 1) ⟨#[]⟩ = ⟨#[46, 119, 111, 114, 100]⟩ ∧ ¬ nameL.getD (n.val + 1) ⟨#[]⟩ = ⟨#[46, 102, 105, 108, 108]⟩ ∧
    opM 48 (nameL.getD (n.val + 1) ⟨#[]⟩) = some ((n.val + 1 : Nat) : Int) := by decide +kernel
/-- a word, and none of its signs is below 45 -/
def SignOk (w : List UInt8) : Prop := WordOk w ∧ ∀ c ∈ w, 45 ≤ c.toNat
theorem name_ok (op : Int) (h1 : 1 ≤ op) (h2 : op ≤ 48) : SignOk (nameS op).data.toList ∧ Lib.hasSuffix (nameS op).data.toList [58] = false ∧ ¬ nameS op = ⟨#[46, 119, 111, 114, 100]⟩ ∧ ¬ nameS op = ⟨#[46, 102, 105, 108, 108]⟩ ∧ opM 48 (nameS op) = some op := by
  obtain ⟨n, hn⟩ : ∃ n : Fin 48, op = ((n.val + 1 : Nat) : Int) := ⟨⟨(op - 1).toNat, by omega⟩, by simp; omega⟩
  obtain ⟨a, b, c, d, e, f⟩ := names_ok n
  have hs : nameS op = nameL.getD (n.val + 1) ⟨#[]⟩ := by unfold nameS; rw [hn, Int.toNat_natCast]
  rw [hs]
  refine ⟨⟨⟨by simpa using b, fun x hx => ?_⟩, fun x hx => ?_⟩, c, d, e, by rw [f, hn]⟩
  · have := List.all_eq_true.1 a x hx
    simp only [Bool.and_eq_true, decide_eq_true_eq, Bool.not_eq_true'] at this
    exact ⟨this.1.2, this.2⟩
  · have := List.all_eq_true.1 a x hx
    simp only [Bool.and_eq_true, decide_eq_true_eq, Bool.not_eq_true'] at this
    exact this.1.1
theorem itoS_sign (v : Int) : SignOk (itoS v).data.toList := by
  refine ⟨itoS_ok v, fun c hc => ?_⟩
  unfold itoS Lib.itoa at hc
  by_cases h : v < 0
  · rw [if_pos h] at hc
    rcases List.mem_cons.1 (show c ∈ 45 :: Lib.decDigits v.natAbs from by simpa using hc) with rfl | hc
    · decide
    · have := digits_chars _ c hc; omega
  · rw [if_neg h] at hc
    have := digits_chars _ c (show c ∈ Lib.decDigits v.toNat from by simpa using hc)
    omega
theorem opd_sign (p v : Int) : SignOk (opdS p v).data.toList := by
  have hi := itoS_sign v
  unfold opdS
  split
  · have e : ((⟨#[120]⟩ : ByteArray) ++ itoS v).data.toList = 120 :: (itoS v).data.toList := by simp
    rw [e]
    refine ⟨⟨by simp, fun c hc => ?_⟩, fun c hc => ?_⟩
    · rcases List.mem_cons.1 hc with rfl | hc
      · decide
      · exact hi.1.2 c hc
    · rcases List.mem_cons.1 hc with rfl | hc
      · decide
      · exact hi.2 c hc
  · exact hi

/-- the words of a shown line -/
def wsA (a : Int) : List (List UInt8) :=
  if validW a = true then (nameS (opW a)).data.toList :: (plcL (opW a)).map (fun p => (opdS p (fv (rdW a) (rs1W a) (rs2W a) (immW a) p)).data.toList)
  else [[46, 119, 111, 114, 100], (itoS a).data.toList]
theorem show_join (a : Int) : (showS a).data.toList = joinW (wsA a) := by
  unfold showS wsA
  by_cases h : validW a = true
  · rw [if_pos h, if_pos h, lineS_join]
  · rw [if_neg h, if_neg h]
    simp [joinW]
theorem ws_ok (a : Int) : ∀ w ∈ wsA a, SignOk w := by
  intro w hw
  unfold wsA at hw
  by_cases h : validW a = true
  · rw [if_pos h] at hw
    have ho := valid_op h
    rcases List.mem_cons.1 hw with rfl | hw
    · exact (name_ok _ ho.1 ho.2).1
    · obtain ⟨p, _, rfl⟩ := List.mem_map.1 hw
      exact opd_sign _ _
  · rw [if_neg h] at hw
    rcases List.mem_cons.1 hw with rfl | hw
    · refine ⟨⟨by decide, ?_⟩, ?_⟩ <;> decide
    · rcases List.mem_cons.1 hw with rfl | hw
      · exact itoS_sign a
      · cases hw
theorem ws_ne (a : Int) : wsA a ≠ [] := by unfold wsA; split <;> simp
theorem join_signs : ∀ (ws : List (List UInt8)), (∀ w ∈ ws, SignOk w) → ∀ c ∈ joinW ws, c = 32 ∨ 45 ≤ c.toNat
  | [], _, c, hc => by cases hc
  | [w], h, c, hc => .inr ((h w (by simp)).2 c hc)
  | w :: x :: r, h, c, hc => by
    have hc' : c ∈ w ++ 32 :: joinW (x :: r) := hc
    rcases List.mem_append.1 hc' with hc | hc
    · exact .inr ((h w (by simp)).2 c hc)
    · rcases List.mem_cons.1 hc with rfl | hc
      · exact .inl rfl
      · exact join_signs (x :: r) (fun u hu => h u (by simp [hu])) c hc
theorem show_signs (a : Int) : (10 : UInt8) ∉ (showS a).data.toList ∧ (35 : UInt8) ∉ (showS a).data.toList := by
  rw [show_join]
  constructor
  · intro hc
    rcases join_signs _ (ws_ok a) _ hc with h | h
    · cases h
    · revert h; decide
  · intro hc
    rcases join_signs _ (ws_ok a) _ hc with h | h
    · cases h
    · revert h; decide
theorem show_words (a : Int) : wordsL (showS a) = (wsA a).map mkB := by
  have e : showS a = mkB (joinW (wsA a)) := by rw [← show_join]; exact (mkB_of _).symm
  have hs := (show_signs a).2
  rw [show_join] at hs
  unfold wordsL
  rw [e, said_all _ hs]
  exact fields_join (wsA a) (ws_ne a) (fun w hw => (ws_ok a w hw).1)

theorem line_len (x1 x2 x3 x4 : Int) (hx : ∀ p, -1000000 ≤ fv x1 x2 x3 x4 p ∧ fv x1 x2 x3 x4 p ≤ 1000000) : ∀ (l : List Int) (nm : ByteArray), (lineS nm x1 x2 x3 x4 l).size ≤ nm.size + 13 * l.length
  | [], nm => by simp [lineS]
  | p :: r, nm => by
    have h := line_len x1 x2 x3 x4 hx r (nm ++ (⟨#[32]⟩ ++ opdS p (fv x1 x2 x3 x4 p)))
    have h2 : (opdS p (fv x1 x2 x3 x4 p)).size ≤ 12 := by
      have hi := itoS_len (fv x1 x2 x3 x4 p) (by have := hx p; omega) (by have := hx p; omega)
      unfold opdS
      split
      · rw [Go.ByteArray.size_append']
        show 1 + _ ≤ _
        omega
      · omega
    rw [Go.ByteArray.size_append', Go.ByteArray.size_append'] at h
    have h3 : (⟨#[32]⟩ : ByteArray).size = 1 := rfl
    rw [List.length_cons]
    unfold lineS
    omega
theorem show_len (a : Int) (h0 : 0 ≤ a) (h1 : a ≤ 4294967295) : (showS a).size ≤ 49 := by
  unfold showS
  split
  · have h := line_len (rdW a) (rs1W a) (rs2W a) (immW a) (fv_small a) (plcL (opW a)) (nameS (opW a))
    have h2 := nameS_size (opW a)
    have h3 := plcL_len (opW a)
    omega
  · rw [Go.ByteArray.size_append']
    have := itoS_len a (by omega) (by omega)
    show 6 + _ ≤ _
    omega

/-- what the line of a shown word asks for -/
def stA (a : Int) : St := if validW a = true then stI (opW a) (rdW a) (rs1W a) (rs2W a) (immW a) else wordSt a
theorem read_back (a : Int) (h0 : 0 ≤ a) (h1 : a ≤ 4294967295) (n : Int) (S : PSt) : readP (opM 48) n S (wordsL (showS a)) = some { S with sts := S.sts ++ [{ stA a with line := n }], len := S.len + 1 } := by
  rw [show_words]
  unfold wsA stA
  by_cases h : validW a = true
  · rw [if_pos h, if_pos h]
    have ho := valid_op h
    obtain ⟨_, k2, k3, k4, k5⟩ := name_ok _ ho.1 ho.2
    have hb := opds_back h
    rw [List.map_cons, mkB_of, List.map_map]
    have em : (plcL (opW a)).map (mkB ∘ fun p => (opdS p (fv (rdW a) (rs1W a) (rs2W a) (immW a) p)).data.toList) = (plcL (opW a)).map fun p => opdS p (fv (rdW a) (rs1W a) (rs2W a) (immW a) p) :=
      List.map_congr_left fun p _ => mkB_of _
    rw [em]
    have hs : stmtO (opM 48) (nameS (opW a)) ((plcL (opW a)).map fun p => opdS p (fv (rdW a) (rs1W a) (rs2W a) (immW a) p)) = some (stI (opW a) (rdW a) (rs1W a) (rs2W a) (immW a)) := by
      unfold stmtO
      rw [if_neg k3, if_neg k4, k5]
      show instrO (opW a) _ = _
      unfold instrO
      rw [if_pos (by simp)]
      exact hb
    unfold readP markP
    simp only [k2, Bool.false_eq_true, if_false]
    unfold stmtP
    simp only [hs]
    rfl
  · rw [if_neg h, if_neg h]
    have hs : stmtO (opM 48) ⟨#[46, 119, 111, 114, 100]⟩ [itoS a] = some (wordSt a) := by
      have hw : withinO [itoS a] (-2147483648) 4294967295 = some a := by
        unfold withinO
        simp only [numO_itoS a (by omega) (by omega)]
        rw [if_pos (by omega)]
      unfold stmtO
      rw [if_pos rfl, hw]
      rfl
    have e1 : ([[46, 119, 111, 114, 100], (itoS a).data.toList] : List (List UInt8)).map mkB = [⟨#[46, 119, 111, 114, 100]⟩, itoS a] := by
      simp only [List.map_cons, List.map_nil, mkB_of]; rfl
    rw [e1]
    have k2 : Lib.hasSuffix (⟨#[46, 119, 111, 114, 100]⟩ : ByteArray).data.toList [58] = false := by decide
    unfold readP markP
    simp only [k2, Bool.false_eq_true, if_false]
    unfold stmtP
    simp only [hs]
    rfl
theorem step_back (a : Int) (h0 : 0 ≤ a) (h1 : a ≤ 4294967295) (n : Int) (M : ByteArray → Option Int) (out : List Int) : stepW M out { stA a with line := n } = some (out ++ [a]) := by
  unfold stepW stA
  by_cases h : validW a = true
  · have ho := valid_op h
    rw [if_pos h]
    show (if opW a = 0 then _ else _) = _
    rw [if_neg (by omega)]
    have hi : immO M out { stI (opW a) (rdW a) (rs1W a) (rs2W a) (immW a) with line := n } = some (immW a) := by
      unfold immO
      exact if_pos rfl
    rw [hi]
    show (if validP (opW a) (rdW a) (rs1W a) (rs2W a) (immW a) = true then some (out ++ [wordP (opW a) (rdW a) (rs1W a) (rs2W a) (immW a)]) else none) = _
    rw [if_pos (show validP (opW a) (rdW a) (rs1W a) (rs2W a) (immW a) = true from h), word_back a h0 h1 h]
  · rw [if_neg h]
    show some (out ++ List.replicate (1 : Int).toNat (a % 4294967296)) = _
    rw [show a % 4294967296 = a by omega]
    rfl

/-- the statements of shown words, from line n on -/
def stsA : Int → List Int → List St
  | _, [] => []
  | n, a :: r => { stA a with line := n } :: stsA (n + 1) r
def Ws (l : List Int) : Prop := ∀ a ∈ l, 0 ≤ a ∧ a ≤ 4294967295
theorem reads_back : ∀ (l : List Int), Ws l → ∀ (n : Int) (S : PSt) (t : List ByteArray), readsP (opM 48) n S (l.map showS ++ t) = readsP (opM 48) (n + l.length) { S with sts := S.sts ++ stsA n l, len := S.len + l.length } t
  | [], _, n, S, t => by simp [stsA]
  | a :: r, h, n, S, t => by
    have ha := h a (by simp)
    rw [List.map_cons, List.cons_append]
    conv => lhs; unfold readsP
    rw [read_back a ha.1 ha.2]
    simp only
    rw [reads_back r (fun x hx => h x (by simp [hx]))]
    simp only [stsA, List.append_assoc, List.singleton_append, List.length_cons, Int.natCast_add, Int.natCast_one]
    rw [show n + 1 + (r.length : Int) = n + ((r.length : Int) + 1) by omega, show S.len + 1 + (r.length : Int) = S.len + ((r.length : Int) + 1) by omega]
theorem words_back (M : ByteArray → Option Int) : ∀ (l : List Int), Ws l → ∀ (n : Int) (out : List Int), wordsP M out (stsA n l) = .ok (out ++ l)
  | [], _, n, out => by simp [stsA, wordsP]
  | a :: r, h, n, out => by
    have ha := h a (by simp)
    unfold stsA wordsP
    rw [step_back a ha.1 ha.2]
    simp only
    rw [words_back M r (fun x hx => h x (by simp [hx]))]
    simp

/-- the text that shows words -/
def flatA : List Int → List UInt8
  | [] => []
  | a :: r => (showS a).data.toList ++ 10 :: flatA r
def textA (l : List Int) : List UInt8 := [35, 32, 98, 101, 103, 105, 110, 115] ++ 10 :: flatA l
theorem lines_flat : ∀ (l : List Int), linesL (mkB (flatA l)) = l.map showS ++ [mkB []]
  | [] => lines_last [] (by simp)
  | a :: r => by
    unfold flatA
    rw [lines_cons _ _ (show_signs a).1, lines_flat r, mkB_of]
    rfl
theorem flat_len : ∀ (l : List Int), Ws l → (flatA l).length ≤ 50 * l.length
  | [], _ => by simp [flatA]
  | a :: r, h => by
    have ha := h a (by simp)
    have h1 := show_len a ha.1 ha.2
    have h2 := flat_len r (fun x hx => h x (by simp [hx]))
    have h3 : (showS a).data.toList.length = (showS a).size := by rw [Array.length_toList]; rfl
    unfold flatA
    simp only [List.length_append, List.length_cons]
    omega
theorem build_back (l : List Int) (h : Ws l) (hl : l.length ≤ 1000) : ∃ M, buildO (mkB (textA l)) 0 = .ok l M := by
  have hlen := flat_len l h
  have hsz : ¬ 65536 < (mkB (textA l)).size := by
    rw [mkB_size]
    unfold textA
    simp only [List.length_append, List.length_cons, List.length_nil]
    omega
  have hlines : linesL (mkB (textA l)) = mkB [35, 32, 98, 101, 103, 105, 110, 115] :: (l.map showS ++ [mkB []]) := by
    unfold textA
    rw [lines_cons _ _ (by decide), lines_flat]
  have w1 : wordsL (mkB [35, 32, 98, 101, 103, 105, 110, 115]) = [] := by decide +kernel
  have w2 : wordsL (mkB []) = [] := by decide +kernel
  have hr : readsP (opM 48) 0 ⟨fun _ => none, [], 0⟩ (linesL (mkB (textA l))) = .ok ⟨fun _ => none, stsA 1 l, (l.length : Int)⟩ := by
    rw [hlines]
    unfold readsP
    rw [w1]
    show readsP (opM 48) (0 + 1) ⟨fun _ => none, [], 0⟩ (l.map showS ++ [mkB []]) = _
    rw [reads_back l h]
    unfold readsP
    rw [w2]
    show readsP (opM 48) _ _ [] = _
    unfold readsP
    simp
  refine ⟨fun _ => none, ?_⟩
  unfold buildO
  rw [if_neg (by omega), if_neg hsz, hr]
  simp only
  rw [if_neg (by omega), words_back _ l h]
  simp
theorem build_one (a : Int) (h0 : 0 ≤ a) (h1 : a ≤ 4294967295) : ∃ M, buildO (showS a) 0 = .ok [a] M := by
  have hlen := show_len a h0 h1
  have hW : Ws [a] := by intro x hx; simp at hx; subst hx; exact ⟨h0, h1⟩
  have hlines : linesL (showS a) = [a].map showS ++ [] := by
    have := lines_last (showS a).data.toList (show_signs a).1
    rw [mkB_of] at this
    rw [this]; rfl
  have hr : readsP (opM 48) 0 ⟨fun _ => none, [], 0⟩ (linesL (showS a)) = .ok ⟨fun _ => none, stsA 0 [a], 1⟩ := by
    rw [hlines, reads_back [a] hW]
    unfold readsP
    simp
  refine ⟨fun _ => none, ?_⟩
  unfold buildO
  rw [if_neg (by omega), if_neg (by omega), hr]
  simp only
  rw [if_neg (by omega), words_back _ [a] hW]
  simp
theorem show_ecall : showS (42 * 67108864) = ⟨#[101, 99, 97, 108, 108]⟩ := by decide +kernel
theorem build_ecall : ∃ M, buildO ⟨#[101, 99, 97, 108, 108]⟩ 0 = .ok [42 * 67108864] M := by
  rw [← show_ecall]
  exact build_one _ (by decide) (by decide)
end Go.Proofs.YtopankjjlapfbaaGreatDoor
namespace Go.Proofs.YtopankjjlapfbaaGreatDoor
open Go.RowKit
set_option linter.unusedVariables false
set_option maxRecDepth 100000

/-- a slice of words with these numbers -/
def SLU (w : World) (a : Option Addr) (n : Nat) (zs : List Int) : Prop :=
  zs.length = n ∧ Ws zs ∧ (n = 0 ∨ ∃ B off, a = some ⟨B, off, none⟩ ∧ B < w.heap.size ∧ ∀ i, i < n → w.cell? ⟨B, off + i, none⟩ = some (.int .u32 (zs.getD i 0)))
theorem SLU.below {w w' : World} {a : Option Addr} {n : Nat} {zs : List Int} (h : SLU w a n zs) (hb : Below w.heap.size w w') : SLU w' a n zs := by
  obtain ⟨h1, h2, h3⟩ := h
  refine ⟨h1, h2, ?_⟩
  rcases h3 with h3 | ⟨B, off, rfl, hlt, hc⟩
  · exact .inl h3
  · exact .inr ⟨B, off, rfl, Nat.lt_of_lt_of_le hlt hb.size, fun i hi => (hb.cell (p := ⟨B, off + i, none⟩) hlt).trans (hc i hi)⟩
theorem SLU.short {w : World} {a : Option Addr} {n : Nat} {zs : List Int} (h : SLU w a n zs) (m : Nat) (hm : m ≤ n) : SLU w a m (zs.take m) := by
  obtain ⟨h1, h2, h3⟩ := h
  refine ⟨by simp; omega, fun x hx => h2 x (List.mem_of_mem_take hx), ?_⟩
  rcases h3 with h3 | ⟨B, off, rfl, hlt, hc⟩
  · exact .inl (by omega)
  · refine .inr ⟨B, off, rfl, hlt, fun i hi => ?_⟩
    rw [hc i (by omega)]
    simp [List.getD, hi]
theorem flat_snoc (a : Int) : ∀ (l : List Int), flatA (l ++ [a]) = flatA l ++ ((showS a).data.toList ++ [10])
  | [] => by simp [flatA]
  | b :: r => by
    show (showS b).data.toList ++ 10 :: flatA (r ++ [a]) = ((showS b).data.toList ++ 10 :: flatA r) ++ _
    rw [flat_snoc a r]
    simp
theorem text_snoc (l : List Int) (a : Int) : mkB (textA (l ++ [a])) = mkB (textA l) ++ showS a ++ ⟨#[10]⟩ := by
  apply ByteArray.ext
  unfold textA
  rw [flat_snoc]
  simp [mkB]
theorem text_len (l : List Int) (h : Ws l) (hl : l.length ≤ 1000) : (mkB (textA l)).size ≤ 50009 := by
  have hlen := flat_len l h
  rw [mkB_size]
  unfold textA
  simp only [List.length_append, List.length_cons, List.length_nil]
  omega
theorem ws_take {l : List Int} (h : Ws l) (k : Nat) : Ws (l.take k) := fun x hx => h x (List.mem_of_mem_take hx)
theorem ws_get {l : List Int} (h : Ws l) (k : Nat) (hk : k < l.length) : 0 ≤ l.getD k 0 ∧ l.getD k 0 ≤ 4294967295 := by
  have : l.getD k 0 = l[k] := by simp [List.getD, List.getElem?_eq_getElem hk]
  rw [this]
  exact h _ (List.getElem_mem hk)
theorem take_snoc (l : List Int) (k : Nat) (hk : k < l.length) : l.take (k + 1) = l.take k ++ [l.getD k 0] := by
  rw [List.take_add_one, List.getElem?_eq_getElem hk]
  simp [List.getD, List.getElem?_eq_getElem hk]
/-- the cells of words that are the call's own -/
theorem WR.cells {wS w : World} {v : Value} {out : List Int} (h : WR wS w v out) : ∃ a cap, v = .slice a out.length cap ∧ out.length ≤ cap ∧ (out.length = 0 ∨ ∃ g, a = some ⟨g, 0, none⟩ ∧ g < w.heap.size ∧ ∀ i, i < out.length → w.cell? ⟨g, i, none⟩ = some (.int .u32 (out.getD i 0))) := by
  have hr := h.row
  rcases hr.2 with ⟨rfl, hn⟩ | ⟨g, cap, cur, rfl, _, _, hn, _⟩
  · exact ⟨none, 0, by rw [hn], by omega, .inl hn⟩
  · refine ⟨_, cap, rfl, hn, .inr ⟨g, rfl, (hr.lt g rfl).2, fun i hi => ?_⟩⟩
    rw [hr.cellAt i (by omega)]
    simp [List.getElem?_eq_getElem hi]

set_option maxHeartbeats 1600000 in
theorem back_walk (a : Option Addr) (len cap : Nat) (zs0 : List Int) (w : World) (hs : SLU w a len zs0) (hcap : len ≤ cap) (hcm : cap ≤ 9223372036854775807) (he : Errs w) (hl : Lies w) (hg : ErT w) :
    Calls Tryz.prog 4 #[.slice a len cap] w fun e w' => e = .returned (.bool true) ∧ Below w.heap.size w w' := by
  obtain ⟨n, zs, hn, hS, hnv, hncap⟩ : ∃ (n : Nat) (zs : List Int), n ≤ 1000 ∧ SLU w a n zs ∧ n = min len 1000 ∧ n ≤ cap := by
    rcases Nat.lt_or_ge 1000 len with h | h
    · exact ⟨1000, _, by omega, hs.short 1000 (by omega), by omega, by omega⟩
    · exact ⟨len, _, by omega, hs, by omega, by omega⟩
  have hlt1 : 1 < w.heap.size := by have := he.big; omega
  have ET : ∀ {w' : World}, Below w.heap.size w w' → ErT w' := fun {w'} hb => by unfold ErT; rw [hb.cell (p := ⟨1, 0, none⟩) hlt1]; exact hg
  have hzl := hS.1
  have hW := hS.2.1
  obtain ⟨M, hB⟩ := build_back zs hW (by omega)
  obtain ⟨M2, hB2⟩ := build_ecall
  have A1 := fun (y : World) (hb : Below w.heap.size w y) => assemble_any (mkB (textA zs)) 0 (by decide) y (he.below hb) (hl.below hb) (ET hb)
  have A2 := fun (y : World) (hb : Below w.heap.size w y) => assemble_any ⟨#[101, 99, 97, 108, 108]⟩ 0 (by decide) y (he.below hb) (hl.below hb) (ET hb)
  rw [hB] at A1
  rw [hB2] at A2
  have htn : mkB (textA ([] : List Int)) = ⟨#[35, 32, 98, 101, 103, 105, 110, 115, 10]⟩ := rfl
  clear hs hB hB2
  rcases Nat.lt_or_ge 1000 len with hgt | hgt
  case' inl =>
    obtain rfl : n = 1000 := by omega
    clear hnv
    have hdec : decide ((1000 : Int) < (len : Int)) = true := decide_eq_true (by omega)
    have hdec2 : decide (1000 < len) = true := decide_eq_true (by omega)
  case' inr =>
    obtain rfl : n = len := by omega
    clear hnv
  all_goals
    have HZL : Hid (zs.length = _) := hzl
    clear hzl
    go_enter Tryz.func4, Tryz.ntmps4
    go_wp2_with fail
    clear hgt
    go_loopw [3, 4] (fun t i wr => ∃ k : Nat, k ≤ zs.length ∧ i = .int .i64 k ∧ t = .string (mkB (textA (zs.take k))) ∧ Below w.heap.size w wr) (fun _ i _ => zs.length - (intOf i).toNat)
    case atStart => exact ⟨0, by omega, rfl, by rw [List.take_zero, htn], Below.refl _ _⟩
    case round =>
      obtain ⟨k, hk, rfl, rfl, hb⟩ := hrel
      by_cases hlt : k < zs.length
      · have hkn := hlt
        rw [HZL.out] at hkn
        have hSr := hS.below hb
        rcases hSr.2.2 with h00 | ⟨B, off, rfl, hBl, hcells⟩
        · omega
        have hck := hcells k hkn
        have hz := ws_get hW k hlt
        have SH := show_any (zs.getD k 0) hz.1 hz.2 wr (hl.below hb)
        have hsl := show_len (zs.getD k 0) hz.1 hz.2
        have htl := text_len (zs.take k) (ws_take hW k) (by simp; omega)
        have HTX : Hid (mkB (textA (zs.take (k + 1))) = mkB (textA (zs.take k)) ++ showS (zs.getD k 0) ++ ⟨#[10]⟩) := by
          show _ = _
          rw [take_snoc zs k hlt, text_snoc]
        have HB : Hid (_) := hb
        clear hSr hcells hb
        generalize mkB (textA (zs.take k)) = T at *
        generalize showS (zs.getD k 0) = Sh at *
        generalize zs.getD k 0 = z at *
        go_wp2_with fail
        refine SH.mono ?_
        rintro e y1 ⟨rfl, hy⟩
        have hby : Below w.heap.size w y1 := HB.out.trans (hy.mono HB.out.size)
        go_wp2_with fail
        go_roundw
        case rel => exact ⟨k + 1, by omega, by go_num, by rw [HTX.out], hby⟩
        case measure => simp [intOf]; omega
      · obtain rfl : k = zs.length := by omega
        have hkn := HZL.out
        rw [List.take_of_length_le (Nat.le_refl _)]
        go_wp2_with fail
        refine (A1 wr hb).mono ?_
        rintro e y1 ⟨hb1, v1, rfl, R1⟩
        have hby1 : Below w.heap.size w y1 := hb.trans (hb1.mono hb.size)
        obtain ⟨a1, cap1, rfl, hcap1, hcells1⟩ := R1.cells
        have hS1 := hS.below hby1
        clear A1 R1 hb1 hb
        rw [HZL.out]
        go_wp2_with fail
        go_loopw [8] (fun i wq => ∃ k : Nat, k ≤ zs.length ∧ i = .int .i64 k ∧ Below y1.heap.size y1 wq) (fun i _ => zs.length - (intOf i).toNat)
        case atStart => exact ⟨0, by omega, rfl, Below.refl _ _⟩
        case round =>
          obtain ⟨k, hk, rfl, hbq⟩ := hrel
          by_cases hlt : k < zs.length
          · have hkn := hlt
            rw [HZL.out] at hkn
            rcases hcells1 with h00 | ⟨g1, rfl, hg1, hc1⟩
            · omega
            rcases hS1.2.2 with h00 | ⟨B, off, rfl, hBl, hcells⟩
            · omega
            have r1 := (hbq.cell (p := ⟨g1, k, none⟩) hg1).trans (hc1 k hlt)
            have r2 := (hbq.cell (p := ⟨B, off + k, none⟩) hBl).trans (hcells k hkn)
            have l1 := Nat.lt_of_lt_of_le hg1 hbq.size
            have l2 := Nat.lt_of_lt_of_le hBl hbq.size
            have HB : Hid (_) := hbq
            clear hbq hc1 hcells hS hS1
            generalize zs.getD k 0 = z at *
            have i1 : (0 : Int) ≤ (k : Int) ∧ (k : Int) < (zs.length : Int) := by omega
            go_wp2_with fail
            go_quiet (fail)
            go_wp2_with fail
            go_roundw
            case rel => exact ⟨k + 1, by omega, by go_num, below_drewN HB.out _⟩
            case measure => simp [intOf]; omega
          · obtain rfl : k = zs.length := by omega
            have hbz : Below w.heap.size w wr := hby1.trans (hbq.mono hby1.size)
            have A3 := A2 wr hbz
            go_wp2_with fail
            refine A3.mono ?_
            rintro e y2 ⟨hb2, v2, rfl, R2⟩
            obtain ⟨a2, cap2, rfl, _, _⟩ := R2.cells
            have hby2 : Below w.heap.size w y2 := hbz.trans (hb2.mono hbz.size)
            clear A2 A3 R2 hb2
            go_wp2_with fail
            go_ret
            exact ⟨rfl, hby2⟩
end Go.Proofs.YtopankjjlapfbaaGreatDoor
namespace Go.Proofs.YtopankjjlapfbaaGreatDoor.asmBack
open Go.ChangeShapes Go.WideShapes Go.ChangeAt Go.RowKit
set_option linter.unusedVariables false
theorem laidOut : laidOutB Tryz.prog = true := by kernel_rfl
set_option maxRecDepth 100000 in
theorem lifted (os : Os) (started : os.Started) (H : Type) (enc : TypeId × Value → H) :
    ReturnsInHanded {} Tryz.checked os 4 .any (fun w args => (Rows.asmBackSpec.pre enc Tryz.prog Tryz.f4 [] false w args ∧ laidMetH Tryz.prog Rows.asmBackRow.laid w) ∧ sizedMet enc Tryz.prog Tryz.f4 (OpenSpec.ofChange Rows.asmBackSpec) false w args)
      (Rows.asmBackSpec.post enc Tryz.prog Tryz.f4 false true false false) := by
  refine row_of started (by kernel_rfl) Tryz.func4
    (ChangeSpec.witness_shaped (enc := enc) (C := Tryz.checked) (os := os) (X := fun w _ => laidMetH Tryz.prog Rows.asmBackRow.laid w) false (startW os) #[.slice none 0 0] 8 (startW_os os) (start_shaped os _) (by kernel_rfl) (by kernel_rfl) (by kernel_rfl) (start_met os _)) ?_
  intro W base args ds gs before hval0 hW _ hL hsh
  have hval : ∀ (j : Nat) t v, Tryz.f4.params[j]? = some t → args[j]? = some v → Value.okWide Tryz.prog W .any base t v := hval0
  have hW' := hW
  obtain ⟨p, q, hA0, hV, rfl, hfz, hnd⟩ := hW
  have hA : DataW.TrodAll enc Tryz.prog W 0 (fun _ => true) true Tryz.f4.params.toList args.toList ds p := hA0
  rw [Tryz.params4] at hA hval
  obtain ⟨v0, vs0, d0, ds0, p0, q0, hargs, rfl, rfl, h0, r0⟩ := trodAll_cons hA
  obtain ⟨rfl, rfl, rfl⟩ := trodAll_nil r0
  obtain rfl : args = #[v0] := by cases args; simp_all
  obtain ⟨rfl, rfl⟩ := trodVars_none hV
  obtain ⟨a, len, cap, rfl⟩ := okWide_slice Tryz.underlying23 (hval 0 23 v0 rfl rfl)
  have k0 := h0
  have lt0 : ∀ x ∈ p0, x.block < W.heap.size := by obtain ⟨m, hm⟩ := k0; exact DataW.trod_lt m _ _ _ hm
  obtain ⟨zs, hsl, hle, hmx⟩ : ∃ zs, SLU W a len zs ∧ len ≤ cap ∧ cap ≤ maxLen := by
    obtain ⟨fuel, hf⟩ := h0
    rcases open_ints Tryz.underlying23 Tryz.underlying31 (by kernel_rfl) hf with ⟨hcs, _⟩ | ⟨x, l, c, zs, hcs, _, hl, hm, hz, hx, hcell, hwz⟩
    · simp [Value.cells] at hcs
      obtain ⟨rfl, rfl, rfl⟩ := hcs
      exact ⟨[], ⟨rfl, (by intro y hy; cases hy), .inl rfl⟩, by omega, by omega⟩
    · simp [Value.cells] at hcs
      obtain ⟨rfl, rfl, rfl⟩ := hcs
      have hz' : zs.length = cap := by simpa using hz
      refine ⟨zs.take len, ⟨by simp; omega, fun y hy => bounds_u32 (hwz y (List.mem_of_mem_take hy)), ?_⟩, hl, hm⟩
      rcases Nat.eq_zero_or_pos len with h00 | hpos
      · exact .inl h00
      · have hc0 := hcell 0 (by omega)
        have hx0 : x.add 0 = x := by cases x; simp [Addr.add]
        rw [hx0] at hc0
        obtain ⟨B, off, rfl⟩ : ∃ B off, x = ⟨B, off, none⟩ := by
          obtain ⟨b, off, sp⟩ := x
          cases sp with
          | none => exact ⟨b, off, rfl⟩
          | some s => simp only [World.cell?] at hc0; split at hc0 <;> cases hc0
        refine .inr ⟨B, off, rfl, World.block_lt_of_cell? W _ hc0, fun i hi => ?_⟩
        have hplain : (⟨B, off, none⟩ : Addr).add i = ⟨B, off + i, none⟩ := by unfold Addr.add; split <;> simp_all
        have := hcell i (by omega)
        rw [hplain] at this
        rw [this]
        simp [List.getD, hi]
  clear hA0 hval0
  refine (back_walk a len cap zs W hsl hle (by unfold maxLen at hmx; omega) (errs_of_laid hL hsh) (lies_of_laid hL) (et_of_laid hL)).mono fun e W' ⟨he, bel⟩ => ?_
  subst he
  exact ⟨_, rfl, _, _, _, [], _, [], hW', trodAll_mk1 (shut_bool Tryz.underlying4 _), (trodAll_cons_mk (Below.trod laidOut (by kernel_rfl) (of_decide_eq_true (by kernel_rfl)) k0 bel lt0) trodAll_mk0), rfl, bel.frame _, fun h => by cases h⟩

theorem over : Rows.AsmBackSaid :=
  OpenClaim.holds_of_wide 4 Tryz.f4 rfl rfl rfl rfl rfl rfl rfl ⟨rfl, rfl, rfl, rfl, rfl⟩ rfl rfl rfl rfl rfl (by kernel_rfl) Tryz.func4 (by kernel_rfl)
    (of_decide_eq_true (by kernel_rfl)) (by unfold Func.isWrapper; first | (rw [if_pos (by decide +kernel)]; kernel_rfl) | (rw [if_neg (by decide +kernel)]; exact ⟨rfl, rfl⟩))
    (fun os started H enc _ => lifted os started H enc)
end Go.Proofs.YtopankjjlapfbaaGreatDoor.asmBack
namespace Go.Proofs.YtopankjjlapfbaaGreatDoor
open Go
theorem asmBack_holds : Rows.AsmBackCardSaid :=
  Claim7.holds_tied_plain_at .later [] [.data, .data, .data, .data, .handle, .sentinel, .sentinel, .data, .pinned] true (true, "2e6c8ed37ac871d4366d35af448731317a7c27e9dc945c2019c2a4bf62d9e3e4") true
    asmBack.over (fun _ h => by cases h) (by kernel_rfl) (fun _ h => by cases h) asmBack_row_tie rfl ⟨rfl, rfl⟩ (by kernel_rfl) rfl
    (fun f fn hf hfn => by
      obtain rfl : f = 4 := Option.some.inj ((show Tryz.prog.funcNamed Rows.asmBackRow.func = some 4 by kernel_rfl).symm.trans hf) |>.symm
      obtain rfl : fn = Tryz.f4 := (Option.some.inj (Tryz.func4.symm.trans hfn)).symm
      exact ⟨by kernel_rfl, fun j t ht => by
        rw [Tryz.params4] at ht
        have hm : t ∈ [23] := by simpa using Array.mem_of_getElem? ht
        have hall : ([23].all fun u => !Tryz.prog.wantsStandIn u) = true := by kernel_rfl
        exact (show Tryz.prog.wantsStandIn t = false by simpa using List.all_eq_true.1 hall t hm)⟩)
    (by kernel_rfl)
#print axioms asmBack_holds
end Go.Proofs.YtopankjjlapfbaaGreatDoor
