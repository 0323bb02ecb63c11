/-
  Words with one blank between them: what is told of such a line.
  A number written in decimals is read as itself.
-/
import Derived.Test.YtopankjjlapfbaaGreatDoorSplit
import Derived.Laws.RangeString
import Derived.Test.YtopankjjlapfbaaGreatDoorAsm
import Derived.Test.YtopankjjlapfbaaGreatDoorDec
import Derived.Lib.AtoiTie
namespace Go.Proofs.YtopankjjlapfbaaGreatDoor
set_option linter.unusedVariables false
set_option maxRecDepth 100000

/-- words, one blank between two -/
def joinW : List (List UInt8) → List UInt8
  | [] => []
  | [w] => w
  | w :: r => w ++ 32 :: joinW r
/-- a word: some signs, none of them a gap -/
def WordOk (w : List UInt8) : Prop := w ≠ [] ∧ ∀ c ∈ w, c.toNat < 128 ∧ gapB c.toNat = false

theorem dec_at (l : List UInt8) (pos : Nat) (c : UInt8) (hc : l[pos]? = some c) (ha : c.toNat < 128) : Utf8.decode ⟨l.toArray⟩ pos = (c.toNat, 1) ∧ pos < (⟨l.toArray⟩ : ByteArray).size := by
  have hlt : pos < l.length := (List.getElem?_eq_some_iff.1 hc).1
  have hs : pos < (⟨l.toArray⟩ : ByteArray).size := by show pos < l.toArray.size; simpa using hlt
  have he : (⟨l.toArray⟩ : ByteArray)[pos]'hs = c := by
    show l.toArray[pos] = c
    simpa using (List.getElem?_eq_some_iff.1 hc).2
  have h := decode_ascii ⟨l.toArray⟩ pos hs (by rw [he]; exact ha)
  rw [he] at h
  exact ⟨h, hs⟩

theorem in_word (l : List UInt8) : ∀ (w : List UInt8) (pos f a : Nat) (acc : List (Nat × Nat)), (∀ c ∈ w, c.toNat < 128 ∧ gapB c.toNat = false) → (∀ i, i < w.length → l[pos + i]? = w[i]?) →
    Lib.spansFromP gapB ⟨l.toArray⟩ (w.length + f) pos (some a) acc = Lib.spansFromP gapB ⟨l.toArray⟩ f (pos + w.length) (some a) acc
  | [], pos, f, a, acc, hw, hl => by simp
  | c :: w, pos, f, a, acc, hw, hl => by
    have h0 := hl 0 (by simp)
    simp at h0
    obtain ⟨hd, hs⟩ := dec_at l pos c h0 (hw c (by simp)).1
    have ih := in_word l w (pos + 1) f a acc (fun x hx => hw x (by simp [hx])) (fun i hi => by
      have := hl (i + 1) (by simp; omega)
      rw [show pos + 1 + i = pos + (i + 1) by omega, this]
      simp)
    rw [show (c :: w).length + f = (w.length + f) + 1 by simp; omega, Lib.spansFromP, if_pos hs, hd]
    simp only [(hw c (by simp)).2, Bool.false_eq_true, if_false]
    rw [ih]
    congr 1
    simp
    omega
theorem at_word (l : List UInt8) (w : List UInt8) (hw : WordOk w) (pos f : Nat) (acc : List (Nat × Nat)) (hl : ∀ i, i < w.length → l[pos + i]? = w[i]?) :
    Lib.spansFromP gapB ⟨l.toArray⟩ (w.length + f) pos none acc = Lib.spansFromP gapB ⟨l.toArray⟩ f (pos + w.length) (some pos) acc := by
  obtain ⟨hne, hc⟩ := hw
  cases w with
  | nil => exact absurd rfl hne
  | cons c w =>
    have h0 := hl 0 (by simp)
    simp at h0
    obtain ⟨hd, hs⟩ := dec_at l pos c h0 (hc c (by simp)).1
    have ih := in_word l w (pos + 1) f pos acc (fun x hx => hc x (by simp [hx])) (fun i hi => by
      have := hl (i + 1) (by simp; omega)
      rw [show pos + 1 + i = pos + (i + 1) by omega, this]
      simp)
    rw [show (c :: w).length + f = (w.length + f) + 1 by simp; omega, Lib.spansFromP, if_pos hs, hd]
    simp only [(hc c (by simp)).2, Bool.false_eq_true, if_false]
    rw [ih]
    congr 1
    simp
    omega
theorem at_gap (l : List UInt8) (pos f a : Nat) (acc : List (Nat × Nat)) (h : l[pos]? = some 32) :
    Lib.spansFromP gapB ⟨l.toArray⟩ (f + 1) pos (some a) acc = Lib.spansFromP gapB ⟨l.toArray⟩ f (pos + 1) none (acc ++ [(a, pos)]) := by
  obtain ⟨hd, hs⟩ := dec_at l pos 32 h (by decide)
  rw [Lib.spansFromP, if_pos hs, hd]
  simp [gapB]

theorem fields_at : ∀ (ws : List (List UInt8)) (pre : List UInt8) (acc : List (Nat × Nat)), ws ≠ [] → (∀ w ∈ ws, WordOk w) →
    (Lib.closeSpans ⟨(pre ++ joinW ws).toArray⟩ (Lib.spansFromP gapB ⟨(pre ++ joinW ws).toArray⟩ (joinW ws).length pre.length none acc)).map (fun x => (⟨(pre ++ joinW ws).toArray⟩ : ByteArray).extract x.1 x.2) =
      acc.map (fun x => (⟨(pre ++ joinW ws).toArray⟩ : ByteArray).extract x.1 x.2) ++ ws.map (fun w => ⟨w.toArray⟩)
  | [], pre, acc, hne, hw => absurd rfl hne
  | [w], pre, acc, hne, hw => by
    have hl : ∀ i, i < w.length → (pre ++ joinW [w])[pre.length + i]? = w[i]? := fun i hi => by
      show (pre ++ w)[pre.length + i]? = _
      rw [List.getElem?_append_right (by omega)]
      congr 1
      omega
    have h1 := at_word (pre ++ joinW [w]) w (hw w (by simp)) pre.length 0 acc hl
    have hsz : ¬ pre.length + w.length < (⟨(pre ++ joinW [w]).toArray⟩ : ByteArray).size := by
      show ¬ _ < (pre ++ w).toArray.size
      simp
    rw [show (joinW [w]).length = w.length + 0 from rfl, h1, Lib.spansFromP_end _ _ _ _ _ _ hsz]
    unfold Lib.closeSpans
    simp
    apply ByteArray.ext
    simp [joinW, ByteArray.size]
  | w :: v :: r, pre, acc, hne, hw => by
    have hj : joinW (w :: v :: r) = w ++ 32 :: joinW (v :: r) := rfl
    have hl : ∀ i, i < w.length → (pre ++ joinW (w :: v :: r))[pre.length + i]? = w[i]? := fun i hi => by
      rw [hj, List.getElem?_append_right (by omega), show pre.length + i - pre.length = i by omega, List.getElem?_append_left hi]
    have hg : (pre ++ joinW (w :: v :: r))[pre.length + w.length]? = some 32 := by
      rw [hj, List.getElem?_append_right (by omega), show pre.length + w.length - pre.length = w.length by omega, List.getElem?_append_right (by omega)]
      simp
    have h1 := at_word (pre ++ joinW (w :: v :: r)) w (hw w (by simp)) pre.length ((joinW (v :: r)).length + 1) acc hl
    have ih := fields_at (v :: r) (pre ++ w ++ [32]) (acc ++ [(pre.length, pre.length + w.length)]) (by simp) (fun x hx => hw x (by simp at hx ⊢; right; exact hx))
    have hpre : pre ++ w ++ [32] ++ joinW (v :: r) = pre ++ joinW (w :: v :: r) := by rw [hj]; simp
    have hpl : (pre ++ w ++ [32]).length = pre.length + w.length + 1 := by simp; omega
    rw [hpre, hpl] at ih
    rw [show (joinW (w :: v :: r)).length = w.length + ((joinW (v :: r)).length + 1) by rw [hj]; simp, h1, at_gap _ _ _ _ _ hg, ih]
    simp
    apply ByteArray.ext
    rw [hj]
    simp
theorem fields_join (ws : List (List UInt8)) (hne : ws ≠ []) (hw : ∀ w ∈ ws, WordOk w) : Lib.goFieldsP gapB ⟨(joinW ws).toArray⟩ = ws.map fun w => ⟨w.toArray⟩ := by
  have h := fields_at ws [] [] hne hw
  unfold Lib.goFieldsP Lib.spansOfP
  rw [show (⟨(joinW ws).toArray⟩ : ByteArray).size = (joinW ws).length by show (joinW ws).toArray.size = _; simp]
  simpa using h
end Go.Proofs.YtopankjjlapfbaaGreatDoor
namespace Go.Proofs.YtopankjjlapfbaaGreatDoor
set_option linter.unusedVariables false
set_option maxRecDepth 100000

theorem decFrom_snoc : ∀ (l : List UInt8) (acc n : Nat) (d : Nat), Lib.decFrom acc l = some n → d < 10 → Lib.decFrom acc (l ++ [UInt8.ofNat (48 + d)]) = some (n * 10 + d)
  | [], acc, n, d, h, hd => by
    cases h
    have hv : (UInt8.ofNat (48 + d)).toNat = 48 + d := by simp; omega
    show (match Lib.digitVal (UInt8.ofNat (48 + d)) with | some e => Lib.decFrom (acc * 10 + e) [] | none => none) = _
    unfold Lib.digitVal
    rw [hv, if_pos (by omega)]
    simp [Lib.decFrom]
  | b :: r, acc, n, d, h, hd => by
    unfold Lib.decFrom at h
    show (match Lib.digitVal b with | some e => Lib.decFrom (acc * 10 + e) (r ++ [UInt8.ofNat (48 + d)]) | none => none) = _
    cases hb : Lib.digitVal b with
    | none => rw [hb] at h; cases h
    | some e =>
      rw [hb] at h
      exact decFrom_snoc r _ n d h hd
theorem decFrom_digits (u : Nat) : Lib.decFrom 0 (Lib.decDigits u) = some u := by
  induction u using Nat.strongRecOn with
  | _ u ih =>
    by_cases h : u < 10
    · rw [Lib.decDigits, dif_pos h]
      simpa using decFrom_snoc [] 0 0 u rfl h
    · rw [Lib.decDigits, dif_neg h, decFrom_snoc _ _ _ (u % 10) (ih (u / 10) (by omega)) (by omega)]
      congr 1
      omega
theorem digits_ne (u : Nat) : Lib.decDigits u ≠ [] := by
  rw [Lib.decDigits]
  split <;> simp
theorem digits_len (u k : Nat) (h : u < 10 ^ (k + 1)) : (Lib.decDigits u).length ≤ k + 1 := by
  induction k generalizing u with
  | zero => rw [Lib.decDigits, dif_pos (by simpa using h)]; simp
  | succ k ih =>
    rw [Lib.decDigits]
    split
    · simp
    · have := ih (u / 10) (by rw [Nat.pow_succ] at h; omega)
      simp
      omega
/-- the first digit: of a number above 0 it is none -/
theorem digits_head (u : Nat) (h1 : 1 ≤ u) : 49 ≤ ((Lib.decDigits u).headD 0).toNat := by
  induction u using Nat.strongRecOn with
  | _ u ih =>
    rw [Lib.decDigits]
    split
    · simp; omega
    · have := ih (u / 10) (by omega) (by omega)
      have hne := digits_ne (u / 10)
      cases hd : Lib.decDigits (u / 10) with
      | nil => exact absurd hd hne
      | cons c r => rw [hd] at this; simpa using this
theorem digits_chars (u : Nat) : ∀ c ∈ Lib.decDigits u, 48 ≤ c.toNat ∧ c.toNat ≤ 57 := by
  induction u using Nat.strongRecOn with
  | _ u ih =>
    intro c hc
    rw [Lib.decDigits] at hc
    split at hc
    · simp at hc
      subst hc
      simp
      omega
    · rcases List.mem_append.1 hc with h | h
      · exact ih (u / 10) (by omega) c h
      · simp at h
        subst h
        simp
        omega
theorem digits_cons (u : Nat) : ∃ c r, Lib.decDigits u = c :: r ∧ 48 ≤ c.toNat ∧ c.toNat ≤ 57 := by
  cases hd : Lib.decDigits u with
  | nil => exact absurd hd (digits_ne u)
  | cons c r => exact ⟨c, r, rfl, digits_chars u c (by rw [hd]; simp)⟩

theorem numO_nat (u : Nat) (h : u < 10 ^ 15) : numO ⟨(Lib.decDigits u).toArray⟩ = some (u : Int) := by
  by_cases h0 : u = 0
  · subst h0
    decide +kernel
  obtain ⟨c, r, hd, hc1, hc2⟩ := digits_cons u
  have hh := digits_head u (by omega)
  have hl := digits_len u 14 h
  have hf := decFrom_digits u
  unfold numO
  rw [if_neg (by
    intro e
    have e2 : Lib.decDigits u = [48] := by
      have := congrArg (fun b : ByteArray => b.data.toList) e
      simpa using this
    rw [e2] at hh
    exact absurd hh (by decide))]
  have ht : Lib.trimPrefix (Lib.decDigits u) [45] = Lib.decDigits u := by
    unfold Lib.trimPrefix Lib.hasPrefix
    rw [hd, if_neg]
    simp
    intro e
    rw [← e] at hc1
    exact absurd hc1 (by decide)
  show (if Lib.trimPrefix (Lib.decDigits u) [45] = [] ∨ 15 < (Lib.trimPrefix (Lib.decDigits u) [45]).length ∨ ((Lib.trimPrefix (Lib.decDigits u) [45]).headD 0).toNat < 49 then none else match Lib.atoiAll (Lib.decDigits u) with | .ok v => some v | _ => none) = _
  rw [ht, if_neg (by
    rintro (e | e | e)
    · exact digits_ne u e
    · omega
    · omega), Lib.atoiAll_short _ (by omega)]
  have ha : Lib.atoi (Lib.decDigits u) = some (u : Int) := by
    rw [hd] at hf ⊢
    unfold Lib.atoi
    have n1 : (c == 45) = false := by rw [beq_eq_false_iff_ne]; intro e; subst e; exact absurd hc1 (by decide)
    have n2 : (c == 43) = false := by rw [beq_eq_false_iff_ne]; intro e; subst e; exact absurd hc1 (by decide)
    simp [n1, n2, Lib.decNat, hf]
  rw [ha]
  rfl
theorem numO_neg (u : Nat) (h1 : 1 ≤ u) (h : u < 10 ^ 15) : numO ⟨(45 :: Lib.decDigits u).toArray⟩ = some (-(u : Int)) := by
  have hh := digits_head u h1
  have hl := digits_len u 14 h
  have hf := decFrom_digits u
  unfold numO
  rw [if_neg (by
    intro e
    have := congrArg (fun b : ByteArray => b.data.toList) e
    simp at this)]
  have ht : Lib.trimPrefix (45 :: Lib.decDigits u) [45] = Lib.decDigits u := by
    unfold Lib.trimPrefix Lib.hasPrefix
    simp
  show (if Lib.trimPrefix (45 :: Lib.decDigits u) [45] = [] ∨ 15 < (Lib.trimPrefix (45 :: Lib.decDigits u) [45]).length ∨ ((Lib.trimPrefix (45 :: Lib.decDigits u) [45]).headD 0).toNat < 49 then none else match Lib.atoiAll (45 :: Lib.decDigits u) with | .ok v => some v | _ => none) = _
  rw [ht, if_neg (by
    rintro (e | e | e)
    · exact digits_ne u e
    · omega
    · omega), Lib.atoiAll_short _ (by simp; omega)]
  have ha : Lib.atoi (45 :: Lib.decDigits u) = some (-(u : Int)) := by
    unfold Lib.atoi
    simp [Lib.decNat, hf, digits_ne]
  rw [ha]
  rfl
theorem numO_itoS (v : Int) (h0 : -1000000000000 ≤ v) (h1 : v ≤ 1000000000000) : numO (itoS v) = some v := by
  unfold itoS Lib.itoa
  by_cases h : v < 0
  · rw [if_pos h, numO_neg _ (by omega) (by omega)]
    congr 1
    omega
  · rw [if_neg h, numO_nat _ (by omega)]
    congr 1
    omega
theorem itoS_ok (v : Int) : WordOk (itoS v).data.toList := by
  have hd : ∀ u, ∀ c ∈ Lib.decDigits u, c.toNat < 128 ∧ gapB c.toNat = false := fun u c hc => by
    have := digits_chars u c hc
    refine ⟨by omega, ?_⟩
    unfold gapB
    simp
    omega
  unfold itoS Lib.itoa
  by_cases h : v < 0
  · rw [if_pos h]
    refine ⟨by simp, fun c hc => ?_⟩
    rcases List.mem_cons.1 hc with rfl | hc
    · exact ⟨by decide, by decide⟩
    · exact hd _ c hc
  · rw [if_neg h]
    exact ⟨digits_ne _, hd _⟩
theorem itoS_len (v : Int) (h0 : -9999999999 ≤ v) (h1 : v ≤ 9999999999) : (itoS v).size ≤ 11 := by
  unfold itoS Lib.itoa
  by_cases h : v < 0
  · rw [if_pos h]
    have := digits_len v.natAbs 9 (by omega)
    show (45 :: Lib.decDigits v.natAbs).toArray.size ≤ 11
    simp
    omega
  · rw [if_neg h]
    have := digits_len v.toNat 9 (by omega)
    show (Lib.decDigits v.toNat).toArray.size ≤ 11
    simp
    omega
theorem regO_itoS (v : Int) (h0 : 0 ≤ v) (h1 : v ≤ 15) : regO (⟨#[120]⟩ ++ itoS v) = some v := by
  have hc : v = 0 ∨ v = 1 ∨ v = 2 ∨ v = 3 ∨ v = 4 ∨ v = 5 ∨ v = 6 ∨ v = 7 ∨ v = 8 ∨ v = 9 ∨ v = 10 ∨ v = 11 ∨ v = 12 ∨ v = 13 ∨ v = 14 ∨ v = 15 := by omega
  rcases hc with rfl | rfl | rfl | rfl | rfl | rfl | rfl | rfl | rfl | rfl | rfl | rfl | rfl | rfl | rfl | rfl <;> decide +kernel
end Go.Proofs.YtopankjjlapfbaaGreatDoor
