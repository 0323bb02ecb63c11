/-
  A second stage that has pages: what a walk finds in it, over plain functions.
-/
import Derived.Test.YtbaagnfcdphddaaDoorWhole
namespace Go.Proofs.YtbaagnfcdphddaaDoor
open Go.RowKit
set_option linter.unusedVariables false
set_option maxRecDepth 20000

theorem en_num (v r w x u s d : Bool) (f : Int) (hm : mayP v r w x u s d f = true) (hv : v = true) :
    enOf (numP v r w x u s d f) = ⟨v, r, w, x, u, s, d, f⟩ ∧ unpackE (numP v r w x u s d f) = 0 := by
  have hf := may_frame hm
  obtain ⟨e0, e1, e2, e3, e4, e5, e6, e7⟩ := flag_num v r w x u s d f hf.1 hf.2
  have hp : isP (numP v r w x u s d f) = true := by
    unfold isP
    rw [e0, e1, e2, e3, e4, e5, e6, e7, hm]
    simp
  unfold enOf unpackE
  rw [hp, e0, e1, e2, e3, e4, e5, e6, e7, hv]
  exact ⟨rfl, rfl⟩
theorem en_zero : enOf 0 = En.zero ∧ unpackE 0 = 0 := by
  have h : flagP 0 0 = false := by decide
  unfold enOf unpackE
  rw [h]
  exact ⟨rfl, rfl⟩
theorem at_small (f p : Int) (h0 : 0 ≤ f) (h1 : f ≤ 72057594037927935) (hp : 0 ≤ p) (hp' : p < 32) : atP f p = f * 256 + p * 8 := by
  unfold atP
  rw [wraps_u64 (f * 256) (by omega) (by omega), wraps_u64 _ (by omega) (by omega)]
theorem read_num8 (zs : List Int) (hl : zs.length = 4096) (f p : Nat) (hf : f < 16) (hp : p < 32) (hu : unpackE (num8 zs (f * 256 + p * 8)) = 0) : readP zs f p = some (enOf (num8 zs (f * 256 + p * 8))) := by
  have e := at_small f p (by omega) (by omega) (by omega) (by omega)
  obtain ⟨e1, e2⟩ := load_num8 zs hl (f * 256 + p * 8) (by omega) (by omega)
  have e3 : atP f p = ((f * 256 + p * 8 : Nat) : Int) := by rw [e]; omega
  unfold readP
  rw [e3, e1, e2, if_pos ⟨by omega, rfl, hu⟩]

theorem root_num : rootS.num = numP true false false false false false false 1 ∧ rootS.at_ = 0 := by
  constructor
  · decide
  · decide
theorem page_num (i : Nat) (hi : i < 32) (f : Int) : (pageS i f).num = numP true true true true true false false (f % 256) ∧ (pageS i f).at_ = 256 + 8 * (i : Int) ∧ mayP true true true true true false false (f % 256) = true := by
  have hm : mayP true true true true true false false (f % 256) = true := by
    unfold mayP
    simp
    omega
  refine ⟨?_, ?_, hm⟩
  · unfold Sl.num pageS
    simp only [packE, packN, hm]
    simp
  · unfold Sl.at_ pageS
    simp only
    omega

theorem pages_mem : ∀ (fs : List Int) (i : Nat) (s : Sl), s ∈ pagesS i fs → ∃ k f, i ≤ k ∧ k < i + fs.length ∧ s = pageS k f
  | [], i, s, h => by cases h
  | f :: fs, i, s, h => by
    rcases List.mem_cons.1 h with rfl | h
    · exact ⟨i, f, Nat.le_refl _, by simp, rfl⟩
    · obtain ⟨k, f', h1, h2, h3⟩ := pages_mem fs (i + 1) s h
      exact ⟨k, f', by omega, by simp; omega, h3⟩
theorem pages_split : ∀ (fs : List Int) (i j : Nat) (f : Int), fs[j]? = some f → pagesS i fs = pagesS i (fs.take j) ++ pageS (i + j) f :: pagesS (i + j + 1) (fs.drop (j + 1))
  | [], i, j, f, h => by simp at h
  | g :: fs, i, 0, f, h => by
    obtain rfl : g = f := by simpa using h
    simp [pagesS]
  | g :: fs, i, j + 1, f, h => by
    have := pages_split fs (i + 1) j f (by simpa using h)
    simp only [pagesS, List.take_succ_cons, List.drop_succ_cons, List.cons_append]
    rw [this, show i + 1 + j = i + (j + 1) by omega]
theorem whole_rng (fs : List Int) : ∀ s ∈ wholeS fs, 0 ≤ s.raw ∧ s.raw < 18446744073709551616 := by
  intro s hs
  rcases List.mem_cons.1 hs with rfl | h
  · exact ⟨by decide, by decide⟩
  · obtain ⟨k, f, _, _, rfl⟩ := pages_mem _ _ _ h
    exact ⟨by simp [pageS], by simp [pageS]⟩

/-- the pages' places -/
theorem page_at_ne {fs : List Int} {i : Nat} {t : Int} (hi : i + fs.length ≤ 32) (ht : t < 256 ∨ t < 256 + 8 * (i : Int) ∨ 256 + 8 * ((i + fs.length : Nat) : Int) ≤ t) : ∀ s ∈ pagesS i fs, s.at_ ≠ t := by
  intro s hs
  obtain ⟨k, f, h1, h2, rfl⟩ := pages_mem _ _ _ hs
  rw [(page_num k (by omega) f).2.1]
  omega

theorem whole_root (fs : List Int) : num8 (memOf (wholeS fs)) 0 = numP true false false false false false false 1 := by
  have := num8_at [] rootS (pagesS 0 (fs.take 32)) (whole_rng fs) 0 (by decide) root_num.2 (page_at_ne (t := ((0 : Nat) : Int)) (by simp; omega) (by omega))
  rw [root_num.1] at this
  exact this
theorem whole_root1 (fs : List Int) : num8 (memOf (wholeS fs)) 8 = 0 := by
  refine num8_none _ (whole_rng fs) 8 (by decide) ?_
  intro s hs
  rcases List.mem_cons.1 hs with rfl | h
  · rw [root_num.2]; decide
  · exact page_at_ne (by simp; omega) (by omega) s h
theorem whole_page (fs : List Int) (j : Nat) (f : Int) (hj : j < 32) (hf : fs[j]? = some f) : num8 (memOf (wholeS fs)) (256 + j * 8) = numP true true true true true false false (f % 256) := by
  have hlt := (List.getElem?_eq_some_iff.1 hf).1
  have hs := pages_split (fs.take 32) 0 j f (by rw [List.getElem?_take_of_lt hj]; exact hf)
  have e : wholeS fs = (rootS :: pagesS 0 ((fs.take 32).take j)) ++ pageS j f :: pagesS (j + 1) ((fs.take 32).drop (j + 1)) := by
    unfold wholeS
    rw [hs]
    simp
  have hr := whole_rng fs
  rw [e] at hr ⊢
  have := num8_at _ (pageS j f) _ hr (256 + j * 8) (by omega) (by rw [(page_num j hj f).2.1]; omega) (page_at_ne (by simp; omega) (by omega))
  rw [this]
  exact (page_num j hj f).1
theorem whole_nopage (fs : List Int) (j : Nat) (hj : j < 32) (hf : fs.length ≤ j) : num8 (memOf (wholeS fs)) (256 + j * 8) = 0 := by
  refine num8_none _ (whole_rng fs) _ (by omega) ?_
  intro s hs
  rcases List.mem_cons.1 hs with rfl | h
  · rw [root_num.2]; omega
  · exact page_at_ne (by simp; omega) (by simp; omega) s h

theorem whole_one (fs : List Int) (t a : Int) (h0 : 0 ≤ t) (h1 : t < 16384) (ha : a = 0 ∨ a = 1 ∨ a = 2) :
    (∀ f, t / 256 < 32 → fs[(t / 256).toNat]? = some f → oneP (memOf (wholeS fs)) 0 t a true = some ⟨true, true, true, true, true, false, false, f % 256⟩) ∧
    (¬ (t / 256 < fs.length ∧ t / 256 < 32) → oneP (memOf (wholeS fs)) 0 t a true = none) := by
  have hl := memOf_len (wholeS fs)
  have r0 : readP (memOf (wholeS fs)) 0 0 = some ⟨true, false, false, false, false, false, false, 1⟩ := by
    have e := en_num true false false false false false false 1 (by decide) rfl
    have := read_num8 (memOf (wholeS fs)) hl 0 0 (by decide) (by decide) (by rw [whole_root]; exact e.2)
    rw [whole_root, e.1] at this
    exact this
  have r1 : readP (memOf (wholeS fs)) 0 1 = some En.zero := by
    have := read_num8 (memOf (wholeS fs)) hl 0 1 (by decide) (by decide) (by rw [whole_root1]; exact en_zero.2)
    rw [whole_root1, en_zero.1] at this
    exact this
  unfold oneP walkR rdR
  rw [if_neg (by decide), if_pos (by omega)]
  constructor
  · intro f ht hf
    obtain ⟨j, hj⟩ := Int.eq_ofNat_of_zero_le (show 0 ≤ t / 256 by omega)
    rw [hj, Int.toNat_natCast] at hf
    have hj32 : j < 32 := by omega
    have e := en_num true true true true true false false (f % 256) (page_num j hj32 f).2.2 rfl
    have rp : readP (memOf (wholeS fs)) 1 j = some ⟨true, true, true, true, true, false, false, f % 256⟩ := by
      have := read_num8 (memOf (wholeS fs)) hl 1 j (by decide) hj32 (by rw [show 1 * 256 + j * 8 = 256 + j * 8 by omega, whole_page fs j f hj32 hf]; exact e.2)
      rw [show 1 * 256 + j * 8 = 256 + j * 8 by omega, whole_page fs j f hj32 hf, e.1] at this
      exact this
    rw [show t / 8192 = 0 by omega, show t / 256 % 32 = (j : Int) by omega, r0]
    simp only [leafP, Bool.or_self, Bool.and_false, Bool.not_false, Bool.and_self, if_true, rp]
    have hal : allowP true true true true true a true = true := by rcases ha with rfl | rfl | rfl <;> rfl
    rw [hal]
    rfl
  · intro hno
    by_cases ht : t / 256 < 32
    · obtain ⟨j, hj⟩ := Int.eq_ofNat_of_zero_le (show 0 ≤ t / 256 by omega)
      have hj32 : j < 32 := by omega
      have hle : fs.length ≤ j := by omega
      have rp : readP (memOf (wholeS fs)) 1 j = some En.zero := by
        have := read_num8 (memOf (wholeS fs)) hl 1 j (by decide) hj32 (by rw [show 1 * 256 + j * 8 = 256 + j * 8 by omega, whole_nopage fs j hj32 hle]; exact en_zero.2)
        rw [show 1 * 256 + j * 8 = 256 + j * 8 by omega, whole_nopage fs j hj32 hle, en_zero.1] at this
        exact this
      rw [show t / 8192 = 0 by omega, show t / 256 % 32 = (j : Int) by omega, r0]
      simp only [leafP, Bool.or_self, Bool.and_false, Bool.not_false, Bool.and_self, if_true, rp]
      rfl
    · rw [show t / 8192 = 1 by omega, r1]
      rfl

theorem whole_two (fs : List Int) (t a : Int) (h0 : 0 ≤ t) (h1 : t < 16384) (ha : a = 0 ∨ a = 1 ∨ a = 2) :
    (∀ f, t / 256 < 32 → fs[(t / 256).toNat]? = some f → twoP (memOf (wholeS fs)) (-1) 0 t a true = .ok (f % 256) true true true true 2) ∧
    (¬ (t / 256 < fs.length ∧ t / 256 < 32) → twoP (memOf (wholeS fs)) (-1) 0 t a true = .no (faultP a 20 21 23) t t) ∧
    twoP (memOf (wholeS fs)) (-1) 0 (t + 262144) a true = .no (faultP a 12 13 15) (t + 262144) 0 ∧
    twoP (memOf (wholeS fs)) (-1) (-1) t a true = .no (faultP a 20 21 23) t t := by
  obtain ⟨o1, o2⟩ := whole_one fs t a h0 h1 ha
  have hq : t / 256 * 256 + t % 256 = t := by omega
  have f1 : ∀ second, firstP (memOf (wholeS fs)) (-1) second t a true = .ok (t / 256) true true true true 0 := by
    intro second
    unfold firstP
    rw [if_pos (by decide), if_pos (by omega)]
  refine ⟨fun f ht hf => ?_, fun hno => ?_, ?_, ?_⟩
  · unfold twoP
    rw [f1]
    simp only [hq, o1 f ht hf]
    simp [wrap64]
  · unfold twoP
    rw [f1]
    simp only [hq, o2 hno]
  · unfold twoP firstP
    rw [if_pos (by decide), if_neg (by omega)]
  · unfold twoP
    rw [f1]
    have : oneP (memOf (wholeS fs)) (-1) t a true = none := by unfold oneP; rw [if_pos (by decide)]
    simp only [hq, this]
end Go.Proofs.YtbaagnfcdphddaaDoor
