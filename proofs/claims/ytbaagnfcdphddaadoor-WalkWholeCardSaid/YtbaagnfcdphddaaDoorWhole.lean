/-
  What a memory holds in which entries were stored, and what a walk finds there: over plain functions.
-/
import Derived.Test.YtbaagnfcdphddaaDoorLies
import Derived.Test.YtbaagnfcdphddaaDoorLawB
namespace Go.Proofs.YtbaagnfcdphddaaDoor
open Go.RowKit
set_option linter.unusedVariables false
set_option maxRecDepth 20000

theorem leFrom_congr (xs ys : List Int) : ∀ (m k l : Nat), (∀ i, i < m → xs.getD (k + i) 0 = ys.getD (l + i) 0) → leFrom xs k m = leFrom ys l m
  | 0, _, _, _ => rfl
  | m + 1, k, l, h => by
    rw [leFrom, leFrom, leFrom_congr xs ys m (k + 1) (l + 1) (fun i hi => by have := h (i + 1) (by omega); rwa [show k + (i + 1) = k + 1 + i by omega, show l + (i + 1) = l + 1 + i by omega] at this)]
    have := h 0 (by omega)
    simp only [Nat.add_zero] at this
    rw [this]
theorem leFrom_zero (xs : List Int) : ∀ (m k : Nat), (∀ i, i < m → xs.getD (k + i) 0 = 0) → leFrom xs k m = 0
  | 0, _, _ => rfl
  | m + 1, k, h => by
    rw [leFrom, leFrom_zero xs m (k + 1) (fun i hi => by have := h (i + 1) (by omega); rwa [show k + (i + 1) = k + 1 + i by omega] at this)]
    have := h 0 (by omega)
    simp only [Nat.add_zero] at this
    rw [this]
    rfl
theorem back8 (v : Int) (h0 : 0 ≤ v) (h1 : v < 18446744073709551616) : leFrom (bytesOf v 8) 0 8 = v := by
  rw [le_bytes v 8 8 (Nat.le_refl _)]
  omega

/-- a number that lies whole in the memory -/
def num8 (zs : List Int) (t : Nat) : Int := leFrom zs t 8
theorem load_num8 (zs : List Int) (hl : zs.length = 4096) (t : Nat) (ht : t + 8 ≤ 4096) (ha : t % 8 = 0) : numE zs.length t 8 = 0 ∧ loadV zs t 8 = num8 zs t := by
  have e : numE zs.length t 8 = 0 := by
    rw [hl]
    unfold numE isW
    simp
    omega
  refine ⟨e, ?_⟩
  unfold loadV
  rw [if_pos e]
  simp [extW, num8]
theorem zeros_getD (n i : Nat) : (List.replicate n (0 : Int)).getD i 0 = 0 := by
  by_cases h : i < n
  · simp [List.getD, h]
  · simp [List.getD, h]
theorem num8_zero (t : Nat) : num8 (List.replicate 4096 0) t = 0 :=
  leFrom_zero _ 8 t fun i _ => zeros_getD 4096 (t + i)
theorem num8_mem {zs : List Int} (hl : zs.length = 4096) (s : Sl) (r0 : 0 ≤ s.raw) (r1 : s.raw < 18446744073709551616) (t : Nat) (ha : t % 8 = 0) :
    num8 (memF zs s) t = if s.at_ = t then s.num else num8 zs t := by
  have ho := at_ok s
  have hn := num_ok s r0 r1
  obtain ⟨T, hT⟩ := Int.eq_ofNat_of_zero_le ho.1
  unfold memF storeV
  rw [if_pos (at_num hl s), hT, Int.toNat_natCast, show ((8 : Int).toNat) = 8 from rfl]
  have hg := fun i => splice_getD zs (bytesOf s.num 8) T i (by rw [bytesOf_len, hl]; omega)
  simp only [bytesOf_len] at hg
  by_cases h : (T : Int) = t
  · rw [if_pos h]
    have h' : T = t := by omega
    subst h'
    unfold num8
    rw [leFrom_congr _ (bytesOf s.num 8) 8 T 0 (fun i hi => by rw [hg, if_pos (by omega)]; congr 1; omega)]
    exact back8 _ hn.1 hn.2
  · rw [if_neg h]
    unfold num8
    exact leFrom_congr _ _ 8 t t (fun i hi => by rw [hg, if_neg (by omega)])

/-- where no entry is put, the number is 0; where one is put and no later one: its own -/
theorem num8_fold (ss : List Sl) (hr : ∀ s ∈ ss, 0 ≤ s.raw ∧ s.raw < 18446744073709551616) (t : Nat) (ha : t % 8 = 0) : ∀ zs : List Int, zs.length = 4096 → (∀ s ∈ ss, s.at_ ≠ t) → num8 (ss.foldl memF zs) t = num8 zs t := by
  induction ss with
  | nil => intro zs _ _; rfl
  | cons s ss ih =>
    intro zs hl hne
    rw [List.foldl_cons, ih (fun x hx => hr x (List.mem_cons_of_mem _ hx)) _ (memF_len hl s) (fun x hx => hne x (List.mem_cons_of_mem _ hx))]
    have := hr s (List.mem_cons_self ..)
    rw [num8_mem hl s this.1 this.2 t ha, if_neg (hne s (List.mem_cons_self ..))]
theorem num8_none (ss : List Sl) (hr : ∀ s ∈ ss, 0 ≤ s.raw ∧ s.raw < 18446744073709551616) (t : Nat) (ha : t % 8 = 0) (hne : ∀ s ∈ ss, s.at_ ≠ t) : num8 (memOf ss) t = 0 := by
  unfold memOf
  rw [num8_fold ss hr t ha _ (by simp) hne, num8_zero]
theorem num8_at (as_ : List Sl) (s : Sl) (bs : List Sl) (hr : ∀ x ∈ as_ ++ s :: bs, 0 ≤ x.raw ∧ x.raw < 18446744073709551616) (t : Nat) (ha : t % 8 = 0) (hs : s.at_ = t) (hne : ∀ x ∈ bs, x.at_ ≠ t) : num8 (memOf (as_ ++ s :: bs)) t = s.num := by
  unfold memOf
  rw [List.foldl_append, List.foldl_cons]
  have hl : (as_.foldl memF (List.replicate 4096 0)).length = 4096 := memOf_len as_
  rw [num8_fold bs (fun x hx => hr x (by simp [hx])) t ha _ (memF_len hl s) hne]
  have := hr s (by simp)
  rw [num8_mem hl s this.1 this.2 t ha, if_pos hs]

/-- the second stage that has pages: its slots -/
def rootS : Sl := ⟨0, 0, ⟨true, false, false, false, false, false, false, 1⟩, 0⟩
def pageS (i : Nat) (f : Int) : Sl := ⟨1, i, ⟨true, true, true, true, true, false, false, f % 256⟩, 0⟩
def pagesS : Nat → List Int → List Sl
  | _, [] => []
  | i, f :: fs => pageS i f :: pagesS (i + 1) fs
def wholeS (fs : List Int) : List Sl := rootS :: pagesS 0 (fs.take 32)
end Go.Proofs.YtbaagnfcdphddaaDoor
