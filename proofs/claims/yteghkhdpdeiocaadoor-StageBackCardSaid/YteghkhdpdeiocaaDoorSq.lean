/-
  A guest's tables by plain functions: what stands in the memory's entries, what a call makes of memory, frames and tables, and tells.
-/
import Derived.Test.YteghkhdpdeiocaaDoorGC
import Derived.Test.YteghkhdpdeiocaaDoorPl
import Derived.Test.YteghkhdpdeiocaaDoorEBits
namespace Go.Proofs.YteghkhdpdeiocaaDoor
open Go.RowKit
set_option linter.unusedVariables false
set_option maxRecDepth 20000

/-- a page: its frame and rights -/
structure Pg where
  f : Nat
  r : Bool
  w : Bool
  x : Bool
/-- tables: the root's frame, the lower tables' by their places (below 0: there is none), the pages -/
structure Tp where
  rt : Int
  lo : Nat → Int
  pg : Nat → Option Pg
def Pg.num (a : Pg) : Int := A.numP true a.r a.w a.x true false false a.f
def pgN : Option Pg → Int
  | none => 0
  | some a => a.num
def loN (z : Int) : Int := if 0 ≤ z then A.numP true false false false false false false z else 0
def mayR (r w x : Bool) : Bool := (r || x) && (r || !w)
/-- the number at an entry of a frame -/
def e8 (zs : List Int) (f j : Nat) : Int := leFrom zs (f * 256 + 8 * j) 8
/-- an entry of a frame written -/
def set8 (zs : List Int) (f j : Nat) (v : Int) : List Int := splice zs (f * 256 + 8 * j) (bytesOf v 8)

theorem le_congr (xs ys : List Int) : ∀ (m k l : Nat), (∀ i, i < m → xs.getD (k + i) 0 = ys.getD (l + i) 0) → leFrom xs k m = leFrom ys l m
  | 0, _, _, _ => rfl
  | m + 1, k, l, h => by
    rw [leFrom, leFrom, le_congr xs ys m (k + 1) (l + 1) (fun i hi => by have := h (i + 1) (by omega); rwa [show k + (i + 1) = k + 1 + i by omega, show l + (i + 1) = l + 1 + i by omega] at this)]
    have := h 0 (by omega)
    simp only [Nat.add_zero] at this
    rw [this]
theorem le_zero (xs : List Int) : ∀ (m k : Nat), (∀ i, i < m → xs.getD (k + i) 0 = 0) → leFrom xs k m = 0
  | 0, _, _ => rfl
  | m + 1, k, h => by
    rw [leFrom, le_zero xs m (k + 1) (fun i hi => by have := h (i + 1) (by omega); rwa [show k + (i + 1) = k + 1 + i by omega] at this)]
    have := h 0 (by omega)
    simp only [Nat.add_zero] at this
    rw [this]
    rfl
theorem le_back (v : Int) (h0 : 0 ≤ v) (h1 : v < 18446744073709551616) : leFrom (bytesOf v 8) 0 8 = v := by
  rw [le_bytes v 8 8 (Nat.le_refl _)]
  omega
theorem set8_len (zs : List Int) {f j : Nat} (v : Int) (hf : f * 256 + 256 ≤ zs.length) (hj : j < 32) : (set8 zs f j v).length = zs.length := by
  unfold set8
  rw [length_splice _ _ _ (by rw [bytesOf_len]; omega)]
theorem e8_set (zs : List Int) {f j f' j' : Nat} {v : Int} (hf : f * 256 + 256 ≤ zs.length) (hj : j < 32) (hj' : j' < 32) (h0 : 0 ≤ v) (h1 : v < 18446744073709551616) : e8 (set8 zs f j v) f' j' = if f' = f ∧ j' = j then v else e8 zs f' j' := by
  have hg := fun i => splice_getD zs (bytesOf v 8) (f * 256 + 8 * j) i (by rw [bytesOf_len]; omega)
  simp only [bytesOf_len] at hg
  unfold e8 set8
  by_cases h : f' = f ∧ j' = j
  · rw [if_pos h]
    obtain ⟨rfl, rfl⟩ := h
    rw [le_congr _ (bytesOf v 8) 8 _ 0 (fun i hi => by rw [hg, if_pos (by omega)]; congr 1; omega)]
    exact le_back _ h0 h1
  · rw [if_neg h]
    exact le_congr _ _ 8 _ _ (fun i hi => by rw [hg, if_neg (by omega)])
theorem zeros_at (n i : Nat) : (List.replicate n (0 : Int)).getD i 0 = 0 := by
  by_cases h : i < n
  · simp [List.getD, h]
  · simp [List.getD, h]
theorem e8_clear (zs : List Int) {f f' j : Nat} (hf : f * 256 + 256 ≤ zs.length) (hj : j < 32) : e8 (clearV zs f) f' j = if f' = f then 0 else e8 zs f' j := by
  unfold clearV
  rw [if_pos (by omega), Int.toNat_natCast]
  have hg := fun i => splice_getD zs (List.replicate 256 (0 : Int)) (f * 256) i (by rw [List.length_replicate]; omega)
  simp only [List.length_replicate] at hg
  unfold e8
  by_cases h : f' = f
  · rw [if_pos h]
    subst h
    exact le_zero _ 8 _ (fun i hi => by rw [hg, if_pos (by omega)]; exact zeros_at _ _)
  · rw [if_neg h]
    exact le_congr _ _ 8 _ _ (fun i hi => by rw [hg, if_neg (by omega)])
theorem clear_len (zs : List Int) {f : Nat} (hf : f * 256 + 256 ≤ zs.length) : (clearV zs f).length = zs.length := by
  unfold clearV
  rw [if_pos (by omega), Int.toNat_natCast, length_splice _ _ _ (by rw [List.length_replicate]; omega)]
theorem num_fits {v r w x u s d : Bool} {f : Int} (h0 : 0 ≤ f) (h1 : f < 65536) : 0 ≤ A.numP v r w x u s d f ∧ A.numP v r w x u s d f < 18446744073709551616 := by
  have := A.num_range (v := v) (r := r) (w := w) (x := x) (u := u) (s := s) (d := d) h0 h1
  omega
theorem store_set8 (zs : List Int) {f j : Nat} (v : Int) (hf : f * 256 + 256 ≤ zs.length) (hj : j < 32) : storeV zs ((f * 256 + 8 * j : Nat) : Int) 8 v = set8 zs f j v ∧ numE zs.length ((f * 256 + 8 * j : Nat) : Int) 8 = 0 := by
  have e : numE zs.length ((f * 256 + 8 * j : Nat) : Int) 8 = 0 := by
    unfold numE isW
    simp
    omega
  refine ⟨?_, e⟩
  unfold storeV
  rw [if_pos e, Int.toNat_natCast]
  rfl
theorem load_e8 (zs : List Int) {f j : Nat} (hf : f * 256 + 256 ≤ zs.length) (hj : j < 32) : loadV zs ((f * 256 + 8 * j : Nat) : Int) 8 = e8 zs f j ∧ numE zs.length ((f * 256 + 8 * j : Nat) : Int) 8 = 0 := by
  have e := (store_set8 zs 0 hf hj).2
  refine ⟨?_, e⟩
  unfold loadV
  rw [if_pos e, Int.toNat_natCast]
  simp [extW, e8]

/-- what a page's number is unpacked to -/
theorem may_page (a : Pg) (hf : a.f < 65536) (hm : mayR a.r a.w a.x = true) : A.mayP true a.r a.w a.x true false false a.f = true := by
  unfold A.mayP
  unfold mayR at hm
  revert hm
  rw [if_pos rfl, decide_eq_true (by omega)]
  cases a.r <;> cases a.w <;> cases a.x <;> decide
theorem en_page (a : Pg) (hf : a.f < 65536) (hm : mayR a.r a.w a.x = true) : E.enOf a.num = ⟨true, a.r, a.w, a.x, true, false, false, a.f⟩ ∧ E.unpackE a.num = 0 := E.en_num true a.r a.w a.x true false false a.f rfl (may_page a hf hm)
theorem pack_page (a : Pg) (hf : a.f < 65536) (hm : mayR a.r a.w a.x = true) : E.packN true a.r a.w a.x true false false a.f = a.num := by
  rw [E.pack_eq]
  unfold A.packN
  rw [may_page a hf hm]
  rfl
theorem may_table (f : Nat) (hf : f < 65536) : A.mayP true false false false false false false f = true := by
  unfold A.mayP
  rw [if_pos rfl, decide_eq_true (by omega)]
  rfl
theorem pack_table (f : Nat) (hf : f < 65536) : E.packN true false false false false false false f = loN f := by
  rw [E.pack_eq]
  unfold A.packN loN
  rw [may_table f hf, if_pos rfl, if_pos (show (0 : Int) ≤ f by omega)]
theorem pack_none : E.packN false false false false false false false 0 = 0 := by
  rw [E.pack_eq]
  decide
theorem pgN_fits (o : Option Pg) (h : ∀ a, o = some a → a.f < 65536) : 0 ≤ pgN o ∧ pgN o < 18446744073709551616 := by
  cases o with
  | none => exact ⟨by decide, by decide⟩
  | some a => exact num_fits (by omega) (by have := h a rfl; omega)
theorem loN_fits (z : Int) (h : z < 65536) : 0 ≤ loN z ∧ loN z < 18446744073709551616 := by
  unfold loN
  split
  · exact num_fits (by omega) h
  · omega

/-- memory, frames and tables -/
structure Zs where
  m : List Int
  S : Fs
  x : Tp
/-- a frame for a table: the error, what becomes of memory and frames -/
def takeE (n : Nat) (S : Fs) : Int := if alE S 0 ≠ 0 then alE S 0 else if alR S 0 < n then 0 else 12
def takeM (n : Nat) (m : List Int) (S : Fs) : List Int := if takeE n S = 0 then clearV m (alR S 0) else m
def takeS (n : Nat) (S : Fs) : Fs := if alE S 0 ≠ 0 then S else if alR S 0 < n then alS S 0 else frS (alS S 0) (alR S 0) 0
/-- a lower table at a place -/
def raiE (n : Nat) (z : Zs) (k : Nat) : Int := if 0 ≤ z.x.lo k then 0 else takeE n z.S
def raiZ (n : Nat) (z : Zs) (k : Nat) : Zs :=
  if 0 ≤ z.x.lo k then z else if takeE n z.S = 0 then ⟨set8 (takeM n z.m z.S) z.x.rt.toNat k (loN (alR z.S 0)), takeS n z.S, { z.x with lo := upd z.x.lo k (alR z.S 0) }⟩ else ⟨z.m, takeS n z.S, z.x⟩
/-- Map: what is wrong, up to Hold -/
def mapQ (gu n : Nat) (z : Zs) (p f : Int) (a b c : Bool) : Int :=
  if z.x.rt < 0 then 21 else if ¬ (0 ≤ p ∧ p < 1024 ∧ mayR a b c = true ∧ 0 ≤ f ∧ f < n) then 2 else if (z.x.pg p.toNat).isSome = true then 13
  else if ¬ (f < z.S.n ∧ z.S.cl f.toNat = gu) then 15 else hoE z.S f gu
def mapE (gu n : Nat) (z : Zs) (p f : Int) (a b c : Bool) : Int := if mapQ gu n z p f a b c ≠ 0 then mapQ gu n z p f a b c else raiE n ⟨z.m, hoS z.S f gu, z.x⟩ (p.toNat / 32)
def mapD (z : Zs) (p : Nat) (y : Pg) : Zs := ⟨set8 z.m (z.x.lo (p / 32)).toNat (p % 32) y.num, z.S, { z.x with pg := upd z.x.pg p (some y) }⟩
def mapZ (gu n : Nat) (z : Zs) (p f : Int) (a b c : Bool) : Zs :=
  if mapQ gu n z p f a b c ≠ 0 then z else
    if raiE n ⟨z.m, hoS z.S f gu, z.x⟩ (p.toNat / 32) = 0 then mapD (raiZ n ⟨z.m, hoS z.S f gu, z.x⟩ (p.toNat / 32)) p.toNat ⟨f.toNat, a, b, c⟩
    else ⟨z.m, frS (raiZ n ⟨z.m, hoS z.S f gu, z.x⟩ (p.toNat / 32)).S f gu, z.x⟩
/-- how many pages a lower table has -/
def cnt (pg : Nat → Option Pg) (k : Nat) : Nat := (List.range 32).countP (fun j => (pg (32 * k + j)).isSome)
/-- Unmap -/
def unQ (z : Zs) (p : Int) : Int := if z.x.rt < 0 then 21 else if ¬ (0 ≤ p ∧ p < 1024) then 2 else if (z.x.pg p.toNat).isSome = true then 0 else 14
def pgF : Option Pg → Nat
  | none => 0
  | some a => a.f
def unR (z : Zs) (p : Int) : Int := if unQ z p = 0 then pgF (z.x.pg p.toNat) else 0
/-- the page goes -/
def unA (gu : Nat) (z : Zs) (p : Nat) : Zs := ⟨set8 z.m (z.x.lo (p / 32)).toNat (p % 32) 0, frS z.S (pgF (z.x.pg p)) gu, { z.x with pg := upd z.x.pg p none }⟩
/-- the lower table goes -/
def razZ (z : Zs) (k : Nat) : Zs := ⟨set8 z.m z.x.rt.toNat k 0, frS z.S (z.x.lo k) 0, { z.x with lo := upd z.x.lo k (-1) }⟩
def unD (gu : Nat) (z : Zs) (p : Nat) : Zs := if cnt (unA gu z p).x.pg (p / 32) = 0 then razZ (unA gu z p) (p / 32) else unA gu z p
def unZ (gu : Nat) (z : Zs) (p : Int) : Zs := if unQ z p = 0 then unD gu z p.toNat else z
/-- Protect -/
def prQ (z : Zs) (p : Int) (a b c : Bool) : Int := if z.x.rt < 0 then 21 else if ¬ (0 ≤ p ∧ p < 1024 ∧ mayR a b c = true) then 2 else if (z.x.pg p.toNat).isSome = true then 0 else 14
def prZ (z : Zs) (p : Int) (a b c : Bool) : Zs := if prQ z p a b c = 0 then mapD z p.toNat ⟨pgF (z.x.pg p.toNat), a, b, c⟩ else z
/-- Close -/
def unsZ (gu : Nat) (z : Zs) : Nat → Zs
  | 0 => z
  | p + 1 => unZ gu (unsZ gu z p) p
def clE (z : Zs) : Int := if z.x.rt < 0 then 21 else 0
def clF (z : Zs) : Zs := ⟨z.m, frS z.S z.x.rt 0, { z.x with rt := -1 }⟩
def clZ (gu : Nat) (z : Zs) : Zs := if z.x.rt < 0 then z else clF (unsZ gu z 1024)
/-- how many lower tables there are -/
def nlo (lo : Nat → Int) : Nat := (List.range 32).countP (fun k => decide (0 ≤ lo k))
end Go.Proofs.YteghkhdpdeiocaaDoor
