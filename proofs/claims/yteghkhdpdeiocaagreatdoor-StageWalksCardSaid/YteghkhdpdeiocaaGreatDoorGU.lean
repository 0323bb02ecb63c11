/-
  A guest's tables by plain functions: what stands in the memory's entries, what a call makes of memory, frames and tables, and tells.
  What stays true of a guest's tables through every call: by plain functions.
-/
import Derived.Test.YteghkhdpdeiocaaGreatDoorGC
import Derived.Test.YteghkhdpdeiocaaGreatDoorPl
import Derived.Test.YteghkhdpdeiocaaGreatDoorGT
namespace Go.Proofs.YteghkhdpdeiocaaGreatDoor
open Go.RowKit
set_option linter.unusedVariables false
set_option maxRecDepth 100000

/-- a page: its frame and rights -/
structure Pg where
  f : Nat
  r : Bool
  w : Bool
  x : Bool
/-- tables: the root's frame, the lower tables' by their places (below 0: there is none), the pages -/
structure Tp where
  rt : Int
  lo : Nat → Int
  pg : Nat → Option Pg
def Pg.num (a : Pg) : Int := A.numP true a.r a.w a.x true false false a.f
def pgN : Option Pg → Int
  | none => 0
  | some a => a.num
def loN (z : Int) : Int := if 0 ≤ z then A.numP true false false false false false false z else 0
def mayR (r w x : Bool) : Bool := (r || x) && (r || !w)
/-- the number at an entry of a frame -/
def e8 (zs : List Int) (f j : Nat) : Int := leFrom zs (f * 256 + 8 * j) 8
/-- an entry of a frame written -/
def set8 (zs : List Int) (f j : Nat) (v : Int) : List Int := splice zs (f * 256 + 8 * j) (bytesOf v 8)

theorem le_congr (xs ys : List Int) : ∀ (m k l : Nat), (∀ i, i < m → xs.getD (k + i) 0 = ys.getD (l + i) 0) → leFrom xs k m = leFrom ys l m
  | 0, _, _, _ => rfl
  | m + 1, k, l, h => by
    rw [leFrom, leFrom, le_congr xs ys m (k + 1) (l + 1) (fun i hi => by have := h (i + 1) (by omega); rwa [show k + (i + 1) = k + 1 + i by omega, show l + (i + 1) = l + 1 + i by omega] at this)]
    have := h 0 (by omega)
    simp only [Nat.add_zero] at this
    rw [this]
theorem le_zero (xs : List Int) : ∀ (m k : Nat), (∀ i, i < m → xs.getD (k + i) 0 = 0) → leFrom xs k m = 0
  | 0, _, _ => rfl
  | m + 1, k, h => by
    rw [leFrom, le_zero xs m (k + 1) (fun i hi => by have := h (i + 1) (by omega); rwa [show k + (i + 1) = k + 1 + i by omega] at this)]
    have := h 0 (by omega)
    simp only [Nat.add_zero] at this
    rw [this]
    rfl
theorem le_back (v : Int) (h0 : 0 ≤ v) (h1 : v < 18446744073709551616) : leFrom (bytesOf v 8) 0 8 = v := by
  rw [le_bytes v 8 8 (Nat.le_refl _)]
  omega
theorem set8_len (zs : List Int) {f j : Nat} (v : Int) (hf : f * 256 + 256 ≤ zs.length) (hj : j < 32) : (set8 zs f j v).length = zs.length := by
  unfold set8
  rw [length_splice _ _ _ (by rw [bytesOf_len]; omega)]
theorem e8_set (zs : List Int) {f j f' j' : Nat} {v : Int} (hf : f * 256 + 256 ≤ zs.length) (hj : j < 32) (hj' : j' < 32) (h0 : 0 ≤ v) (h1 : v < 18446744073709551616) : e8 (set8 zs f j v) f' j' = if f' = f ∧ j' = j then v else e8 zs f' j' := by
  have hg := fun i => splice_getD zs (bytesOf v 8) (f * 256 + 8 * j) i (by rw [bytesOf_len]; omega)
  simp only [bytesOf_len] at hg
  unfold e8 set8
  by_cases h : f' = f ∧ j' = j
  · rw [if_pos h]
    obtain ⟨rfl, rfl⟩ := h
    rw [le_congr _ (bytesOf v 8) 8 _ 0 (fun i hi => by rw [hg, if_pos (by omega)]; congr 1; omega)]
    exact le_back _ h0 h1
  · rw [if_neg h]
    exact le_congr _ _ 8 _ _ (fun i hi => by rw [hg, if_neg (by omega)])
theorem zeros_at (n i : Nat) : (List.replicate n (0 : Int)).getD i 0 = 0 := by
  by_cases h : i < n
  · simp [List.getD, h]
  · simp [List.getD, h]
theorem e8_clear (zs : List Int) {f f' j : Nat} (hf : f * 256 + 256 ≤ zs.length) (hj : j < 32) : e8 (clearV zs f) f' j = if f' = f then 0 else e8 zs f' j := by
  unfold clearV
  rw [if_pos (by omega), Int.toNat_natCast]
  have hg := fun i => splice_getD zs (List.replicate 256 (0 : Int)) (f * 256) i (by rw [List.length_replicate]; omega)
  simp only [List.length_replicate] at hg
  unfold e8
  by_cases h : f' = f
  · rw [if_pos h]
    subst h
    exact le_zero _ 8 _ (fun i hi => by rw [hg, if_pos (by omega)]; exact zeros_at _ _)
  · rw [if_neg h]
    exact le_congr _ _ 8 _ _ (fun i hi => by rw [hg, if_neg (by omega)])
theorem clear_len (zs : List Int) {f : Nat} (hf : f * 256 + 256 ≤ zs.length) : (clearV zs f).length = zs.length := by
  unfold clearV
  rw [if_pos (by omega), Int.toNat_natCast, length_splice _ _ _ (by rw [List.length_replicate]; omega)]
theorem num_fits {v r w x u s d : Bool} {f : Int} (h0 : 0 ≤ f) (h1 : f < 65536) : 0 ≤ A.numP v r w x u s d f ∧ A.numP v r w x u s d f < 18446744073709551616 := by
  have := A.num_range (v := v) (r := r) (w := w) (x := x) (u := u) (s := s) (d := d) h0 h1
  omega
theorem store_set8 (zs : List Int) {f j : Nat} (v : Int) (hf : f * 256 + 256 ≤ zs.length) (hj : j < 32) : storeV zs ((f * 256 + 8 * j : Nat) : Int) 8 v = set8 zs f j v ∧ numE zs.length ((f * 256 + 8 * j : Nat) : Int) 8 = 0 := by
  have e : numE zs.length ((f * 256 + 8 * j : Nat) : Int) 8 = 0 := by
    unfold numE isW
    simp
    omega
  refine ⟨?_, e⟩
  unfold storeV
  rw [if_pos e, Int.toNat_natCast]
  rfl
theorem load_e8 (zs : List Int) {f j : Nat} (hf : f * 256 + 256 ≤ zs.length) (hj : j < 32) : loadV zs ((f * 256 + 8 * j : Nat) : Int) 8 = e8 zs f j ∧ numE zs.length ((f * 256 + 8 * j : Nat) : Int) 8 = 0 := by
  have e := (store_set8 zs 0 hf hj).2
  refine ⟨?_, e⟩
  unfold loadV
  rw [if_pos e, Int.toNat_natCast]
  simp [extW, e8]

/-- what a page's number is unpacked to -/
theorem may_page (a : Pg) (hf : a.f < 65536) (hm : mayR a.r a.w a.x = true) : A.mayP true a.r a.w a.x true false false a.f = true := by
  unfold A.mayP
  unfold mayR at hm
  revert hm
  rw [if_pos rfl, decide_eq_true (by omega)]
  cases a.r <;> cases a.w <;> cases a.x <;> decide
theorem en_page (a : Pg) (hf : a.f < 65536) (hm : mayR a.r a.w a.x = true) : E.enOf a.num = ⟨true, a.r, a.w, a.x, true, false, false, a.f⟩ ∧ E.unpackE a.num = 0 := E.en_num true a.r a.w a.x true false false a.f rfl (may_page a hf hm)
theorem pack_page (a : Pg) (hf : a.f < 65536) (hm : mayR a.r a.w a.x = true) : E.packN true a.r a.w a.x true false false a.f = a.num := by
  rw [E.pack_eq]
  unfold A.packN
  rw [may_page a hf hm]
  rfl
theorem may_table (f : Nat) (hf : f < 65536) : A.mayP true false false false false false false f = true := by
  unfold A.mayP
  rw [if_pos rfl, decide_eq_true (by omega)]
  rfl
theorem pack_table (f : Nat) (hf : f < 65536) : E.packN true false false false false false false f = loN f := by
  rw [E.pack_eq]
  unfold A.packN loN
  rw [may_table f hf, if_pos rfl, if_pos (show (0 : Int) ≤ f by omega)]
theorem pack_none : E.packN false false false false false false false 0 = 0 := by
  rw [E.pack_eq]
  decide
theorem pgN_fits (o : Option Pg) (h : ∀ a, o = some a → a.f < 65536) : 0 ≤ pgN o ∧ pgN o < 18446744073709551616 := by
  cases o with
  | none => exact ⟨by decide, by decide⟩
  | some a => exact num_fits (by omega) (by have := h a rfl; omega)
theorem loN_fits (z : Int) (h : z < 65536) : 0 ≤ loN z ∧ loN z < 18446744073709551616 := by
  unfold loN
  split
  · exact num_fits (by omega) h
  · omega

/-- memory, frames and tables -/
structure Zs where
  m : List Int
  S : Fs
  x : Tp
/-- a frame for a table: the error, what becomes of memory and frames -/
def takeE (n : Nat) (S : Fs) : Int := if alE S 0 ≠ 0 then alE S 0 else if alR S 0 < n then 0 else 12
def takeM (n : Nat) (m : List Int) (S : Fs) : List Int := if takeE n S = 0 then clearV m (alR S 0) else m
def takeS (n : Nat) (S : Fs) : Fs := if alE S 0 ≠ 0 then S else if alR S 0 < n then alS S 0 else frS (alS S 0) (alR S 0) 0
/-- a lower table at a place -/
def raiE (n : Nat) (z : Zs) (k : Nat) : Int := if 0 ≤ z.x.lo k then 0 else takeE n z.S
def raiZ (n : Nat) (z : Zs) (k : Nat) : Zs :=
  if 0 ≤ z.x.lo k then z else if takeE n z.S = 0 then ⟨set8 (takeM n z.m z.S) z.x.rt.toNat k (loN (alR z.S 0)), takeS n z.S, { z.x with lo := upd z.x.lo k (alR z.S 0) }⟩ else ⟨z.m, takeS n z.S, z.x⟩
/-- Map: what is wrong, up to Hold -/
def mapQ (gu n : Nat) (z : Zs) (p f : Int) (a b c : Bool) : Int :=
  if z.x.rt < 0 then 21 else if ¬ (0 ≤ p ∧ p < 1024 ∧ mayR a b c = true ∧ 0 ≤ f ∧ f < n) then 2 else if (z.x.pg p.toNat).isSome = true then 13
  else if ¬ (f < z.S.n ∧ z.S.cl f.toNat = gu) then 15 else hoE z.S f gu
def mapE (gu n : Nat) (z : Zs) (p f : Int) (a b c : Bool) : Int := if mapQ gu n z p f a b c ≠ 0 then mapQ gu n z p f a b c else raiE n ⟨z.m, hoS z.S f gu, z.x⟩ (p.toNat / 32)
def mapD (z : Zs) (p : Nat) (y : Pg) : Zs := ⟨set8 z.m (z.x.lo (p / 32)).toNat (p % 32) y.num, z.S, { z.x with pg := upd z.x.pg p (some y) }⟩
def mapZ (gu n : Nat) (z : Zs) (p f : Int) (a b c : Bool) : Zs :=
  if mapQ gu n z p f a b c ≠ 0 then z else
    if raiE n ⟨z.m, hoS z.S f gu, z.x⟩ (p.toNat / 32) = 0 then mapD (raiZ n ⟨z.m, hoS z.S f gu, z.x⟩ (p.toNat / 32)) p.toNat ⟨f.toNat, a, b, c⟩
    else ⟨z.m, frS (raiZ n ⟨z.m, hoS z.S f gu, z.x⟩ (p.toNat / 32)).S f gu, z.x⟩
/-- how many pages a lower table has -/
def cnt (pg : Nat → Option Pg) (k : Nat) : Nat := (List.range 32).countP (fun j => (pg (32 * k + j)).isSome)
/-- Unmap -/
def unQ (z : Zs) (p : Int) : Int := if z.x.rt < 0 then 21 else if ¬ (0 ≤ p ∧ p < 1024) then 2 else if (z.x.pg p.toNat).isSome = true then 0 else 14
def pgF : Option Pg → Nat
  | none => 0
  | some a => a.f
def unR (z : Zs) (p : Int) : Int := if unQ z p = 0 then pgF (z.x.pg p.toNat) else 0
/-- the page goes -/
def unA (gu : Nat) (z : Zs) (p : Nat) : Zs := ⟨set8 z.m (z.x.lo (p / 32)).toNat (p % 32) 0, frS z.S (pgF (z.x.pg p)) gu, { z.x with pg := upd z.x.pg p none }⟩
/-- the lower table goes -/
def razZ (z : Zs) (k : Nat) : Zs := ⟨set8 z.m z.x.rt.toNat k 0, frS z.S (z.x.lo k) 0, { z.x with lo := upd z.x.lo k (-1) }⟩
def unD (gu : Nat) (z : Zs) (p : Nat) : Zs := if cnt (unA gu z p).x.pg (p / 32) = 0 then razZ (unA gu z p) (p / 32) else unA gu z p
def unZ (gu : Nat) (z : Zs) (p : Int) : Zs := if unQ z p = 0 then unD gu z p.toNat else z
/-- Protect -/
def prQ (z : Zs) (p : Int) (a b c : Bool) : Int := if z.x.rt < 0 then 21 else if ¬ (0 ≤ p ∧ p < 1024 ∧ mayR a b c = true) then 2 else if (z.x.pg p.toNat).isSome = true then 0 else 14
def prZ (z : Zs) (p : Int) (a b c : Bool) : Zs := if prQ z p a b c = 0 then mapD z p.toNat ⟨pgF (z.x.pg p.toNat), a, b, c⟩ else z
/-- Close -/
def unsZ (gu : Nat) (z : Zs) : Nat → Zs
  | 0 => z
  | p + 1 => unZ gu (unsZ gu z p) p
def clE (z : Zs) : Int := if z.x.rt < 0 then 21 else 0
def clF (z : Zs) : Zs := ⟨z.m, frS z.S z.x.rt 0, { z.x with rt := -1 }⟩
def clZ (gu : Nat) (z : Zs) : Zs := if z.x.rt < 0 then z else clF (unsZ gu z 1024)
/-- how many lower tables there are -/
def nlo (lo : Nat → Int) : Nat := (List.range 32).countP (fun k => decide (0 ≤ lo k))
end Go.Proofs.YteghkhdpdeiocaaGreatDoor
namespace Go.Proofs.YteghkhdpdeiocaaGreatDoor
set_option linter.unusedVariables false
set_option maxRecDepth 100000

/-- frames that stand as they were, of O -/
structure Kp (O : Nat → Prop) (S S' : Fs) : Prop where
  n : S'.n = S.n
  fi : S'.fi = S.fi
  cl : ∀ f, O f → S'.cl f = S.cl f
  ti : ∀ f, O f → S'.ti f = S.ti f
theorem Kp.refl (O : Nat → Prop) (S : Fs) : Kp O S S := ⟨rfl, rfl, fun _ _ => rfl, fun _ _ => rfl⟩
theorem Kp.trans {O : Nat → Prop} {S T R : Fs} (h : Kp O S T) (k : Kp O T R) : Kp O S R := ⟨k.n.trans h.n, k.fi.trans h.fi, fun f hf => (k.cl f hf).trans (h.cl f hf), fun f hf => (k.ti f hf).trans (h.ti f hf)⟩
theorem Kp.mono {O P : Nat → Prop} {S T : Fs} (h : Kp O S T) (hp : ∀ f, P f → O f) : Kp P S T := ⟨h.n, h.fi, fun f hf => h.cl f (hp f hf), fun f hf => h.ti f (hp f hf)⟩
theorem Kp.set {O : Nat → Prop} {S : Fs} {f : Nat} (h : ¬ O f) (c t : Nat) : Kp O S (S.set f c t) :=
  ⟨rfl, rfl, fun g hg => upd_other _ _ _ (fun e => h (e ▸ hg)), fun g hg => upd_other _ _ _ (fun e => h (e ▸ hg))⟩
theorem al_at {S : Fs} {o : Int} (h : alE S o = 0) : ∃ a : Nat, o = a ∧ a ≤ 16 ∧ alR S o = S.lst ∧ alS S o = S.set S.lst a 1 ∧ S.lst < S.n ∧ S.cl S.lst = 17 := by
  obtain ⟨a, rfl, h1, h2, h3⟩ := alE_ok h
  obtain ⟨l1, l2, l3⟩ := S.lst_of h3
  exact ⟨a, rfl, h1, by unfold alR; rw [if_pos h], by unfold alS; rw [if_pos h, Int.toNat_natCast], l1, l2⟩
theorem al_no {S : Fs} {o : Int} (h : alE S o ≠ 0) : alR S o = 0 ∧ alS S o = S := ⟨by unfold alR; rw [if_neg h], by unfold alS; rw [if_neg h]⟩
theorem ho_at {S : Fs} {f o : Int} (h : hoE S f o = 0) : ∃ i a : Nat, f = i ∧ o = a ∧ i < S.n ∧ a ≤ 16 ∧ S.cl i = a ∧ hoS S f o = S.set i a (S.ti i + 1) ∧ S.ti i ≠ 65536 := by
  obtain ⟨h1, h2⟩ := hoE_ok h
  obtain ⟨i, a, c, rfl, rfl, _, hi, ha, _, hc⟩ := errC_ok h1
  exact ⟨i, a, rfl, rfl, hi, ha, hc, by unfold hoS; rw [if_pos h, Int.toNat_natCast, hc], by simpa using h2⟩
theorem ho_no {S : Fs} {f o : Int} (h : hoE S f o ≠ 0) : hoS S f o = S := by unfold hoS; rw [if_neg h]
theorem fr_at {S : Fs} {f o : Int} (h : errL S f o o = 0) : ∃ i a : Nat, f = i ∧ o = a ∧ i < S.n ∧ a ≤ 16 ∧ S.cl i = a ∧ S.fi ≤ i ∧ frS S f o = if 1 < S.ti i then S.set i a (S.ti i - 1) else S.set i 17 0 := by
  obtain ⟨h1, h2⟩ := errL_ok h
  obtain ⟨i, a, c, rfl, rfl, _, hi, ha, _, hc⟩ := errC_ok h1
  exact ⟨i, a, rfl, rfl, hi, ha, hc, by omega, by unfold frS; rw [if_pos h, Int.toNat_natCast, hc]⟩
theorem fr_no {S : Fs} {f o : Int} (h : errL S f o o ≠ 0) : frS S f o = S := by unfold frS; rw [if_neg h]
theorem errL_of {S : Fs} {i a : Nat} (hi : i < S.n) (ha : a ≤ 16) (hc : S.cl i = a) (hf : S.fi ≤ i) : errL S i a a = 0 := by
  have e : errC S i a a = 0 := by
    unfold errC isO
    rw [if_pos (by omega), Int.toNat_natCast, if_pos (by omega)]
  unfold errL
  rw [if_pos e, if_neg (by omega)]
theorem kp_ho {O : Nat → Prop} {S : Fs} (hO : ∀ f, O f → S.cl f = 0) (f : Int) {gu : Nat} (hg : 1 ≤ gu) : Kp O S (hoS S f gu) := by
  by_cases h : hoE S f gu = 0
  · obtain ⟨i, a, rfl, e, hi, ha, hc, hs, _⟩ := ho_at h
    rw [hs]
    exact Kp.set (fun ho => by have := hO i ho; omega) _ _
  · rw [ho_no h]; exact Kp.refl _ _
theorem kp_fr {O : Nat → Prop} {S : Fs} (hO : ∀ f, O f → S.cl f = 0) (f : Int) {gu : Nat} (hg : 1 ≤ gu) : Kp O S (frS S f gu) := by
  by_cases h : errL S f gu gu = 0
  · obtain ⟨i, a, rfl, e, hi, ha, hc, hf, hs⟩ := fr_at h
    rw [hs]
    have hn : ¬ O i := fun ho => by have := hO i ho; omega
    split
    · exact Kp.set hn _ _
    · exact Kp.set hn _ _
  · rw [fr_no h]; exact Kp.refl _ _
theorem kp_al {O : Nat → Prop} {S : Fs} (hO : ∀ f, O f → S.cl f ≠ 17) (o : Int) : Kp O S (alS S o) := by
  by_cases h : alE S o = 0
  · obtain ⟨a, _, _, _, hs, h1, h2⟩ := al_at h
    rw [hs]
    exact Kp.set (fun ho => hO _ ho h2) _ _
  · rw [(al_no h).2]; exact Kp.refl _ _
theorem fst_ho {S : Fs} (h : Fst S) (f o : Int) : Fst (hoS S f o) := by
  by_cases e : hoE S f o = 0
  · obtain ⟨i, a, rfl, _, hi, ha, hc, hs, _⟩ := ho_at e
    rw [hs]
    exact h.set (.inr hc.symm)
  · rw [ho_no e]; exact h
theorem fst_fr {S : Fs} (h : Fst S) (f o : Int) : Fst (frS S f o) := by
  by_cases e : errL S f o o = 0
  · obtain ⟨i, a, rfl, _, hi, ha, hc, hf, hs⟩ := fr_at e
    rw [hs]
    split <;> exact h.set (.inl hf)
  · rw [fr_no e]; exact h
theorem fst_al {S : Fs} (h : Fst S) (o : Int) : Fst (alS S o) := by
  by_cases e : alE S o = 0
  · obtain ⟨a, _, _, _, hs, h1, h2⟩ := al_at e
    rw [hs]
    refine h.set (.inl ?_)
    by_cases hf : S.fi ≤ S.lst
    · exact hf
    · have := h S.lst (by omega)
      omega
  · rw [(al_no e).2]; exact h

/-- a table's frame is the hypervisor's, once, and none of O -/
structure Tf (S : Fs) (O : Nat → Prop) (f : Nat) : Prop where
  n : f < S.n
  c : S.cl f = 0
  t : S.ti f = 1
  fi : S.fi ≤ f
  o : ¬ O f
theorem Tf.kp {S S' : Fs} {O P : Nat → Prop} {f : Nat} (h : Tf S O f) (k : Kp P S S') (hp : P f) : Tf S' O f :=
  ⟨by rw [k.n]; exact h.n, by rw [k.cl f hp]; exact h.c, by rw [k.ti f hp]; exact h.t, by rw [k.fi]; exact h.fi, h.o⟩
/-- the frames of tables -/
def TF (x : Tp) (f : Nat) : Prop := x.rt = f ∨ ∃ k, k < 32 ∧ x.lo k = f
/-- what stays true; O: others' tables -/
structure Iv (n : Nat) (O : Nat → Prop) (z : Zs) : Prop where
  n2 : n ≤ 65536
  len : z.m.length = n * 256
  ok : Ok z.S
  fst : Fst z.S
  rt : -1 ≤ z.x.rt ∧ z.x.rt < n
  lo : ∀ k, k < 32 → -1 ≤ z.x.lo k ∧ z.x.lo k < n
  pe : ∀ k j, k < 32 → j < 32 → 0 ≤ z.x.lo k → e8 z.m (z.x.lo k).toNat j = pgN (z.x.pg (32 * k + j))
  re : 0 ≤ z.x.rt → ∀ k, k < 32 → e8 z.m z.x.rt.toNat k = loN (z.x.lo k)
  pn : ∀ p, p < 1024 → z.x.lo (p / 32) < 0 → z.x.pg p = none
  pf : ∀ p a, p < 1024 → z.x.pg p = some a → a.f < n ∧ mayR a.r a.w a.x = true
  ro : ∀ f : Nat, z.x.rt = f → Tf z.S O f
  lw : ∀ k (f : Nat), k < 32 → z.x.lo k = f → Tf z.S O f ∧ z.x.rt ≠ f
  inj : ∀ k l, k < 32 → l < 32 → 0 ≤ z.x.lo k → z.x.lo k = z.x.lo l → k = l
  cls : z.x.rt < 0 → ∀ k, k < 32 → z.x.lo k < 0
  oth : ∀ f, O f → z.S.cl f = 0
/-- others' tables stand as they were -/
structure Out (O : Nat → Prop) (z z' : Zs) : Prop where
  kp : Kp O z.S z'.S
  e : ∀ f j, O f → j < 32 → e8 z'.m f j = e8 z.m f j
theorem Out.refl (O : Nat → Prop) (z : Zs) : Out O z z := ⟨Kp.refl _ _, fun _ _ _ _ => rfl⟩
theorem Out.trans {O : Nat → Prop} {a b c : Zs} (h : Out O a b) (k : Out O b c) : Out O a c := ⟨h.kp.trans k.kp, fun f j hf hj => (k.e f j hf hj).trans (h.e f j hf hj)⟩
section
variable {n : Nat} {O : Nat → Prop} {z : Zs}
theorem Iv.tf (h : Iv n O z) {f : Nat} (hf : TF z.x f) : Tf z.S O f := by
  rcases hf with hf | ⟨k, hk, hf⟩
  · exact h.ro f hf
  · exact (h.lw k f hk hf).1
theorem Iv.zero (h : Iv n O z) {f : Nat} (hf : O f ∨ TF z.x f) : z.S.cl f = 0 := by
  rcases hf with hf | hf
  · exact h.oth f hf
  · exact (h.tf hf).c
/-- frames turned alone -/
theorem Iv.frames (h : Iv n O z) {S' : Fs} (ok : Ok S') (fst : Fst S') (k : Kp (fun f => O f ∨ TF z.x f) z.S S') : Iv n O ⟨z.m, S', z.x⟩ ∧ Out O z ⟨z.m, S', z.x⟩ :=
  ⟨⟨h.n2, h.len, ok, fst, h.rt, h.lo, h.pe, h.re, h.pn, h.pf, fun f hf => (h.ro f hf).kp k (.inr (.inl hf)), fun l f hl hf => ⟨(h.lw l f hl hf).1.kp k (.inr (.inr ⟨l, hl, hf⟩)), (h.lw l f hl hf).2⟩, h.inj, h.cls,
    fun f hf => (k.cl f (.inl hf)).trans (h.oth f hf)⟩, k.mono fun f hf => .inl hf, fun _ _ _ _ => rfl⟩
theorem Iv.hold (h : Iv n O z) (f : Int) {gu : Nat} (hg : 1 ≤ gu) : Iv n O ⟨z.m, hoS z.S f gu, z.x⟩ ∧ Out O z ⟨z.m, hoS z.S f gu, z.x⟩ :=
  h.frames (hoS_ok h.ok f gu) (fst_ho h.fst f gu) (kp_ho (fun _ hf => h.zero hf) f hg)
theorem Iv.free (h : Iv n O z) (f : Int) {gu : Nat} (hg : 1 ≤ gu) : Iv n O ⟨z.m, frS z.S f gu, z.x⟩ ∧ Out O z ⟨z.m, frS z.S f gu, z.x⟩ :=
  h.frames (frS_ok h.ok f gu) (fst_fr h.fst f gu) (kp_fr (fun _ hf => h.zero hf) f hg)
theorem Iv.alloc (h : Iv n O z) (o : Int) : Iv n O ⟨z.m, alS z.S o, z.x⟩ ∧ Out O z ⟨z.m, alS z.S o, z.x⟩ :=
  h.frames (alS_ok h.ok o) (fst_al h.fst o) (kp_al (fun _ hf => by rw [h.zero hf]; decide) o)
/-- a table's place in the memory -/
theorem Iv.fits (h : Iv n O z) {f : Int} (h0 : 0 ≤ f) (h1 : f < n) : f.toNat * 256 + 256 ≤ z.m.length := by rw [h.len]; omega
/-- a page's entry turned -/
theorem Iv.page (h : Iv n O z) {p : Nat} (hp : p < 1024) (hl : 0 ≤ z.x.lo (p / 32)) (o : Option Pg) (ho : ∀ a, o = some a → a.f < n ∧ mayR a.r a.w a.x = true) :
    Iv n O ⟨set8 z.m (z.x.lo (p / 32)).toNat (p % 32) (pgN o), z.S, { z.x with pg := upd z.x.pg p o }⟩ ∧ Out O z ⟨set8 z.m (z.x.lo (p / 32)).toNat (p % 32) (pgN o), z.S, { z.x with pg := upd z.x.pg p o }⟩ := by
  have hk : p / 32 < 32 := by omega
  have hj : p % 32 < 32 := by omega
  obtain ⟨l1, l2⟩ := h.lo _ hk
  have hfit := h.fits hl l2
  have hn := h.n2
  have hv := pgN_fits o (fun a ha => by have := (ho a ha).1; omega)
  have E := fun f j (hj' : j < 32) => e8_set z.m (f' := f) (j' := j) hfit hj hj' hv.1 hv.2
  obtain ⟨F, hF⟩ := Int.eq_ofNat_of_zero_le hl
  have T := h.lw _ F hk hF
  refine ⟨⟨h.n2, by rw [set8_len _ _ hfit hj]; exact h.len, h.ok, h.fst, h.rt, h.lo, fun k j hk' hj' h0 => ?_, fun h0 k hk' => ?_, fun q hq hq0 => ?_, fun q a hq hqa => ?_, h.ro, h.lw, h.inj, h.cls, h.oth⟩, Kp.refl _ _, fun f j hf hj' => ?_⟩
  · show e8 _ _ j = pgN (upd z.x.pg p o (32 * k + j))
    rw [E _ _ hj']
    by_cases e : 32 * k + j = p
    · rw [if_pos ⟨by rw [show p / 32 = k by omega], by omega⟩, e, upd_self]
    · rw [upd_other _ _ _ e]
      by_cases e2 : (z.x.lo k).toNat = (z.x.lo (p / 32)).toNat ∧ j = p % 32
      · have : k = p / 32 := h.inj _ _ hk' hk h0 (by have : 0 ≤ z.x.lo k := h0; omega)
        omega
      · rw [if_neg e2]; exact h.pe k j hk' hj' h0
  · show e8 _ z.x.rt.toNat k = loN (z.x.lo k)
    rw [E _ _ hk', if_neg (fun e => by
      have h0' : 0 ≤ z.x.rt := h0
      have := T.2
      omega)]
    exact h.re h0 k hk'
  · show upd z.x.pg p o q = none
    have hq0' : z.x.lo (q / 32) < 0 := hq0
    rw [upd_other _ _ _ (fun e => by subst e; omega)]
    exact h.pn q hq hq0
  · have hqa' : upd z.x.pg p o q = some a := hqa
    by_cases e : q = p
    · subst e
      rw [upd_self] at hqa'
      exact ho a hqa'
    · rw [upd_other _ _ _ e] at hqa'
      exact h.pf q a hq hqa'
  · show e8 _ f j = e8 z.m f j
    rw [E _ _ hj', if_neg (fun e => T.1.o (by
      have : f = F := by omega
      exact this ▸ hf))]
/-- a root's entry written and the lower tables turned -/
theorem take_ok {S : Fs} {n : Nat} (h : takeE n S = 0) : ∃ t : Nat, alE S 0 = 0 ∧ alR S 0 = t ∧ t < n ∧ t < S.n ∧ S.cl t = 17 ∧ takeS n S = S.set t 0 1 := by
  unfold takeE at h
  by_cases h0 : alE S 0 = 0
  · rw [if_neg (not_not_intro h0)] at h
    obtain ⟨a, ha, h1, h2, h3, h4, h5⟩ := al_at h0
    by_cases h6 : alR S 0 < n
    · have ha0 : a = 0 := by omega
      subst ha0
      exact ⟨S.lst, h0, h2, by omega, h4, h5, by unfold takeS; rw [if_neg (not_not_intro h0), if_pos h6]; exact h3⟩
    · rw [if_neg h6] at h
      omega
  · rw [if_pos h0] at h
    exact absurd h h0
theorem Iv.takeS (h : Iv n O z) : Ok (takeS n z.S) ∧ Fst (takeS n z.S) ∧ Kp (fun f => O f ∨ TF z.x f) z.S (takeS n z.S) := by
  have ka : Kp (fun f => O f ∨ TF z.x f) z.S (alS z.S 0) := kp_al (fun _ hf => by rw [h.zero hf]; decide) 0
  unfold Go.Proofs.YteghkhdpdeiocaaGreatDoor.takeS
  by_cases h0 : alE z.S 0 = 0
  · rw [if_neg (not_not_intro h0)]
    by_cases h6 : alR z.S 0 < n
    · rw [if_pos h6]
      exact ⟨alS_ok h.ok 0, fst_al h.fst 0, ka⟩
    · rw [if_neg h6]
      refine ⟨frS_ok (alS_ok h.ok 0) _ 0, fst_fr (fst_al h.fst 0) _ 0, ka.trans ?_⟩
      obtain ⟨a, ha, h1, h2, h3, h4, h5⟩ := al_at h0
      by_cases e : errL (alS z.S 0) (alR z.S 0) 0 0 = 0
      · obtain ⟨i, b, e1, e2, _, _, _, _, hs⟩ := fr_at e
        rw [hs]
        have hi : i = z.S.lst := by omega
        have hn : ¬ (O i ∨ TF z.x i) := fun ho => by
          have := h.zero ho
          rw [hi] at this
          omega
        split <;> exact Kp.set hn _ _
      · rw [fr_no e]; exact Kp.refl _ _
  · rw [if_pos h0]
    exact ⟨h.ok, h.fst, Kp.refl _ _⟩
theorem Iv.raise (h : Iv n O z) (hr : 0 ≤ z.x.rt) {k : Nat} (hk : k < 32) : Iv n O (raiZ n z k) ∧ Out O z (raiZ n z k) := by
  unfold raiZ
  by_cases hl : 0 ≤ z.x.lo k
  · rw [if_pos hl]; exact ⟨h, Out.refl _ _⟩
  · rw [if_neg hl]
    obtain ⟨tk1, tk2, tk3⟩ := h.takeS
    by_cases hz : takeE n z.S = 0
    · rw [if_pos hz]
      obtain ⟨t, t1, t2, t3, t4, t5, t6⟩ := take_ok hz
      have eM : takeM n z.m z.S = clearV z.m t := by unfold takeM; rw [if_pos hz, t2]
      rw [eM, t2]
      rw [t6] at tk1 tk2 tk3 ⊢
      have hn := h.n2
      have hlen := h.len
      obtain ⟨R, hR⟩ := Int.eq_ofNat_of_zero_le hr
      have TR := h.ro R hR
      have hRn := h.rt
      have c1 : t * 256 + 256 ≤ z.m.length := by omega
      have cl := clear_len z.m c1
      have c2 : R * 256 + 256 ≤ (clearV z.m t).length := by omega
      have hv := loN_fits (t : Int) (by omega)
      have E1 := fun f j (hj : j < 32) => e8_clear z.m (f := t) (f' := f) c1 hj
      have E2 := fun f j (hj : j < 32) => e8_set (clearV z.m t) (f := R) (j := k) (f' := f) (j' := j) c2 hk hj hv.1 hv.2
      have nt : ∀ f : Nat, O f ∨ TF z.x f → f ≠ t := fun f hf e => by
        have := h.zero hf
        rw [e] at this
        omega
      have tR : R ≠ t := nt R (.inr (.inl hR))
      have hrn : z.x.rt.toNat = R := by omega
      have cut : ¬ O t := fun ho => nt t (.inl ho) rfl
      have fi : z.S.fi ≤ t := by
        by_cases e : z.S.fi ≤ t
        · exact e
        · have := h.fst t (by omega)
          omega
      have Tt : Tf (z.S.set t 0 1) O t := ⟨t4, upd_self _ _ _, upd_self _ _ _, fi, cut⟩
      rw [hrn]
      refine ⟨⟨hn, by rw [set8_len _ _ c2 hk, cl]; exact hlen, tk1, tk2, h.rt, fun l hl' => ?_, fun l j hl' hj h0 => ?_, fun h0 l hl' => ?_, fun p hp hp0 => ?_, h.pf, fun f hf => (h.ro f hf).kp tk3 (.inr (.inl hf)), fun l f hl' hf => ?_, fun a b ha hb h0 e => ?_, fun h0 => ?_, fun f hf => (tk3.cl f (.inl hf)).trans (h.oth f hf)⟩, tk3.mono fun f hf => .inl hf, fun f j hf hj => ?_⟩
      · show -1 ≤ upd z.x.lo k (t : Int) l ∧ upd z.x.lo k (t : Int) l < n
        by_cases e : l = k
        · subst e; rw [upd_self]; omega
        · rw [upd_other _ _ _ e]; exact h.lo l hl'
      · have h0' : 0 ≤ upd z.x.lo k (t : Int) l := h0
        show e8 _ (upd z.x.lo k (t : Int) l).toNat j = pgN (z.x.pg (32 * l + j))
        by_cases e : l = k
        · subst e
          rw [upd_self, Int.toNat_natCast, E2 _ _ hj, if_neg (fun e => tR e.1.symm), E1 _ _ hj, if_pos rfl, h.pn (32 * l + j) (by omega) (by rw [show (32 * l + j) / 32 = l by omega]; omega)]
          rfl
        · rw [upd_other _ _ _ e] at h0' ⊢
          obtain ⟨F, hF⟩ := Int.eq_ofNat_of_zero_le h0'
          have hFt := nt F (.inr (.inr ⟨l, hl', hF⟩))
          have hFR := (h.lw l F hl' hF).2
          rw [E2 _ _ hj, if_neg (by omega), E1 _ _ hj, if_neg (by omega)]
          exact h.pe l j hl' hj h0'
      · show e8 _ z.x.rt.toNat l = loN (upd z.x.lo k (t : Int) l)
        rw [hrn, E2 _ _ hl']
        by_cases e : l = k
        · subst e; rw [if_pos ⟨rfl, rfl⟩, upd_self]
        · rw [if_neg (fun e' => e e'.2), upd_other _ _ _ e, E1 _ _ hl', if_neg tR, ← hrn]
          exact h.re hr l hl'
      · have hp0' : upd z.x.lo k (t : Int) (p / 32) < 0 := hp0
        by_cases e : p / 32 = k
        · rw [e, upd_self] at hp0'; omega
        · rw [upd_other _ _ _ e] at hp0'; exact h.pn p hp hp0'
      · have hf' : upd z.x.lo k (t : Int) l = f := hf
        by_cases e : l = k
        · subst e
          rw [upd_self] at hf'
          have : f = t := by omega
          subst this
          exact ⟨Tt, by show z.x.rt ≠ _; omega⟩
        · rw [upd_other _ _ _ e] at hf'
          exact ⟨(h.lw l f hl' hf').1.kp tk3 (.inr (.inr ⟨l, hl', hf'⟩)), (h.lw l f hl' hf').2⟩
      · have h0' : 0 ≤ upd z.x.lo k (t : Int) a := h0
        have e' : upd z.x.lo k (t : Int) a = upd z.x.lo k (t : Int) b := e
        by_cases ea : a = k
        · by_cases eb : b = k
          · omega
          · rw [ea, upd_self, upd_other _ _ _ eb] at e'
            exact absurd rfl (nt t (.inr (.inr ⟨b, hb, e'.symm⟩)))
        · by_cases eb : b = k
          · rw [eb, upd_self, upd_other _ _ _ ea] at e'
            exact absurd rfl (nt t (.inr (.inr ⟨a, ha, e'⟩)))
          · rw [upd_other _ _ _ ea] at e' h0'
            rw [upd_other _ _ _ eb] at e'
            exact h.inj a b ha hb h0' e'
      · have : z.x.rt < 0 := h0
        omega
      · show e8 (set8 (clearV z.m t) R k (loN t)) f j = e8 z.m f j
        rw [E2 _ _ hj, if_neg (fun (e : f = R ∧ j = k) => TR.o (e.1 ▸ hf)), E1 _ _ hj, if_neg (nt f (.inl hf))]
    · rw [if_neg hz]
      exact h.frames tk1 tk2 tk3
theorem rai_lo {k : Nat} (h : raiE n z k = 0) : 0 ≤ (raiZ n z k).x.lo k := by
  unfold raiE at h
  unfold raiZ
  by_cases hl : 0 ≤ z.x.lo k
  · rw [if_pos hl]; exact hl
  · rw [if_neg hl] at h ⊢
    obtain ⟨t, _, t2, _⟩ := take_ok h
    rw [if_pos h, t2]
    show 0 ≤ upd z.x.lo k (t : Int) k
    rw [upd_self]
    omega
theorem Iv.mapD (h : Iv n O z) {p : Nat} (hp : p < 1024) (hl : 0 ≤ z.x.lo (p / 32)) (y : Pg) (hy : y.f < n ∧ mayR y.r y.w y.x = true) : Iv n O (mapD z p y) ∧ Out O z (mapD z p y) :=
  h.page hp hl (some y) (fun a e => by cases e; exact hy)
theorem mapQ_ok {gu : Nat} {p f : Int} {a b c : Bool} (h : mapQ gu n z p f a b c = 0) : 0 ≤ z.x.rt ∧ ∃ P F : Nat, p = P ∧ f = F ∧ P < 1024 ∧ F < n ∧ mayR a b c = true ∧ z.x.pg P = none ∧ F < z.S.n ∧ z.S.cl F = gu ∧ hoE z.S f gu = 0 := by
  unfold mapQ at h
  by_cases h1 : z.x.rt < 0
  · rw [if_pos h1] at h; omega
  rw [if_neg h1] at h
  by_cases h2 : 0 ≤ p ∧ p < 1024 ∧ mayR a b c = true ∧ 0 ≤ f ∧ f < n
  · rw [if_neg (not_not_intro h2)] at h
    by_cases h3 : (z.x.pg p.toNat).isSome = true
    · rw [if_pos h3] at h; omega
    rw [if_neg h3] at h
    by_cases h4 : f < z.S.n ∧ z.S.cl f.toNat = gu
    · rw [if_neg (not_not_intro h4)] at h
      refine ⟨by omega, p.toNat, f.toNat, by omega, by omega, by omega, by omega, h2.2.2.1, ?_, by omega, h4.2, h⟩
      cases hx : z.x.pg p.toNat with
      | none => rfl
      | some _ => rw [hx] at h3; simp at h3
    · rw [if_pos h4] at h; omega
  · rw [if_pos h2] at h; omega
theorem Iv.map (h : Iv n O z) {gu : Nat} (hg : 1 ≤ gu) (p f : Int) (a b c : Bool) : Iv n O (mapZ gu n z p f a b c) ∧ Out O z (mapZ gu n z p f a b c) := by
  unfold mapZ
  by_cases h0 : mapQ gu n z p f a b c = 0
  · rw [if_neg (not_not_intro h0)]
    obtain ⟨hr, P, F, rfl, rfl, hP, hF, hm, hpg, hFn, hcl, hho⟩ := mapQ_ok h0
    rw [Int.toNat_natCast, Int.toNat_natCast]
    obtain ⟨i1, o1⟩ := h.hold (F : Int) hg
    obtain ⟨i2, o2⟩ := i1.raise hr (k := P / 32) (by omega)
    by_cases h1 : raiE n ⟨z.m, hoS z.S F gu, z.x⟩ (P / 32) = 0
    · rw [if_pos h1]
      obtain ⟨i3, o3⟩ := i2.mapD hP (rai_lo h1) ⟨F, a, b, c⟩ ⟨hF, hm⟩
      exact ⟨i3, (o1.trans o2).trans o3⟩
    · rw [if_neg h1]
      have hl : ¬ 0 ≤ z.x.lo (P / 32) := fun hl => h1 (by unfold raiE; rw [if_pos hl])
      have ez : raiZ n ⟨z.m, hoS z.S F gu, z.x⟩ (P / 32) = ⟨z.m, Go.Proofs.YteghkhdpdeiocaaGreatDoor.takeS n (hoS z.S F gu), z.x⟩ := by
        unfold raiZ
        unfold raiE at h1
        rw [if_neg hl] at h1 ⊢
        rw [if_neg h1]
      rw [ez] at i2 o2 ⊢
      obtain ⟨i3, o3⟩ := i2.free (F : Int) hg
      exact ⟨i3, (o1.trans o2).trans o3⟩
  · rw [if_pos h0]; exact ⟨h, Out.refl _ _⟩
theorem prQ_ok {p : Int} {a b c : Bool} (h : prQ z p a b c = 0) : 0 ≤ z.x.rt ∧ ∃ (P : Nat) (y : Pg), p = P ∧ P < 1024 ∧ mayR a b c = true ∧ z.x.pg P = some y := by
  unfold prQ at h
  by_cases h1 : z.x.rt < 0
  · rw [if_pos h1] at h; omega
  rw [if_neg h1] at h
  by_cases h2 : 0 ≤ p ∧ p < 1024 ∧ mayR a b c = true
  · rw [if_neg (not_not_intro h2)] at h
    cases hx : z.x.pg p.toNat with
    | none => rw [hx] at h; simp at h
    | some y => exact ⟨by omega, p.toNat, y, by omega, by omega, h2.2.2, hx⟩
  · rw [if_pos h2] at h; omega
theorem unQ_ok {p : Int} (h : unQ z p = 0) : 0 ≤ z.x.rt ∧ ∃ (P : Nat) (y : Pg), p = P ∧ P < 1024 ∧ z.x.pg P = some y := by
  unfold unQ at h
  by_cases h1 : z.x.rt < 0
  · rw [if_pos h1] at h; omega
  rw [if_neg h1] at h
  by_cases h2 : 0 ≤ p ∧ p < 1024
  · rw [if_neg (not_not_intro h2)] at h
    cases hx : z.x.pg p.toNat with
    | none => rw [hx] at h; simp at h
    | some y => exact ⟨by omega, p.toNat, y, by omega, by omega, hx⟩
  · rw [if_pos h2] at h; omega
theorem Iv.has (h : Iv n O z) {p : Nat} {y : Pg} (hp : p < 1024) (hy : z.x.pg p = some y) : 0 ≤ z.x.lo (p / 32) := by
  by_cases e : z.x.lo (p / 32) < 0
  · rw [h.pn p hp e] at hy
    cases hy
  · omega
theorem Iv.protect (h : Iv n O z) (p : Int) (a b c : Bool) : Iv n O (prZ z p a b c) ∧ Out O z (prZ z p a b c) := by
  unfold prZ
  by_cases h0 : prQ z p a b c = 0
  · rw [if_pos h0]
    obtain ⟨hr, P, y, rfl, hP, hm, hy⟩ := prQ_ok h0
    rw [Int.toNat_natCast, hy]
    exact h.mapD hP (h.has hP hy) _ ⟨(h.pf P y hP hy).1, hm⟩
  · rw [if_neg h0]; exact ⟨h, Out.refl _ _⟩
theorem cnt_zero {pg : Nat → Option Pg} {k : Nat} (h : cnt pg k = 0) {j : Nat} (hj : j < 32) : pg (32 * k + j) = none := by
  unfold cnt at h
  have := List.countP_eq_zero.1 h j (List.mem_range.2 hj)
  cases hx : pg (32 * k + j) with
  | none => rfl
  | some _ => rw [hx] at this; simp at this
theorem Iv.unA (h : Iv n O z) {gu : Nat} (hg : 1 ≤ gu) {p : Nat} (hp : p < 1024) (hl : 0 ≤ z.x.lo (p / 32)) : Iv n O (unA gu z p) ∧ Out O z (unA gu z p) := by
  obtain ⟨i1, o1⟩ := h.page hp hl none (fun a e => by cases e)
  obtain ⟨i2, o2⟩ := i1.free (pgF (z.x.pg p) : Int) hg
  exact ⟨i2, o1.trans o2⟩
theorem Iv.raze (h : Iv n O z) (hr : 0 ≤ z.x.rt) {k : Nat} (hk : k < 32) (hl : 0 ≤ z.x.lo k) (hc : cnt z.x.pg k = 0) : Iv n O (razZ z k) ∧ Out O z (razZ z k) := by
  obtain ⟨R, hR⟩ := Int.eq_ofNat_of_zero_le hr
  obtain ⟨F, hF⟩ := Int.eq_ofNat_of_zero_le hl
  have TR := h.ro R hR
  obtain ⟨TF', nRF⟩ := h.lw k F hk hF
  have hRn := h.rt
  have hlen := h.len
  have c2 : R * 256 + 256 ≤ z.m.length := by omega
  have E2 := fun f j (hj : j < 32) => e8_set z.m (f := R) (j := k) (f' := f) (j' := j) (v := 0) c2 hk hj (by omega) (by omega)
  have hrn : z.x.rt.toNat = R := by omega
  have eS : frS z.S (z.x.lo k) 0 = z.S.set F 17 0 := by
    rw [hF]
    have e : errL z.S (F : Int) ((0 : Nat) : Int) ((0 : Nat) : Int) = 0 := errL_of TF'.n (by decide) TF'.c TF'.fi
    obtain ⟨i, a, e1, _, _, _, _, _, hs⟩ := fr_at e
    have : i = F := by omega
    subst this
    rw [show ((0 : Nat) : Int) = 0 from rfl] at hs
    rw [hs, if_neg (by rw [TF'.t]; decide)]
  unfold razZ
  rw [eS, hrn]
  have ok' : Ok (z.S.set F 17 0) := h.ok.set (by decide) ⟨fun _ => rfl, fun e => absurd rfl e⟩
  have fs' : Fst (z.S.set F 17 0) := h.fst.set (.inl TF'.fi)
  have kp : ∀ P : Nat → Prop, ¬ P F → Kp P z.S (z.S.set F 17 0) := fun P hP => Kp.set hP _ _
  have ne : ∀ l (f : Nat), l < 32 → z.x.lo l = f → l ≠ k → f ≠ F := fun l f hl' hf e e' => e (h.inj l k hl' hk (by omega) (by omega))
  refine ⟨⟨h.n2, by rw [set8_len _ _ c2 hk]; exact hlen, ok', fs', h.rt, fun l hl' => ?_, fun l j hl' hj h0 => ?_, fun h0 l hl' => ?_, fun p hp hp0 => ?_, h.pf, fun f hf => (h.ro f hf).kp (kp (fun x => x = f) (fun e => by
      have hf' : z.x.rt = f := hf
      omega)) rfl, fun l f hl' hf => ?_, fun a b ha hb h0 e => ?_, fun h0 => ?_, fun f hf => ?_⟩, kp O TF'.o, fun f j hf hj => ?_⟩
  · show -1 ≤ upd z.x.lo k (-1) l ∧ upd z.x.lo k (-1) l < n
    by_cases e : l = k
    · subst e; rw [upd_self]; omega
    · rw [upd_other _ _ _ e]; exact h.lo l hl'
  · have h0' : 0 ≤ upd z.x.lo k (-1) l := h0
    show e8 _ (upd z.x.lo k (-1) l).toNat j = pgN (z.x.pg (32 * l + j))
    by_cases e : l = k
    · subst e; rw [upd_self] at h0'; omega
    · rw [upd_other _ _ _ e] at h0' ⊢
      obtain ⟨G, hG⟩ := Int.eq_ofNat_of_zero_le h0'
      have := (h.lw l G hl' hG).2
      rw [E2 _ _ hj, if_neg (by omega)]
      exact h.pe l j hl' hj h0'
  · show e8 _ z.x.rt.toNat l = loN (upd z.x.lo k (-1) l)
    rw [hrn, E2 _ _ hl']
    by_cases e : l = k
    · subst e; rw [if_pos ⟨rfl, rfl⟩, upd_self]; rfl
    · rw [if_neg (fun e' => e e'.2), upd_other _ _ _ e, ← hrn]
      exact h.re hr l hl'
  · show z.x.pg p = none
    by_cases e : p / 32 = k
    · have := cnt_zero hc (j := p % 32) (by omega)
      rwa [show 32 * k + p % 32 = p by omega] at this
    · have hp0' : upd z.x.lo k (-1) (p / 32) < 0 := hp0
      rw [upd_other _ _ _ e] at hp0'
      exact h.pn p hp hp0'
  · have hf' : upd z.x.lo k (-1) l = f := hf
    by_cases e : l = k
    · subst e; rw [upd_self] at hf'; omega
    · rw [upd_other _ _ _ e] at hf'
      exact ⟨(h.lw l f hl' hf').1.kp (kp (fun x => x = f) (fun e' => ne l f hl' hf' e e'.symm)) rfl, (h.lw l f hl' hf').2⟩
  · have h0' : 0 ≤ upd z.x.lo k (-1) a := h0
    have e' : upd z.x.lo k (-1) a = upd z.x.lo k (-1) b := e
    by_cases ea : a = k
    · rw [ea, upd_self] at h0'; omega
    · by_cases eb : b = k
      · rw [eb, upd_self] at e'
        rw [e'] at h0'
        omega
      · rw [upd_other _ _ _ ea] at e' h0'
        rw [upd_other _ _ _ eb] at e'
        exact h.inj a b ha hb h0' e'
  · have : z.x.rt < 0 := h0
    omega
  · show upd z.S.cl F 17 f = 0
    rw [upd_other _ _ _ (fun (e : f = F) => TF'.o (e ▸ hf))]
    exact h.oth f hf
  · show e8 (set8 z.m R k 0) f j = e8 z.m f j
    rw [E2 _ _ hj, if_neg (fun (e : f = R ∧ j = k) => TR.o (e.1 ▸ hf))]
theorem Iv.unmap (h : Iv n O z) {gu : Nat} (hg : 1 ≤ gu) (p : Int) : Iv n O (unZ gu z p) ∧ Out O z (unZ gu z p) := by
  unfold unZ
  by_cases h0 : unQ z p = 0
  · rw [if_pos h0]
    obtain ⟨hr, P, y, rfl, hP, hy⟩ := unQ_ok h0
    rw [Int.toNat_natCast]
    have hl := h.has hP hy
    obtain ⟨i1, o1⟩ := h.unA hg hP hl
    unfold unD
    by_cases hc : cnt (Go.Proofs.YteghkhdpdeiocaaGreatDoor.unA gu z P).x.pg (P / 32) = 0
    · rw [if_pos hc]
      obtain ⟨i2, o2⟩ := i1.raze hr (k := P / 32) (by omega) hl hc
      exact ⟨i2, o1.trans o2⟩
    · rw [if_neg hc]; exact ⟨i1, o1⟩
  · rw [if_neg h0]; exact ⟨h, Out.refl _ _⟩
theorem Iv.unmaps (h : Iv n O z) {gu : Nat} (hg : 1 ≤ gu) : ∀ p, Iv n O (unsZ gu z p) ∧ Out O z (unsZ gu z p)
  | 0 => ⟨h, Out.refl _ _⟩
  | p + 1 => by
    obtain ⟨i1, o1⟩ := h.unmaps hg p
    obtain ⟨i2, o2⟩ := i1.unmap hg (p : Int)
    exact ⟨i2, o1.trans o2⟩
end
end Go.Proofs.YteghkhdpdeiocaaGreatDoor
