/-
  Frames by plain functions: whose each is, how often, what a call makes of them and tells.
-/
import Derived.ProofKit
namespace Go.Proofs.YteghkhdpdeiocaaGreatDoor
set_option linter.unusedVariables false

def upd {α : Type} (S : Nat → α) (i : Nat) (x : α) : Nat → α := fun k => if k = i then x else S k
theorem upd_self {α : Type} (S : Nat → α) (i : Nat) (x : α) : upd S i x i = x := by simp [upd]
theorem upd_other {α : Type} (S : Nat → α) (i : Nat) (x : α) {k : Nat} (h : k ≠ i) : upd S i x k = S k := by simp [upd, h]
/-- frames: how many, whose each is (17: nobody's), how often, how many are the first, the quotas -/
structure Fs where
  n : Nat
  cl : Nat → Nat
  ti : Nat → Nat
  fi : Nat
  qu : Nat → Int
/-- how many of the first n stand so -/
def cn (cl : Nat → Nat) (n k : Nat) : Nat := (List.range n).countP (fun i => decide (cl i = k))
theorem cn_succ (cl : Nat → Nat) (n k : Nat) : cn cl (n + 1) k = cn cl n k + if cl n = k then 1 else 0 := by
  by_cases h : cl n = k <;> simp [cn, List.range_succ, List.countP_append, h]
theorem cn_le (cl : Nat → Nat) (n k : Nat) : cn cl n k ≤ n := by
  have := List.countP_le_length (p := fun i => decide (cl i = k)) (l := List.range n)
  simpa [cn] using this
theorem cn_out : ∀ (cl : Nat → Nat) (n k f c : Nat), n ≤ f → cn (upd cl f c) n k = cn cl n k
  | _, 0, _, _, _, _ => rfl
  | cl, n + 1, k, f, c, h => by
    rw [cn_succ, cn_succ, cn_out cl n k f c (by omega), upd_other _ _ _ (by omega)]
theorem cn_upd : ∀ (cl : Nat → Nat) (n k f c : Nat), f < n → cn (upd cl f c) n k + (if cl f = k then 1 else 0) = cn cl n k + if c = k then 1 else 0
  | cl, n + 1, k, f, c, h => by
    rw [cn_succ, cn_succ]
    by_cases e : f = n
    · subst e
      rw [cn_out cl f k f c (Nat.le_refl _), upd_self]
      omega
    · have := cn_upd cl n k f c (by omega)
      rw [upd_other _ _ _ (by omega : n ≠ f)]
      omega
theorem cn_pos : ∀ (cl : Nat → Nat) (n f : Nat), f < n → 0 < cn cl n (cl f)
  | cl, n + 1, f, h => by
    rw [cn_succ]
    by_cases e : f = n
    · subst e; simp
    · have := cn_pos cl n f (by omega)
      omega
theorem cn_some : ∀ (cl : Nat → Nat) (n k : Nat), 0 < cn cl n k → ∃ f, f < n ∧ cl f = k
  | cl, 0, k, h => by simp [cn] at h
  | cl, n + 1, k, h => by
    rw [cn_succ] at h
    by_cases e : cl n = k
    · exact ⟨n, by omega, e⟩
    · rw [if_neg e] at h
      obtain ⟨f, h1, h2⟩ := cn_some cl n k (by omega)
      exact ⟨f, by omega, h2⟩
theorem cn_same (cl : Nat → Nat) (n k f : Nat) : cn (upd cl f (cl f)) n k = cn cl n k := by
  have : upd cl f (cl f) = cl := by
    funext i
    by_cases h : i = f <;> simp [upd, h]
  rw [this]
def Fs.ct (S : Fs) (k : Nat) : Nat := cn S.cl S.n k
def Fs.set (S : Fs) (f c t : Nat) : Fs := { S with cl := upd S.cl f c, ti := upd S.ti f t }
def Fs.lst (S : Fs) : Nat := ((List.range S.n).find? (fun i => decide (S.cl i = 17))).getD 0
/-- frames that New and calls make -/
structure Ok (S : Fs) : Prop where
  n1 : 1 ≤ S.n
  n2 : S.n ≤ 65536
  f : S.fi ≤ S.n
  c : ∀ i, S.cl i ≤ 17
  t : ∀ i, i < S.n → (S.cl i = 17 → S.ti i = 0) ∧ (S.cl i ≠ 17 → 1 ≤ S.ti i ∧ S.ti i ≤ 65536)
  q : ∀ k, 0 ≤ S.qu k ∧ S.qu k ≤ 9223372036854775807
theorem find_least : ∀ (p : Nat → Bool) (n k : Nat), k < n → p k = true → (∀ i, i < k → p i = false) → (List.range n).find? p = some k := by
  intro p n
  induction n with
  | zero => intro k h; omega
  | succ n ih =>
    intro k h h1 h2
    rw [List.range_succ, List.find?_append]
    by_cases e : k = n
    · subst e
      rw [List.find?_eq_none.2 (fun x hx => by simpa using h2 x (List.mem_range.1 hx))]
      simp [h1]
    · rw [ih k (by omega) h1 h2]
      rfl
theorem Fs.lst_eq (S : Fs) {k : Nat} (h : k < S.n) (h1 : S.cl k = 17) (h2 : ∀ i, i < k → S.cl i ≠ 17) : S.lst = k := by
  rw [Fs.lst, find_least _ _ k h (by simp [h1]) (fun i hi => by simp [h2 i hi])]
  rfl
theorem exists_least {P : Nat → Prop} [DecidablePred P] : ∀ (n f : Nat), f < n → P f → ∃ k, k ≤ f ∧ P k ∧ ∀ i, i < k → ¬ P i
  | 0, f, h, _ => by omega
  | n + 1, f, h, hf => by
    by_cases e : ∃ i, i < f ∧ P i
    · obtain ⟨i, hi, hp⟩ := e
      obtain ⟨k, h1, h2, h3⟩ := exists_least n i (by omega) hp
      exact ⟨k, by omega, h2, h3⟩
    · exact ⟨f, Nat.le_refl _, hf, fun i hi hp => e ⟨i, hi, hp⟩⟩
theorem Fs.lst_of (S : Fs) (h : 0 < S.ct 17) : S.lst < S.n ∧ S.cl S.lst = 17 ∧ ∀ i, i < S.lst → S.cl i ≠ 17 := by
  obtain ⟨f, h1, h2⟩ := cn_some _ _ _ h
  obtain ⟨k, k1, k2, k3⟩ := exists_least (P := fun i => S.cl i = 17) S.n f h1 h2
  rw [S.lst_eq (k := k) (by omega) k2 k3]
  exact ⟨by omega, k2, k3⟩
theorem Ok.set {S : Fs} (h : Ok S) {f c t : Nat} (hc : c ≤ 17) (ht : (c = 17 → t = 0) ∧ (c ≠ 17 → 1 ≤ t ∧ t ≤ 65536)) : Ok (S.set f c t) := by
  refine ⟨h.n1, h.n2, h.f, fun i => ?_, fun i hi => ?_, h.q⟩
  · show upd S.cl f c i ≤ 17
    by_cases e : i = f
    · subst e; rw [upd_self]; exact hc
    · rw [upd_other _ _ _ e]; exact h.c i
  · show (upd S.cl f c i = 17 → upd S.ti f t i = 0) ∧ (upd S.cl f c i ≠ 17 → 1 ≤ upd S.ti f t i ∧ upd S.ti f t i ≤ 65536)
    by_cases e : i = f
    · subst e; rw [upd_self, upd_self]; exact ht
    · rw [upd_other _ _ _ e, upd_other _ _ _ e]; exact h.t i hi
/-- the first frames are the hypervisor's -/
def Fst (S : Fs) : Prop := ∀ i, i < S.fi → S.cl i = 0
theorem Fst.set {S : Fs} (h : Fst S) {f c t : Nat} (hf : S.fi ≤ f ∨ c = S.cl f) : Fst (S.set f c t) := by
  intro i hi
  show upd S.cl f c i = 0
  by_cases e : i = f
  · subst e
    rw [upd_self]
    rcases hf with hf | hf
    · have : i < S.fi := hi
      omega
    · rw [hf]; exact h i hi
  · rw [upd_other _ _ _ e]; exact h i hi

/-- is it an owner -/
def isO (o : Int) : Prop := 0 ≤ o ∧ o ≤ 16
instance (o : Int) : Decidable (isO o) := by unfold isO; infer_instance
/-- check's error -/
def errC (S : Fs) (f o b : Int) : Int := if isO o ∧ isO b ∧ 0 ≤ f ∧ f < S.n then (if (S.cl f.toNat : Int) = o then 0 else 15) else 2
def errL (S : Fs) (f o b : Int) : Int := if errC S f o b = 0 then (if f < S.fi then 21 else 0) else errC S f o b
theorem errC_ok {S : Fs} {f o b : Int} (h : errC S f o b = 0) : ∃ i a c : Nat, f = i ∧ o = a ∧ b = c ∧ i < S.n ∧ a ≤ 16 ∧ c ≤ 16 ∧ S.cl i = a := by
  unfold errC at h
  split at h
  · rename_i h1
    split at h
    · rename_i h2
      obtain ⟨⟨a1, a2⟩, ⟨b1, b2⟩, f1, f2⟩ := h1
      exact ⟨f.toNat, o.toNat, b.toNat, by omega, by omega, by omega, by omega, by omega, by omega, by omega⟩
    · omega
  · omega
theorem errC_range (S : Fs) (f o b : Int) : errC S f o b = 0 ∨ errC S f o b = 2 ∨ errC S f o b = 15 := by
  unfold errC
  split
  · split <;> simp
  · simp
theorem errL_ok {S : Fs} {f o b : Int} (h : errL S f o b = 0) : errC S f o b = 0 ∧ (S.fi : Int) ≤ f := by
  unfold errL at h
  split at h
  · rename_i h1
    split at h
    · omega
    · exact ⟨h1, by omega⟩
  · rename_i h1
    exact absurd h h1
theorem errL_range (S : Fs) (f o b : Int) : errL S f o b = 0 ∨ errL S f o b = 2 ∨ errL S f o b = 15 ∨ errL S f o b = 21 := by
  have := errC_range S f o b
  unfold errL
  split
  · split <;> simp
  · omega
def alE (S : Fs) (o : Int) : Int := if isO o then (if S.qu o.toNat ≤ S.ct o.toNat then 19 else if S.ct 17 = 0 then 20 else 0) else 2
def alR (S : Fs) (o : Int) : Int := if alE S o = 0 then S.lst else 0
def alS (S : Fs) (o : Int) : Fs := if alE S o = 0 then S.set S.lst o.toNat 1 else S
theorem alE_ok {S : Fs} {o : Int} (h : alE S o = 0) : ∃ a : Nat, o = a ∧ a ≤ 16 ∧ (S.ct a : Int) < S.qu a ∧ 0 < S.ct 17 := by
  unfold alE at h
  split at h
  · rename_i h1
    obtain ⟨h1, h2⟩ := h1
    split at h
    · omega
    · split at h
      · omega
      · exact ⟨o.toNat, by omega, by omega, by omega, by omega⟩
  · omega
theorem alS_ok {S : Fs} (h : Ok S) (o : Int) : Ok (alS S o) := by
  unfold alS
  split
  · rename_i e
    obtain ⟨a, rfl, h1, _, h3⟩ := alE_ok e
    obtain ⟨l1, l2, l3⟩ := S.lst_of h3
    exact h.set (by simp; omega) ⟨by simp; omega, fun _ => ⟨by omega, by omega⟩⟩
  · exact h
def hoE (S : Fs) (f o : Int) : Int := if errC S f o o = 0 then (if S.ti f.toNat = 65536 then 18 else 0) else errC S f o o
def hoS (S : Fs) (f o : Int) : Fs := if hoE S f o = 0 then S.set f.toNat (S.cl f.toNat) (S.ti f.toNat + 1) else S
theorem hoE_ok {S : Fs} {f o : Int} (h : hoE S f o = 0) : errC S f o o = 0 ∧ S.ti f.toNat ≠ 65536 := by
  unfold hoE at h
  split at h
  · rename_i h1
    split at h
    · omega
    · exact ⟨h1, by assumption⟩
  · rename_i h1
    exact absurd h h1
theorem hoS_ok {S : Fs} (h : Ok S) (f o : Int) : Ok (hoS S f o) := by
  unfold hoS
  split
  · rename_i e
    obtain ⟨e1, e2⟩ := hoE_ok e
    obtain ⟨i, a, c, rfl, rfl, _, hi, ha, _, hc⟩ := errC_ok e1
    simp only [Int.toNat_natCast] at e2 ⊢
    have := (h.t i hi).2 (by omega)
    exact h.set (by omega) ⟨by omega, fun _ => ⟨by omega, by omega⟩⟩
  · exact h
def frB (S : Fs) (f o : Int) : Bool := decide (errL S f o o = 0) && decide (S.ti f.toNat ≤ 1)
def frS (S : Fs) (f o : Int) : Fs := if errL S f o o = 0 then (if 1 < S.ti f.toNat then S.set f.toNat (S.cl f.toNat) (S.ti f.toNat - 1) else S.set f.toNat 17 0) else S
theorem frS_ok {S : Fs} (h : Ok S) (f o : Int) : Ok (frS S f o) := by
  unfold frS
  split
  · rename_i e
    obtain ⟨e1, e2⟩ := errL_ok e
    obtain ⟨i, a, c, rfl, rfl, _, hi, ha, _, hc⟩ := errC_ok e1
    simp only [Int.toNat_natCast] at e2 ⊢
    have := (h.t i hi).2 (by omega)
    split
    · exact h.set (by omega) ⟨by omega, fun _ => ⟨by omega, by omega⟩⟩
    · exact h.set (by omega) ⟨fun _ => rfl, fun h => absurd rfl h⟩
  · exact h
def moE (S : Fs) (f a b : Int) : Int := if errL S f a b = 0 then (if 1 < S.ti f.toNat then 21 else if a = b then 0 else if S.qu b.toNat ≤ S.ct b.toNat then 19 else 0) else errL S f a b
def moS (S : Fs) (f a b : Int) : Fs := if moE S f a b = 0 ∧ a ≠ b then S.set f.toNat b.toNat 1 else S
theorem moE_ok {S : Fs} {f a b : Int} (h : moE S f a b = 0) : errL S f a b = 0 ∧ S.ti f.toNat ≤ 1 ∧ (a = b ∨ (S.ct b.toNat : Int) < S.qu b.toNat) := by
  unfold moE at h
  split at h
  · rename_i h1
    split at h
    · omega
    · split at h
      · exact ⟨h1, by omega, .inl (by assumption)⟩
      · split at h
        · omega
        · exact ⟨h1, by omega, .inr (by omega)⟩
  · rename_i h1
    exact absurd h h1
theorem moS_ok {S : Fs} (h : Ok S) (f a b : Int) : Ok (moS S f a b) := by
  unfold moS
  split
  · rename_i e
    obtain ⟨e, hne⟩ := e
    obtain ⟨e0, e3, _⟩ := moE_ok e
    obtain ⟨e1, e2⟩ := errL_ok e0
    obtain ⟨i, a, c, rfl, rfl, rfl, hi, ha, hc', hc⟩ := errC_ok e1
    simp only [Int.toNat_natCast] at e2 ⊢
    exact h.set (by omega) ⟨by omega, fun _ => ⟨by omega, by omega⟩⟩
  · exact h
def quE (o q : Int) : Int := if isO o ∧ 0 ≤ q then 0 else 2
def quS (S : Fs) (o q : Int) : Fs := if quE o q = 0 then { S with qu := upd S.qu o.toNat q } else S
theorem quE_ok {o q : Int} (h : quE o q = 0) : ∃ a : Nat, o = a ∧ a ≤ 16 ∧ 0 ≤ q := by
  unfold quE at h
  split at h
  · rename_i h1
    obtain ⟨⟨h1, h2⟩, h3⟩ := h1
    exact ⟨o.toNat, by omega, by omega, h3⟩
  · omega
theorem quS_ok {S : Fs} (h : Ok S) (o q : Int) (hq : q ≤ 9223372036854775807) : Ok (quS S o q) := by
  unfold quS
  split
  · rename_i e
    obtain ⟨a, rfl, h1, h2⟩ := quE_ok e
    refine ⟨h.n1, h.n2, h.f, h.c, h.t, fun k => ?_⟩
    show 0 ≤ upd S.qu (Int.toNat a) q k ∧ upd S.qu (Int.toNat a) q k ≤ _
    rw [Int.toNat_natCast]
    by_cases e : k = a
    · subst e; rw [upd_self]; exact ⟨h2, hq⟩
    · rw [upd_other _ _ _ e]; exact h.q k
  · exact h
theorem alS_fst {S : Fs} (h : Fst S) (o : Int) : Fst (alS S o) := by
  unfold alS
  split
  · rename_i e
    obtain ⟨a, rfl, h1, _, h3⟩ := alE_ok e
    obtain ⟨l1, l2, l3⟩ := S.lst_of h3
    refine h.set (.inl ?_)
    rcases Nat.lt_or_ge S.lst S.fi with hl | hl
    · have := h _ hl
      omega
    · exact hl
  · exact h
theorem hoS_fst {S : Fs} (h : Fst S) (f o : Int) : Fst (hoS S f o) := by
  unfold hoS
  split
  · exact h.set (.inr rfl)
  · exact h
theorem frS_fst {S : Fs} (h : Fst S) (f o : Int) : Fst (frS S f o) := by
  unfold frS
  split
  · rename_i e
    obtain ⟨e1, e2⟩ := errL_ok e
    obtain ⟨i, a, c, rfl, rfl, _, hi, ha, _, hc⟩ := errC_ok e1
    simp only [Int.toNat_natCast] at e2 ⊢
    split
    · exact h.set (.inr rfl)
    · exact h.set (.inl (by omega))
  · exact h
theorem moS_fst {S : Fs} (h : Fst S) (f a b : Int) : Fst (moS S f a b) := by
  unfold moS
  split
  · rename_i e
    obtain ⟨e, hne⟩ := e
    obtain ⟨e0, e3, _⟩ := moE_ok e
    obtain ⟨e1, e2⟩ := errL_ok e0
    obtain ⟨i, a, c, rfl, rfl, rfl, hi, ha, hc', hc⟩ := errC_ok e1
    simp only [Int.toNat_natCast] at e2 ⊢
    exact h.set (.inl (by omega))
  · exact h
theorem quS_fst {S : Fs} (h : Fst S) (o q : Int) : Fst (quS S o q) := by
  unfold quS
  split
  · exact h
  · exact h
/-- what Count tells -/
def own (S : Fs) (o : Int) : Int := if isO o then S.ct o.toNat else 0
end Go.Proofs.YteghkhdpdeiocaaGreatDoor
