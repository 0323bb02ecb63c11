/-
  The calls of a controller: Raise, Enable, Weigh, Bar, Poke, Soft, Complete, Claim, Line.
-/
import Derived.Test.YtncjhdhfhojohaaFi
namespace Go.Proofs.Ytncjhdhfhojohaa
open Go.RowKit
set_option linter.unusedVariables false
set_option maxRecDepth 100000
def raiP (z : Z) (s : Int) : Z := if src s = true then z.setP s.toNat true else z
def enaF (z : Z) (v s : Int) : Bool := hasV z v && src s
def enaP (z : Z) (v s : Int) (on : Bool) : Z := if enaF z v s = true then z.setE s.toNat v.toNat on else z
def weiF (s n : Int) : Bool := src s && wgt n
def weiP (z : Z) (s n : Int) : Z := if weiF s n = true then z.setW s.toNat n else z
def barF (z : Z) (v n : Int) : Bool := hasV z v && wgt n
def barP (z : Z) (v n : Int) : Z := if barF z v n = true then z.setB v.toNat n else z
def pokP (z : Z) (v : Int) : Z := if hasV z v = true then z.setS v.toNat true else z
def sofB (z : Z) (v : Int) : Bool := hasV z v && z.S v.toNat
def sofP (z : Z) (v : Int) : Z := if hasV z v = true then z.setS v.toNat false else z
def comE (z : Z) (v s : Int) : Int := if enaF z v s = true then (if z.T s.toNat = v then 0 else 21) else 2
def comP (z : Z) (v s : Int) : Z := if enaF z v s = true ∧ z.T s.toNat = v then z.setT s.toNat (-1) else z
def claK (z : Z) (v : Int) : Int := if hasV z v = true then (fst z v.toNat : Int) else 0
def claP (z : Z) (v : Int) : Z := if hasV z v = true ∧ fst z v.toNat ≠ 0 then (z.setP (fst z v.toNat) false).setT (fst z v.toNat) v else z
theorem src_nat {s : Int} (h : src s = true) : ∃ k : Nat, s = k ∧ 1 ≤ k ∧ k ≤ 16 := by
  unfold src at h
  have := of_decide_eq_true h
  exact ⟨s.toNat, by omega, by omega, by omega⟩
theorem has_nat {z : Z} {v : Int} (k : Ok z) (h : hasV z v = true) : ∃ n : Nat, v = n ∧ n < 4 ∧ n < z.n := by
  unfold hasV at h
  have := of_decide_eq_true h
  have := k.n4
  exact ⟨v.toNat, by omega, by omega, by omega⟩
theorem Ok.setP {z : Z} (k : Ok z) (s : Nat) (hs : 1 ≤ s) (v : Bool) : Ok (z.setP s v) :=
  ⟨k.n1, k.n4, by show up z.P s v 0 = false; unfold up; rw [if_neg (by omega)]; exact k.p0, k.t⟩
theorem Ok.setT {z : Z} (k : Ok z) (s : Nat) (v : Int) (hv : -1 ≤ v) : Ok (z.setT s v) :=
  ⟨k.n1, k.n4, k.p0, fun i hi => by show -1 ≤ up z.T s v i; unfold up; split; exact hv; exact k.t i hi⟩
theorem raiP_ok {z : Z} (k : Ok z) (s : Int) : Ok (raiP z s) := by
  unfold raiP
  split
  · rename_i h
    obtain ⟨n, rfl, h1, h2⟩ := src_nat h
    exact k.setP _ (by omega) _
  · exact k
theorem enaP_ok {z : Z} (k : Ok z) (v s : Int) (on : Bool) : Ok (enaP z v s on) := by unfold enaP; split; exact ⟨k.n1, k.n4, k.p0, k.t⟩; exact k
theorem weiP_ok {z : Z} (k : Ok z) (s n : Int) : Ok (weiP z s n) := by unfold weiP; split; exact ⟨k.n1, k.n4, k.p0, k.t⟩; exact k
theorem barP_ok {z : Z} (k : Ok z) (v n : Int) : Ok (barP z v n) := by unfold barP; split; exact ⟨k.n1, k.n4, k.p0, k.t⟩; exact k
theorem pokP_ok {z : Z} (k : Ok z) (v : Int) : Ok (pokP z v) := by unfold pokP; split; exact ⟨k.n1, k.n4, k.p0, k.t⟩; exact k
theorem sofP_ok {z : Z} (k : Ok z) (v : Int) : Ok (sofP z v) := by unfold sofP; split; exact ⟨k.n1, k.n4, k.p0, k.t⟩; exact k
theorem comP_ok {z : Z} (k : Ok z) (v s : Int) : Ok (comP z v s) := by unfold comP; split; exact k.setT _ _ (by omega); exact k
theorem claP_ok {z : Z} (k : Ok z) (v : Int) : Ok (claP z v) := by
  unfold claP
  split
  · rename_i h
    obtain ⟨n, rfl, h1, h2⟩ := has_nat k h.1
    exact (k.setP _ (by omega) _).setT _ _ (by omega)
  · exact k
section
variable {w w' : World} {b : Nat} {z : Z}
set_option maxHeartbeats 1600000 in
theorem raise_is (h : IS 50 w b z) (k : Ok z) (s : Int) : Calls Try.prog 17 #[.pointer (some ⟨b, 0, none⟩), .int .i64 s] w fun e w' => e = .returned (.int .i64 (chk (src s))) ∧ IS 50 w' b (raiP z s) ∧ Trn (fun k => k = b) w w' := by
  have C1 := isSource_any s w
  unfold raiP
  by_cases c : src s = true
  · obtain ⟨n, rfl, n1, n2⟩ := src_nat c
    rw [if_pos c]
    rw [c] at C1 ⊢
    have C2 := check_is h k true
    have HF : Hid (_) := h.putP n (by omega) true
    have fz := h.f (1 + n * 7)
    have cc := h.cP n (by omega)
    have hn : (n : Int) < 17 := by omega
    have hl := h.lt
    clear h k
    rw [Int.toNat_natCast]
    go_enter Try.func17, Try.ntmps17
    go_wp2_with fail
    refine C1.mono ?_
    rintro e w ⟨rfl, rfl⟩
    go_wp2_with fail
    refine C2.mono ?_
    rintro e w ⟨rfl, rfl⟩
    go_wp2_with fail
    unfold chk
    go_wp2_with fail
    go_ret
    exact ⟨rfl, HF.out⟩
  · rw [if_neg c]
    rw [Bool.not_eq_true] at c
    rw [c] at C1 ⊢
    have C2 := check_is h k false
    have HF : Hid (IS 50 w b z) := h
    clear h k
    go_enter Try.func17, Try.ntmps17
    go_wp2_with fail
    refine C1.mono ?_
    rintro e w ⟨rfl, rfl⟩
    go_wp2_with fail
    refine C2.mono ?_
    rintro e w ⟨rfl, rfl⟩
    go_wp2_with fail
    unfold chk
    go_wp2_with fail
    go_ret
    exact ⟨rfl, HF.out, .refl _ _⟩
theorem raise_un {u : Value} (h : UN w u) (s : Int) : Calls Try.prog 17 #[u, .int .i64 s] w fun e w' => e = .returned (.int .i64 1) ∧ w' = w := by
  have C1 := isSource_any s w
  have C2 := check_un h (src s)
  clear h
  go_enter Try.func17, Try.ntmps17
  go_wp2_with fail
  refine C1.mono ?_
  rintro e w ⟨rfl, rfl⟩
  go_wp2_with fail
  refine C2.mono ?_
  rintro e w ⟨rfl, rfl⟩
  go_wp2_with fail
  go_ret
  exact ⟨rfl, rfl⟩
set_option maxHeartbeats 1600000 in
theorem enable_is (h : IS 50 w b z) (k : Ok z) (v s : Int) (on : Bool) : Calls Try.prog 18 #[.pointer (some ⟨b, 0, none⟩), .int .i64 v, .int .i64 s, .bool on] w fun e w' => e = .returned (.int .i64 (chk (enaF z v s))) ∧ IS 50 w' b (enaP z v s on) ∧ Trn (fun k => k = b) w w' := by
  have HF0 : Hid (IS 50 w b z) := h
  obtain ⟨p, hp⟩ : ∃ p, hasV z v = p := ⟨_, rfl⟩
  obtain ⟨q, hq⟩ : ∃ q, src s = q := ⟨_, rfl⟩
  have C1 := has_is h v
  have C2 := isSource_any s w
  have C3 := check_is h k (p && q)
  rw [hp] at C1
  rw [hq] at C2
  unfold enaP enaF
  rw [hp, hq]
  cases p
  · have HF : Hid (IS 50 w b z) := h
    clear h k HF0
    show Calls _ _ _ _ fun e w' => e = .returned (.int .i64 (chk false)) ∧ IS 50 w' b z ∧ Trn (fun k => k = b) w w'
    go_enter Try.func18, Try.ntmps18
    go_wp2_with fail
    refine C1.mono ?_
    rintro e w ⟨rfl, rfl⟩
    go_wp2_with fail
    refine C3.mono ?_
    rintro e w ⟨rfl, rfl⟩
    go_wp2_with fail
    unfold chk
    go_wp2_with fail
    go_ret
    exact ⟨rfl, HF.out, .refl _ _⟩
  · cases q
    · have HF : Hid (IS 50 w b z) := h
      clear h k HF0
      show Calls _ _ _ _ fun e w' => e = .returned (.int .i64 (chk false)) ∧ IS 50 w' b z ∧ Trn (fun k => k = b) w w'
      go_enter Try.func18, Try.ntmps18
      go_wp2_with fail
      refine C1.mono ?_
      rintro e w ⟨rfl, rfl⟩
      go_wp2_with fail
      refine C2.mono ?_
      rintro e w ⟨rfl, rfl⟩
      go_wp2_with fail
      refine C3.mono ?_
      rintro e w ⟨rfl, rfl⟩
      go_wp2_with fail
      unfold chk
      go_wp2_with fail
      go_ret
      exact ⟨rfl, HF.out, .refl _ _⟩
    · obtain ⟨v, rfl, v1, v2⟩ := has_nat k hp
      obtain ⟨n, rfl, n1, n2⟩ := src_nat hq
      have HF : Hid (_) := h.putE n v (by omega) v1 on
      have fz := h.f (1 + n * 7 + 3 + v)
      have cc := h.cE n v (by omega) v1
      have hn : (n : Int) < 17 := by omega
      have hv : (v : Int) < 4 := by omega
      have hl := h.lt
      clear h k HF0
      show Calls _ _ _ _ fun e w' => e = .returned (.int .i64 (chk true)) ∧ IS 50 w' b (z.setE (n : Int).toNat (v : Int).toNat on) ∧ Trn (fun k => k = b) w w'
      rw [Int.toNat_natCast, Int.toNat_natCast]
      go_enter Try.func18, Try.ntmps18
      go_wp2_with fail
      refine C1.mono ?_
      rintro e w ⟨rfl, rfl⟩
      go_wp2_with fail
      refine C2.mono ?_
      rintro e w ⟨rfl, rfl⟩
      go_wp2_with fail
      refine C3.mono ?_
      rintro e w ⟨rfl, rfl⟩
      go_wp2_with fail
      unfold chk
      go_wp2_with fail
      go_ret
      exact ⟨rfl, HF.out⟩
set_option maxHeartbeats 1600000 in
theorem weigh_is (h : IS 50 w b z) (k : Ok z) (s n : Int) : Calls Try.prog 19 #[.pointer (some ⟨b, 0, none⟩), .int .i64 s, .int .i64 n] w fun e w' => e = .returned (.int .i64 (chk (weiF s n))) ∧ IS 50 w' b (weiP z s n) ∧ Trn (fun k => k = b) w w' := by
  have HF0 : Hid (IS 50 w b z) := h
  obtain ⟨p, hp⟩ : ∃ p, src s = p := ⟨_, rfl⟩
  obtain ⟨q, hq⟩ : ∃ q, wgt n = q := ⟨_, rfl⟩
  have C1 := isSource_any s w
  have C2 := isWeight_any n w
  have C3 := check_is h k (p && q)
  rw [hp] at C1
  rw [hq] at C2
  unfold weiP weiF
  rw [hp, hq]
  cases p
  · have HF : Hid (IS 50 w b z) := h
    clear h k HF0
    show Calls _ _ _ _ fun e w' => e = .returned (.int .i64 (chk false)) ∧ IS 50 w' b z ∧ Trn (fun k => k = b) w w'
    go_enter Try.func19, Try.ntmps19
    go_wp2_with fail
    refine C1.mono ?_
    rintro e w ⟨rfl, rfl⟩
    go_wp2_with fail
    refine C3.mono ?_
    rintro e w ⟨rfl, rfl⟩
    go_wp2_with fail
    unfold chk
    go_wp2_with fail
    go_ret
    exact ⟨rfl, HF.out, .refl _ _⟩
  · cases q
    · have HF : Hid (IS 50 w b z) := h
      clear h k HF0
      show Calls _ _ _ _ fun e w' => e = .returned (.int .i64 (chk false)) ∧ IS 50 w' b z ∧ Trn (fun k => k = b) w w'
      go_enter Try.func19, Try.ntmps19
      go_wp2_with fail
      refine C1.mono ?_
      rintro e w ⟨rfl, rfl⟩
      go_wp2_with fail
      refine C2.mono ?_
      rintro e w ⟨rfl, rfl⟩
      go_wp2_with fail
      refine C3.mono ?_
      rintro e w ⟨rfl, rfl⟩
      go_wp2_with fail
      unfold chk
      go_wp2_with fail
      go_ret
      exact ⟨rfl, HF.out, .refl _ _⟩
    · obtain ⟨s, rfl, n1, n2⟩ := src_nat hp
      have HF : Hid (_) := h.putW s (by omega) n
      have fz := h.f (1 + s * 7 + 2)
      have cc := h.cW s (by omega)
      have hn : (s : Int) < 17 := by omega
      have hl := h.lt
      clear h k HF0
      show Calls _ _ _ _ fun e w' => e = .returned (.int .i64 (chk true)) ∧ IS 50 w' b (z.setW (s : Int).toNat n) ∧ Trn (fun k => k = b) w w'
      rw [Int.toNat_natCast]
      go_enter Try.func19, Try.ntmps19
      go_wp2_with fail
      refine C1.mono ?_
      rintro e w ⟨rfl, rfl⟩
      go_wp2_with fail
      refine C2.mono ?_
      rintro e w ⟨rfl, rfl⟩
      go_wp2_with fail
      refine C3.mono ?_
      rintro e w ⟨rfl, rfl⟩
      go_wp2_with fail
      unfold chk
      go_wp2_with fail
      go_ret
      exact ⟨rfl, HF.out⟩
set_option maxHeartbeats 1600000 in
theorem bar_is (h : IS 50 w b z) (k : Ok z) (v n : Int) : Calls Try.prog 20 #[.pointer (some ⟨b, 0, none⟩), .int .i64 v, .int .i64 n] w fun e w' => e = .returned (.int .i64 (chk (barF z v n))) ∧ IS 50 w' b (barP z v n) ∧ Trn (fun k => k = b) w w' := by
  have HF0 : Hid (IS 50 w b z) := h
  obtain ⟨p, hp⟩ : ∃ p, hasV z v = p := ⟨_, rfl⟩
  obtain ⟨q, hq⟩ : ∃ q, wgt n = q := ⟨_, rfl⟩
  have C1 := has_is h v
  have C2 := isWeight_any n w
  have C3 := check_is h k (p && q)
  rw [hp] at C1
  rw [hq] at C2
  unfold barP barF
  rw [hp, hq]
  cases p
  · have HF : Hid (IS 50 w b z) := h
    clear h k HF0
    show Calls _ _ _ _ fun e w' => e = .returned (.int .i64 (chk false)) ∧ IS 50 w' b z ∧ Trn (fun k => k = b) w w'
    go_enter Try.func20, Try.ntmps20
    go_wp2_with fail
    refine C1.mono ?_
    rintro e w ⟨rfl, rfl⟩
    go_wp2_with fail
    refine C3.mono ?_
    rintro e w ⟨rfl, rfl⟩
    go_wp2_with fail
    unfold chk
    go_wp2_with fail
    go_ret
    exact ⟨rfl, HF.out, .refl _ _⟩
  · cases q
    · have HF : Hid (IS 50 w b z) := h
      clear h k HF0
      show Calls _ _ _ _ fun e w' => e = .returned (.int .i64 (chk false)) ∧ IS 50 w' b z ∧ Trn (fun k => k = b) w w'
      go_enter Try.func20, Try.ntmps20
      go_wp2_with fail
      refine C1.mono ?_
      rintro e w ⟨rfl, rfl⟩
      go_wp2_with fail
      refine C2.mono ?_
      rintro e w ⟨rfl, rfl⟩
      go_wp2_with fail
      refine C3.mono ?_
      rintro e w ⟨rfl, rfl⟩
      go_wp2_with fail
      unfold chk
      go_wp2_with fail
      go_ret
      exact ⟨rfl, HF.out, .refl _ _⟩
    · obtain ⟨v, rfl, v1, v2⟩ := has_nat k hp
      have HF : Hid (_) := h.putB v v1 n
      have fz := h.f (120 + v)
      have cc := h.cB v v1
      have hv : (v : Int) < 4 := by omega
      have hl := h.lt
      clear h k HF0
      show Calls _ _ _ _ fun e w' => e = .returned (.int .i64 (chk true)) ∧ IS 50 w' b (z.setB (v : Int).toNat n) ∧ Trn (fun k => k = b) w w'
      rw [Int.toNat_natCast]
      go_enter Try.func20, Try.ntmps20
      go_wp2_with fail
      refine C1.mono ?_
      rintro e w ⟨rfl, rfl⟩
      go_wp2_with fail
      refine C2.mono ?_
      rintro e w ⟨rfl, rfl⟩
      go_wp2_with fail
      refine C3.mono ?_
      rintro e w ⟨rfl, rfl⟩
      go_wp2_with fail
      unfold chk
      go_wp2_with fail
      go_ret
      exact ⟨rfl, HF.out⟩
set_option maxHeartbeats 1600000 in
theorem poke_is (h : IS 50 w b z) (k : Ok z) (v : Int) : Calls Try.prog 22 #[.pointer (some ⟨b, 0, none⟩), .int .i64 v] w fun e w' => e = .returned (.int .i64 (chk (hasV z v))) ∧ IS 50 w' b (pokP z v) ∧ Trn (fun k => k = b) w w' := by
  have C1 := has_is h v
  unfold pokP
  by_cases c : hasV z v = true
  · rw [if_pos c]
    obtain ⟨v, rfl, n1, n2⟩ := has_nat k c
    rw [c] at C1 ⊢
    have C2 := check_is h k true
    have HF : Hid (_) := h.putS v n1 true
    have fz := h.f (124 + v)
    have cc := h.cS v n1
    have hv : (v : Int) < 4 := by omega
    have hl := h.lt
    clear h k
    rw [Int.toNat_natCast]
    go_enter Try.func22, Try.ntmps22
    go_wp2_with fail
    refine C1.mono ?_
    rintro e w ⟨rfl, rfl⟩
    go_wp2_with fail
    refine C2.mono ?_
    rintro e w ⟨rfl, rfl⟩
    go_wp2_with fail
    unfold chk
    go_wp2_with fail
    go_ret
    exact ⟨rfl, HF.out⟩
  · rw [if_neg c]
    rw [Bool.not_eq_true] at c
    rw [c] at C1 ⊢
    have C2 := check_is h k false
    have HF : Hid (IS 50 w b z) := h
    clear h k
    go_enter Try.func22, Try.ntmps22
    go_wp2_with fail
    refine C1.mono ?_
    rintro e w ⟨rfl, rfl⟩
    go_wp2_with fail
    refine C2.mono ?_
    rintro e w ⟨rfl, rfl⟩
    go_wp2_with fail
    unfold chk
    go_wp2_with fail
    go_ret
    exact ⟨rfl, HF.out, .refl _ _⟩
set_option maxHeartbeats 1600000 in
theorem soft_is (h : IS 50 w b z) (k : Ok z) (v : Int) : Calls Try.prog 23 #[.pointer (some ⟨b, 0, none⟩), .int .i64 v] w fun e w' => e = .returned (.bool (sofB z v)) ∧ IS 50 w' b (sofP z v) ∧ Trn (fun k => k = b) w w' := by
  have C1 := has_is h v
  unfold sofP sofB
  by_cases c : hasV z v = true
  · rw [if_pos c]
    obtain ⟨v, rfl, n1, n2⟩ := has_nat k c
    rw [c] at C1 ⊢
    have HF : Hid (_) := h.putS v n1 false
    have fz := h.f (124 + v)
    have cc := h.cS v n1
    have hv : (v : Int) < 4 := by omega
    have hl := h.lt
    clear h k
    rw [Int.toNat_natCast, Bool.true_and]
    go_enter Try.func23, Try.ntmps23
    go_wp2_with fail
    refine C1.mono ?_
    rintro e w ⟨rfl, rfl⟩
    go_wp2_with fail
    go_ret
    exact ⟨rfl, HF.out⟩
  · rw [if_neg c]
    rw [Bool.not_eq_true] at c
    rw [c] at C1 ⊢
    rw [Bool.false_and]
    have HF : Hid (IS 50 w b z) := h
    clear h k
    go_enter Try.func23, Try.ntmps23
    go_wp2_with fail
    refine C1.mono ?_
    rintro e w ⟨rfl, rfl⟩
    go_wp2_with fail
    go_ret
    exact ⟨rfl, HF.out, .refl _ _⟩
set_option maxHeartbeats 1600000 in
theorem complete_is (h : IS 50 w b z) (k : Ok z) (v s : Int) : Calls Try.prog 21 #[.pointer (some ⟨b, 0, none⟩), .int .i64 v, .int .i64 s] w fun e w' => e = .returned (.int .i64 (comE z v s)) ∧ IS 50 w' b (comP z v s) ∧ Trn (fun k => k = b) w w' := by
  obtain ⟨p, hp⟩ : ∃ p, hasV z v = p := ⟨_, rfl⟩
  obtain ⟨q, hq⟩ : ∃ q, src s = q := ⟨_, rfl⟩
  have C1 := has_is h v
  have C2 := isSource_any s w
  have C3 := check_is h k (p && q)
  rw [hp] at C1
  rw [hq] at C2
  unfold comE comP enaF
  rw [hp, hq]
  cases p
  · have HF : Hid (IS 50 w b z) := h
    clear h k
    rw [if_neg (by simp), if_neg (by simp)]
    show Calls _ _ _ _ fun e w' => e = .returned (.int .i64 (chk false)) ∧ IS 50 w' b z ∧ Trn (fun k => k = b) w w'
    go_enter Try.func21, Try.ntmps21
    go_wp2_with fail
    refine C1.mono ?_
    rintro e w ⟨rfl, rfl⟩
    go_wp2_with fail
    refine C3.mono ?_
    rintro e w ⟨rfl, rfl⟩
    go_wp2_with fail
    unfold chk
    go_wp2_with fail
    go_ret
    exact ⟨rfl, HF.out, .refl _ _⟩
  · cases q
    · have HF : Hid (IS 50 w b z) := h
      clear h k
      rw [if_neg (by simp), if_neg (by simp)]
      show Calls _ _ _ _ fun e w' => e = .returned (.int .i64 (chk false)) ∧ IS 50 w' b z ∧ Trn (fun k => k = b) w w'
      go_enter Try.func21, Try.ntmps21
      go_wp2_with fail
      refine C1.mono ?_
      rintro e w ⟨rfl, rfl⟩
      go_wp2_with fail
      refine C2.mono ?_
      rintro e w ⟨rfl, rfl⟩
      go_wp2_with fail
      refine C3.mono ?_
      rintro e w ⟨rfl, rfl⟩
      go_wp2_with fail
      unfold chk
      go_wp2_with fail
      go_ret
      exact ⟨rfl, HF.out, .refl _ _⟩
    · obtain ⟨v, rfl, v1, v2⟩ := has_nat k hp
      obtain ⟨n, rfl, n1, n2⟩ := src_nat hq
      have HF : Hid (_) := h.putT n (by omega) (-1)
      have HG : Hid (IS 50 w b z) := h
      have fz := h.f (1 + n * 7 + 1)
      have cc := h.cT n (by omega)
      have hn : (n : Int) < 17 := by omega
      have hl := h.lt
      clear h k
      rw [if_pos (by simp), Int.toNat_natCast]
      by_cases c : z.T n = (v : Int)
      · rw [if_pos c, if_pos ⟨by simp, c⟩]
        rw [c] at cc
        clear c
        go_enter Try.func21, Try.ntmps21
        go_wp2_with fail
        refine C1.mono ?_
        rintro e w ⟨rfl, rfl⟩
        go_wp2_with fail
        refine C2.mono ?_
        rintro e w ⟨rfl, rfl⟩
        go_wp2_with fail
        refine C3.mono ?_
        rintro e w ⟨rfl, rfl⟩
        go_wp2_with fail
        unfold chk
        go_wp2_with fail
        go_ret
        exact ⟨rfl, HF.out⟩
      · rw [if_neg c, if_neg (fun x => c x.2)]
        generalize z.T n = t at *
        go_enter Try.func21, Try.ntmps21
        go_wp2_with fail
        refine C1.mono ?_
        rintro e w ⟨rfl, rfl⟩
        go_wp2_with fail
        refine C2.mono ?_
        rintro e w ⟨rfl, rfl⟩
        go_wp2_with fail
        refine C3.mono ?_
        rintro e w ⟨rfl, rfl⟩
        go_wp2_with fail
        unfold chk
        go_wp2_with fail
        go_ret
        exact ⟨rfl, HG.out, .refl _ _⟩
set_option maxHeartbeats 1600000 in
theorem line_is (h : IS 50 w b z) (k : Ok z) (v : Int) : Calls Try.prog 11 #[.pointer (some ⟨b, 0, none⟩), .int .i64 v] w fun e w' => e = .returned (.bool (hasV z v && decide (0 < fst z v.toNat))) ∧ Below w.heap.size w w' := by
  have C1 := has_is h v
  by_cases c : hasV z v = true
  · obtain ⟨v, rfl, n1, n2⟩ := has_nat k c
    rw [c] at C1 ⊢
    have C2 := first_is h k v n1
    rw [Int.toNat_natCast, Bool.true_and]
    clear h k
    generalize fst z v = f at *
    by_cases hf : 0 < f
    · rw [decide_eq_true hf]
      have hf' : ¬ (f : Int) = 0 := by omega
      go_enter Try.func11, Try.ntmps11
      go_wp2_with fail
      refine C1.mono ?_
      rintro e w ⟨rfl, rfl⟩
      go_wp2_with fail
      refine C2.mono ?_
      rintro e w1 ⟨rfl, hb⟩
      go_wp2_with fail
      go_ret
      exact ⟨ret_bool (by simp; omega), hb⟩
    · obtain rfl : f = 0 := by omega
      rw [decide_eq_false hf]
      go_enter Try.func11, Try.ntmps11
      go_wp2_with fail
      refine C1.mono ?_
      rintro e w ⟨rfl, rfl⟩
      go_wp2_with fail
      refine C2.mono ?_
      rintro e w1 ⟨rfl, hb⟩
      go_wp2_with fail
      go_ret
      exact ⟨rfl, hb⟩
  · rw [Bool.not_eq_true] at c
    rw [c] at C1 ⊢
    rw [Bool.false_and]
    clear h k
    go_enter Try.func11, Try.ntmps11
    go_wp2_with fail
    refine C1.mono ?_
    rintro e w ⟨rfl, rfl⟩
    go_wp2_with fail
    go_ret
    exact ⟨rfl, Below.refl _ _⟩
set_option maxHeartbeats 3200000 in
theorem claim_is (h : IS 50 w b z) (k : Ok z) (v : Int) : Calls Try.prog 16 #[.pointer (some ⟨b, 0, none⟩), .int .i64 v] w fun e w' => e = .returned (.tuple #[.int .i64 (claK z v), .int .i64 (chk (hasV z v))]) ∧ IS 50 w' b (claP z v) ∧ Trn (fun k => k = b) w w' := by
  have C1 := has_is h v
  unfold claK claP
  by_cases c : hasV z v = true
  · rw [if_pos c]
    obtain ⟨v, rfl, n1, n2⟩ := has_nat k c
    rw [c] at C1 ⊢
    have C2 := check_is h k true
    have C3 := first_is h k v n1
    have hle := fst_le z v
    rw [Int.toNat_natCast]
    have HG : Hid (∀ w1, Below w.heap.size w w1 → IS 50 w1 b z) := fun w1 hb => h.below hb
    clear h
    generalize fst z v = f at *
    by_cases hf : f = 0
    · subst hf
      rw [if_neg (fun x => x.2 rfl)]
      clear k
      go_enter Try.func16, Try.ntmps16
      go_wp2_with fail
      refine C1.mono ?_
      rintro e w ⟨rfl, rfl⟩
      go_wp2_with fail
      refine C2.mono ?_
      rintro e w ⟨rfl, rfl⟩
      unfold chk
      go_wp2_with fail
      refine C3.mono ?_
      rintro e w1 ⟨rfl, hb⟩
      have HB : Hid (_) := hb
      clear hb
      go_wp2_with fail
      go_ret2
      exact ⟨rfl, HG.out _ HB.out, .of_below HB.out⟩
    · rw [if_pos ⟨rfl, hf⟩]
      have hf' : ¬ (f : Int) = 0 := by omega
      have hf17 : (f : Int) < 17 := by omega
      have HL : Hid (f < 17) := by show f < 17; omega
      clear k hf hle
      go_enter Try.func16, Try.ntmps16
      go_wp2_with fail
      refine C1.mono ?_
      rintro e w ⟨rfl, rfl⟩
      go_wp2_with fail
      refine C2.mono ?_
      rintro e w ⟨rfl, rfl⟩
      unfold chk
      go_wp2_with fail
      refine C3.mono ?_
      rintro e w1 ⟨rfl, hb⟩
      have h1 := HG.out _ hb
      have cP := h1.cP f HL.out
      have cT := h1.cT f HL.out
      have fP := h1.f (1 + f * 7)
      have fT := h1.f (1 + f * 7 + 1)
      have hl := h1.lt
      have HF : Hid (_) := (h1.putP f HL.out false)
      have HF2 : Hid (_) := (HF.out.1.putT f HL.out (v : Int))
      have HB : Hid (_) := hb
      clear hb h1
      go_wp2_with fail
      go_region
      go_wp2_with fail
      go_ret2
      exact ⟨rfl, HF2.out.1.keep rfl, (((Trn.of_below HB.out).trans HF.out.2).trans HF2.out.2).drew⟩
  · rw [if_neg c, if_neg (fun x => c x.1)]
    rw [Bool.not_eq_true] at c
    rw [c] at C1 ⊢
    have C2 := check_is h k false
    have HF : Hid (IS 50 w b z) := h
    clear h k
    go_enter Try.func16, Try.ntmps16
    go_wp2_with fail
    refine C1.mono ?_
    rintro e w ⟨rfl, rfl⟩
    go_wp2_with fail
    refine C2.mono ?_
    rintro e w ⟨rfl, rfl⟩
    unfold chk
    go_wp2_with fail
    go_ret2
    exact ⟨rfl, HF.out, .refl _ _⟩
end
end Go.Proofs.Ytncjhdhfhojohaa
