/-
  The document's Enable, Complete, Claim.
-/
import Derived.Test.YtncjhdhfhojohaaRf
namespace Go.Proofs.Ytncjhdhfhojohaa
open Go.RowKit
set_option linter.unusedVariables false
set_option maxRecDepth 100000
section
variable {w w' : World} {b : Nat} {z : Z}
set_option maxHeartbeats 1600000 in
theorem renable_is (h : IS 44 w b z) (k : Ok z) (v s : Int) (on : Bool) : Calls Try.prog 24 #[.pointer (some ⟨b, 0, none⟩), .int .i64 v, .int .i64 s, .bool on] w fun e w' => e = .returned (.int .i64 (chk (enaF z v s))) ∧ IS 44 w' b (enaP z v s on) ∧ Trn (fun k => k = b) w w' := by
  obtain ⟨p, hp⟩ : ∃ p, hasV z v = p := ⟨_, rfl⟩
  obtain ⟨q, hq⟩ : ∃ q, src s = q := ⟨_, rfl⟩
  have C1 := rhas_is h v
  have C2 := is_any s w
  rw [hp] at C1
  rw [hq] at C2
  unfold enaP enaF
  rw [hp, hq]
  cases p
  · have HF : Hid (IS 44 w b z) := h
    clear h k
    show Calls _ _ _ _ fun e w' => e = .returned (.int .i64 2) ∧ IS 44 w' b z ∧ Trn (fun k => k = b) w w'
    go_enter Try.func24, Try.ntmps24
    go_wp2_with fail
    refine C1.mono ?_
    rintro e w ⟨rfl, rfl⟩
    go_wp2_with fail
    go_ret
    exact ⟨rfl, HF.out, .refl _ _⟩
  · cases q
    · have HF : Hid (IS 44 w b z) := h
      clear h k
      show Calls _ _ _ _ fun e w' => e = .returned (.int .i64 2) ∧ IS 44 w' b z ∧ Trn (fun k => k = b) w w'
      go_enter Try.func24, Try.ntmps24
      go_wp2_with fail
      refine C1.mono ?_
      rintro e w ⟨rfl, rfl⟩
      go_wp2_with fail
      refine C2.mono ?_
      rintro e w ⟨rfl, rfl⟩
      go_wp2_with fail
      go_ret
      exact ⟨rfl, HF.out, .refl _ _⟩
    · obtain ⟨v, rfl, v1, v2⟩ := has_nat k hp
      obtain ⟨n, rfl, n1, n2⟩ := src_nat hq
      have HF : Hid (_) := h.putE n v (by omega) v1 on
      have fz := h.f (1 + n * 7 + 3 + v)
      have cc := h.cE n v (by omega) v1
      have hn : (n : Int) < 17 := by omega
      have hv : (v : Int) < 4 := by omega
      have hl := h.lt
      clear h k
      show Calls _ _ _ _ fun e w' => e = .returned (.int .i64 0) ∧ IS 44 w' b (z.setE (n : Int).toNat (v : Int).toNat on) ∧ Trn (fun k => k = b) w w'
      rw [Int.toNat_natCast, Int.toNat_natCast]
      go_enter Try.func24, Try.ntmps24
      go_wp2_with fail
      refine C1.mono ?_
      rintro e w ⟨rfl, rfl⟩
      go_wp2_with fail
      refine C2.mono ?_
      rintro e w ⟨rfl, rfl⟩
      go_wp2_with fail
      go_ret
      exact ⟨rfl, HF.out⟩
set_option maxHeartbeats 1600000 in
theorem rcomplete_is (h : IS 44 w b z) (k : Ok z) (v s : Int) : Calls Try.prog 26 #[.pointer (some ⟨b, 0, none⟩), .int .i64 v, .int .i64 s] w fun e w' => e = .returned (.int .i64 (comE z v s)) ∧ IS 44 w' b (comP z v s) ∧ Trn (fun k => k = b) w w' := by
  obtain ⟨p, hp⟩ : ∃ p, hasV z v = p := ⟨_, rfl⟩
  obtain ⟨q, hq⟩ : ∃ q, src s = q := ⟨_, rfl⟩
  have C1 := rhas_is h v
  have C2 := is_any s w
  rw [hp] at C1
  rw [hq] at C2
  unfold comE comP enaF
  rw [hp, hq]
  cases p
  · have HF : Hid (IS 44 w b z) := h
    clear h k
    rw [if_neg (by simp), if_neg (by simp)]
    go_enter Try.func26, Try.ntmps26
    go_wp2_with fail
    refine C1.mono ?_
    rintro e w ⟨rfl, rfl⟩
    go_wp2_with fail
    go_ret
    exact ⟨rfl, HF.out, .refl _ _⟩
  · cases q
    · have HF : Hid (IS 44 w b z) := h
      clear h k
      rw [if_neg (by simp), if_neg (by simp)]
      go_enter Try.func26, Try.ntmps26
      go_wp2_with fail
      refine C1.mono ?_
      rintro e w ⟨rfl, rfl⟩
      go_wp2_with fail
      refine C2.mono ?_
      rintro e w ⟨rfl, rfl⟩
      go_wp2_with fail
      go_ret
      exact ⟨rfl, HF.out, .refl _ _⟩
    · obtain ⟨v, rfl, v1, v2⟩ := has_nat k hp
      obtain ⟨n, rfl, n1, n2⟩ := src_nat hq
      have HF : Hid (_) := h.putT n (by omega) (-1)
      have HG : Hid (IS 44 w b z) := h
      have fz := h.f (1 + n * 7 + 1)
      have cc := h.cT n (by omega)
      have hn : (n : Int) < 17 := by omega
      have hl := h.lt
      clear h k
      rw [if_pos (by simp), Int.toNat_natCast]
      by_cases c : z.T n = (v : Int)
      · rw [if_pos c, if_pos ⟨by simp, c⟩]
        rw [c] at cc
        clear c
        go_enter Try.func26, Try.ntmps26
        go_wp2_with fail
        refine C1.mono ?_
        rintro e w ⟨rfl, rfl⟩
        go_wp2_with fail
        refine C2.mono ?_
        rintro e w ⟨rfl, rfl⟩
        go_wp2_with fail
        go_ret
        exact ⟨rfl, HF.out⟩
      · rw [if_neg c, if_neg (fun x => c x.2)]
        generalize z.T n = t at *
        go_enter Try.func26, Try.ntmps26
        go_wp2_with fail
        refine C1.mono ?_
        rintro e w ⟨rfl, rfl⟩
        go_wp2_with fail
        refine C2.mono ?_
        rintro e w ⟨rfl, rfl⟩
        go_wp2_with fail
        go_ret
        exact ⟨rfl, HG.out, .refl _ _⟩
set_option maxHeartbeats 3200000 in
theorem rclaim_is (h : IS 44 w b z) (k : Ok z) (v : Int) : Calls Try.prog 25 #[.pointer (some ⟨b, 0, none⟩), .int .i64 v] w fun e w' => e = .returned (.tuple #[.int .i64 (claK z v), .int .i64 (chk (hasV z v))]) ∧ IS 44 w' b (claP z v) ∧ Trn (fun k => k = b) w w' := by
  have C1 := rhas_is h v
  unfold claK claP
  by_cases c : hasV z v = true
  · rw [if_pos c]
    obtain ⟨v, rfl, n1, n2⟩ := has_nat k c
    rw [c] at C1 ⊢
    have C3 := rfirst_is h k v n1
    have hle := fst_le z v
    rw [Int.toNat_natCast]
    have HG : Hid (∀ w1, Below w.heap.size w w1 → IS 44 w1 b z) := fun w1 hb => h.below hb
    clear h
    generalize fst z v = f at *
    by_cases hf : f = 0
    · subst hf
      rw [if_neg (fun x => x.2 rfl)]
      clear k
      go_enter Try.func25, Try.ntmps25
      go_wp2_with fail
      refine C1.mono ?_
      rintro e w ⟨rfl, rfl⟩
      go_wp2_with fail
      refine C3.mono ?_
      rintro e w1 ⟨rfl, hb⟩
      have HB : Hid (_) := hb
      clear hb
      go_wp2_with fail
      go_ret2
      exact ⟨rfl, HG.out _ HB.out, .of_below HB.out⟩
    · rw [if_pos ⟨rfl, hf⟩]
      have hf' : ¬ (f : Int) ≤ 0 := by omega
      have hf17 : (f : Int) < 17 := by omega
      have HL : Hid (f < 17) := by show f < 17; omega
      clear k hf hle
      go_enter Try.func25, Try.ntmps25
      go_wp2_with fail
      refine C1.mono ?_
      rintro e w ⟨rfl, rfl⟩
      go_wp2_with fail
      refine C3.mono ?_
      rintro e w1 ⟨rfl, hb⟩
      have h1 := HG.out _ hb
      have cP := h1.cP f HL.out
      have cT := h1.cT f HL.out
      have fP := h1.f (1 + f * 7)
      have fT := h1.f (1 + f * 7 + 1)
      have hl := h1.lt
      have HF : Hid (_) := (h1.putP f HL.out false)
      have HF2 : Hid (_) := (HF.out.1.putT f HL.out (v : Int))
      have HB : Hid (_) := hb
      clear hb h1
      go_wp2_with fail
      go_ret2
      exact ⟨rfl, HF2.out.1, ((Trn.of_below HB.out).trans HF.out.2).trans HF2.out.2⟩
  · rw [if_neg c, if_neg (fun x => c x.1)]
    rw [Bool.not_eq_true] at c
    rw [c] at C1 ⊢
    have HF : Hid (IS 44 w b z) := h
    clear h k
    go_enter Try.func25, Try.ntmps25
    go_wp2_with fail
    refine C1.mono ?_
    rintro e w ⟨rfl, rfl⟩
    go_wp2_with fail
    go_ret2
    exact ⟨rfl, HF.out, .refl _ _⟩
end
end Go.Proofs.Ytncjhdhfhojohaa
