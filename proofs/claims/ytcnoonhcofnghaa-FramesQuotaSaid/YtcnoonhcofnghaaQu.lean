/-
  Quotas, plainly: an owner's count stays below its quota.
-/
import Derived.Test.YtcnoonhcofnghaaPl
namespace Go.Proofs.Ytcnoonhcofnghaa
set_option linter.unusedVariables false

theorem ct_set (S : Fs) {i b t : Nat} (hi : i < S.n) (k : Nat) : (S.set i b t).ct k + (if S.cl i = k then 1 else 0) = S.ct k + if b = k then 1 else 0 := cn_upd S.cl S.n k i b hi
/-- the owner 2 has this quota, and not more frames -/
def QI (q : Int) (S : Fs) : Prop := S.qu 2 = q ∧ (S.ct 2 : Int) ≤ q
theorem QI.al {q : Int} {S : Fs} (h : QI q S) (a : Nat) : QI q (alS S a) := by
  unfold alS
  split
  · rename_i e
    obtain ⟨c, hc, h1, h2, h3⟩ := alE_ok e
    obtain rfl : a = c := by omega
    obtain ⟨l1, l2, l3⟩ := S.lst_of h3
    obtain ⟨k1, k2⟩ := h
    have hs := ct_set S (b := (a : Int).toNat) (t := 1) l1 2
    rw [l2, if_neg (by decide), Int.toNat_natCast] at hs
    refine ⟨k1, ?_⟩
    rw [Int.toNat_natCast]
    by_cases e2 : a = 2
    · rw [if_pos e2] at hs
      subst e2
      omega
    · rw [if_neg e2] at hs
      omega
  · exact h
theorem QI.fr {q : Int} {S : Fs} (h : QI q S) (f o : Int) : QI q (frS S f o) := by
  unfold frS
  split
  · rename_i e
    obtain ⟨e1, e2⟩ := errL_ok e
    obtain ⟨i, a, c, rfl, rfl, hac, hi, ha, hc2, hc⟩ := errC_ok e1
    obtain ⟨k1, k2⟩ := h
    split
    · refine ⟨k1, ?_⟩
      have hs := ct_set S (b := S.cl (i : Int).toNat) (t := S.ti (i : Int).toNat - 1) hi 2
      rw [Int.toNat_natCast] at hs ⊢
      omega
    · refine ⟨k1, ?_⟩
      have hs := ct_set S (b := 17) (t := 0) hi 2
      rw [if_neg (show ¬ 17 = 2 by decide)] at hs
      rw [Int.toNat_natCast]
      split at hs <;> omega
  · exact h
theorem QI.mo {q : Int} {S : Fs} (h : QI q S) (f a : Int) (ha : a ≠ 2) : QI q (moS S f a 2) := by
  unfold moS
  split
  · rename_i e
    obtain ⟨e, hne⟩ := e
    obtain ⟨e0, e3, e4⟩ := moE_ok e
    obtain ⟨e1, e2⟩ := errL_ok e0
    obtain ⟨i, a, c, rfl, rfl, hac, hi, ha2, hc2, hc⟩ := errC_ok e1
    obtain ⟨k1, k2⟩ := h
    refine ⟨k1, ?_⟩
    have hs := ct_set S (b := 2) (t := 1) hi 2
    rw [if_pos rfl, if_neg (by omega)] at hs
    rw [Int.toNat_natCast, show (2 : Int).toNat = 2 from rfl] at *
    rcases e4 with e4 | e4
    · omega
    · omega
  · exact h
/-- what Alloc tells is as the quota asks -/
theorem al_asks {q : Int} {S : Fs} (h : QI q S) : (q ≤ S.ct 2 → alE S 2 = 19) ∧ ((S.ct 2 : Int) < q → alE S 2 = 0 ∨ alE S 2 = 20) ∧ (alE S 2 ≠ 0 → alR S 2 = 0) := by
  obtain ⟨k1, k2⟩ := h
  unfold alR alE
  rw [if_pos (show isO 2 from ⟨by decide, by decide⟩), show (2 : Int).toNat = 2 from rfl, k1]
  refine ⟨fun h => ?_, fun h => ?_, fun h => ?_⟩
  · rw [if_pos h]
  · rw [if_neg (by omega)]
    split <;> simp
  · rw [if_neg h]
theorem mo_asks {q : Int} {S : Fs} (h : QI q S) (f : Int) (hq : q ≤ S.ct 2) : moE S f 1 2 ≠ 0 := fun e => by
  obtain ⟨_, _, h3⟩ := moE_ok e
  rw [show (2 : Int).toNat = 2 from rfl, h.1] at h3
  omega
theorem QI.start (q : Int) (S : Fs) (h0 : 0 ≤ q) (hc : S.ct 2 = 0) : QI q (quS S 2 q) := by
  unfold quS
  rw [if_pos (by unfold quE; rw [if_pos ⟨⟨by decide, by decide⟩, h0⟩])]
  exact ⟨by show upd S.qu (2 : Int).toNat q 2 = q; simp [upd], by show ((S.ct 2 : Nat) : Int) ≤ q; omega⟩
end Go.Proofs.Ytcnoonhcofnghaa
