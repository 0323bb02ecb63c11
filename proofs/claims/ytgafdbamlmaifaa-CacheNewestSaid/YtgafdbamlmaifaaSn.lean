/-
  Keys of one letter, and the newest of them: what is kept.
-/
import Derived.Test.YtgafdbamlmaifaaSm
import Derived.IntWalk
import Derived.Laws.BitsAllLaws
import Derived.Laws.BitsLemmas
namespace Go.Proofs.Ytgafdbamlmaifaa.S
open Go.RowKit
set_option linter.unusedVariables false
set_option maxRecDepth 20000

theorem pow_pos' (n : Nat) : (0 : Int) < 2 ^ n := Int.pow_pos (by decide)
theorem pow_le' {m n : Nat} (h : m ≤ n) : (2 : Int) ^ m ≤ 2 ^ n := by
  have := Nat.pow_le_pow_right (n := 2) (by decide) h
  have e1 : ((2 ^ m : Nat) : Int) = 2 ^ m := by simp
  have e2 : ((2 ^ n : Nat) : Int) = 2 ^ n := by simp
  rw [← e1, ← e2]; omega
/-- the lowest bits of a number with a sign -/
theorem and_ones64 (v : Int) (N : Nat) (h : N ≤ 63) : bits .and .i64 v (2 ^ N - 1) = v % 2 ^ N := by
  have hp := pow_pos' N
  have hle : (2 : Int) ^ N ≤ 2 ^ 63 := pow_le' h
  have hm0 := Int.emod_nonneg v (show (2 : Int) ^ N ≠ 0 by omega)
  have hm1 := Int.emod_lt_of_pos v hp
  show IntKind.i64.wrap ((BitVec.ofInt 64 v &&& BitVec.ofInt 64 (2 ^ N - 1)).toNat : Int) = _
  rw [BitVec.toNat_and, BitVec.toNat_ofInt, BitVec.toNat_ofInt]
  have e1 : (((2 : Int) ^ N - 1) % ((2 ^ 64 : Nat) : Int)).toNat = 2 ^ N - 1 := by
    have e0 : ((2 : Int) ^ N - 1) = ((2 ^ N - 1 : Nat) : Int) := by rw [Int.natCast_sub (Nat.two_pow_pos N)]; simp
    rw [e0, ← Int.natCast_emod, Int.toNat_natCast]
    apply Nat.mod_eq_of_lt
    have := Nat.pow_le_pow_right (n := 2) (by decide) h
    have := Nat.two_pow_pos N
    omega
  rw [e1, Nat.and_two_pow_sub_one_eq_mod]
  have e2 : (((v % ((2 ^ 64 : Nat) : Int)).toNat % 2 ^ N : Nat) : Int) = v % 2 ^ N := by
    rw [Int.natCast_emod, Int.toNat_of_nonneg (by omega)]
    have e3 : ((2 ^ N : Nat) : Int) = 2 ^ N := by simp
    rw [e3]
    apply Int.emod_emod_of_dvd
    refine ⟨2 ^ (64 - N), ?_⟩
    rw [← Int.pow_add, show N + (64 - N) = 64 by omega]; rfl
  rw [e2, IntKind.wrap_i64]
  omega
theorem and63 (x : Int) : bits .and .i64 x 63 = x % 64 := and_ones64 x 6 (by decide)
theorem and255 (x : Int) : bits .and .i64 x 255 = x % 256 := and_ones64 x 8 (by decide)
theorem and1 (x : Int) : bits .and .i64 x 1 = x % 2 := and_ones64 x 1 (by decide)

theorem pair_eq (x1 x2 : Int) (h1 : (Lit.int .i64 x1).wf = true) (h2 : (Lit.int .i64 x2).wf = true) (w : World) : (Op.equalIn 10000 54 (.agg #[.int .i64 x1, .int .i64 x2]) (.agg #[.int .i64 x1, .int .i64 x2])).run Try.prog w = .ok true w := by
  have c54 : Try.prog.cellsOf 54 = 2 := by kernel_rfl
  have c3 : Try.prog.cellsOf 3 = 1 := by kernel_rfl
  have hf : (Value.agg #[.int .i64 x1, .int .i64 x2]).formed Try.prog 54 = true := by simp [Value.formed, Try.underlying54, c54]
  have hk : Try.prog.keyLits 3 54 (Value.agg #[.int .i64 x1, .int .i64 x2]).cells.toList = some [.int .i64 x1, .int .i64 x2] := by
    simp [Program.keyLits, Try.underlying54, Try.underlying3, c54, c3, Value.cells, h1, h2, List.range_succ]
  obtain ⟨r, hr, hiff⟩ := run_equalIn_deep 9998 2 54 (by kernel_rfl) w 3 3 _ _ _ _ hf hf hk hk
  have hr' := hiff.2 rfl
  subst hr'
  exact hr
/-- the key of a number: one letter -/
def kk (i : Nat) : ByteArray := Utf8.encode (97 + (i : Int))
/-- the number of such a key -/
def dec (s : ByteArray) : Nat := if s.size = 1 then (s.get! 0).toNat else ((s.get! 0).toNat - 192) * 64 + ((s.get! 1).toNat - 128)
theorem dec_kk : ∀ i : Fin 256, dec (kk i.val) = 97 + i.val := by decide +kernel
theorem size_kk : ∀ i : Fin 256, (kk i.val).size ≤ 4 := by decide +kernel
theorem kk_inj {i j : Nat} (hi : i < 256) (hj : j < 256) (h : kk i = kk j) : i = j := by
  have h1 := dec_kk ⟨i, hi⟩
  have h2 := dec_kk ⟨j, hj⟩
  simp only at h1 h2
  rw [h] at h1
  omega
/-- the place of a number -/
def pl (i : Nat) : Pl := ⟨(i : Int) % 2, kk i⟩
theorem wf_bit {x : Int} (h0 : 0 ≤ x) (h1 : x ≤ 1) : (Lit.int .i64 x).wf = true := by
  simp [Lit.wf, IntKind.min, IntKind.max, IntKind.signed, IntKind.bits]
  omega
theorem kw {i : Nat} (hi : i < 256) : KW (kk i) := by
  have := size_kk ⟨i, hi⟩
  simp only at this
  show _ ≤ maxLen
  unfold maxLen
  omega
theorem pl_W {i : Nat} (hi : i < 256) : (pl i).W := by
  have h : (Lit.int .i64 ((i : Int) % 2)).wf = true := wf_bit (by omega) (by omega)
  have h2 := kw hi
  unfold pl
  generalize kk i = k at *
  exact ⟨h, h2⟩
theorem ot_W {i : Nat} (hi : i < 256) : (⟨1 - (i : Int) % 2, kk i⟩ : Pl).W := by
  have h : (Lit.int .i64 (1 - (i : Int) % 2)).wf = true := wf_bit (by omega) (by omega)
  have h2 := kw hi
  generalize kk i = k at *
  exact ⟨h, h2⟩
theorem pl_inj {i j : Nat} (hi : i < 256) (hj : j < 256) (h : pl i = pl j) : i = j := by
  have hx : kk i = kk j := by
    unfold pl at h
    injection h
  exact kk_inj hi hj hx

/-- the newest of j -/
def osN (R j : Nat) : List Pl := ((List.range j).map pl).drop (j - R)
theorem len_osN (R j : Nat) : (osN R j).length = min R j := by unfold osN; simp; omega
theorem mem_osN {R j : Nat} {p : Pl} : p ∈ osN R j ↔ ∃ i, j - R ≤ i ∧ i < j ∧ pl i = p := by
  unfold osN
  rw [List.mem_iff_getElem]
  constructor
  · rintro ⟨k, hk, rfl⟩
    simp at hk
    exact ⟨j - R + k, by omega, by omega, by simp⟩
  · rintro ⟨i, h1, h2, rfl⟩
    exact ⟨i - (j - R), by simp; omega, by simp [show j - R + (i - (j - R)) = i by omega]⟩
theorem osN_succ {R j : Nat} (hR : 1 ≤ R) : evO R (osN R j) ++ [pl j] = osN R (j + 1) := by
  have hl := len_osN R j
  unfold evO
  by_cases h : (osN R j).length < R
  · rw [if_pos h]
    have h1 : j - R = 0 := by omega
    have h2 : j + 1 - R = 0 := by omega
    unfold osN
    rw [h1, h2, List.range_succ]
    simp
  · rw [if_neg h]
    have h1 : j + 1 - R = j - R + 1 := by omega
    unfold osN
    rw [h1, List.range_succ, List.map_append, List.drop_append_of_le_length (by simp; omega), List.drop_drop]
    rfl
theorem head_osN {R j : Nat} (h : R ≤ j) (hR : 1 ≤ R) : (osN R j).getD 0 p0 = pl (j - R) := by
  unfold osN
  have : j - R < j := by omega
  simp [this]
/-- what is kept behind j rounds -/
structure NI (R j : Nat) (os : List Pl) (M : Pl → Option Value) : Prop where
  os : os = osN R j
  at_ : ∀ i, j - R ≤ i → i < j → M (pl i) = some (pair i 2)
  vals : Vals M
theorem vals_none : Vals (fun _ => none) := fun p => ⟨0, 0, rfl⟩
theorem Vals.upd {M : Pl → Option Value} (h : Vals M) (p : Pl) (x1 x2 : Int) : Vals (upd M p (some (pair x1 x2))) := fun q => by
  unfold S.upd
  by_cases e : q = p
  · exact ⟨x1, x2, by simp [e]⟩
  · simp only [e, if_false]; exact h q
theorem Vals.del {M : Pl → Option Value} (h : Vals M) (p : Pl) : Vals (S.upd M p none) := fun q => by
  unfold S.upd
  by_cases e : q = p
  · exact ⟨0, 0, by simp [e]; rfl⟩
  · simp only [e, if_false]; exact h q
theorem Vals.ev {M : Pl → Option Value} (h : Vals M) (R : Nat) (os : List Pl) : Vals (evM R os M) := by
  unfold evM
  split
  · exact h
  · exact h.del _
theorem NI.nil (R : Nat) : NI R 0 [] (fun _ => none) := ⟨by simp [osN], fun i _ h => absurd h (by omega), vals_none⟩
theorem NI.step {R j : Nat} {os : List Pl} {M : Pl → Option Value} (hR : 1 ≤ R) (hj : j < 255) (h : NI R j os M) : NI R (j + 1) (evO R os ++ [pl j]) (S.upd (S.upd (evM R os M) (pl j) (some (pair j 1))) (pl j) (some (pair j 2))) := by
  refine ⟨by rw [h.os]; exact osN_succ hR, fun i h1 h2 => ?_, ((h.vals.ev R os).upd _ _ _).upd _ _ _⟩
  by_cases e : i = j
  · subst e
    simp [S.upd]
  · have hne : pl i ≠ pl j := fun e2 => e (pl_inj (by omega) (by omega) e2)
    simp only [S.upd, hne, if_false]
    unfold evM
    split
    · exact h.at_ i (by omega) (by omega)
    · rename_i hf
      rw [h.os, len_osN] at hf
      have hne2 : pl i ≠ os.getD 0 p0 := by
        rw [h.os, head_osN (by omega) hR]
        exact fun e2 => by have := pl_inj (by omega) (by omega) e2; omega
      simp only [S.upd, hne2, if_false]
      exact h.at_ i (by omega) (by omega)
theorem NI.fresh {R j : Nat} {os : List Pl} {M : Pl → Option Value} (hj : j < 255) (h : NI R j os M) : pl j ∉ os := by
  rw [h.os, mem_osN]
  rintro ⟨i, h1, h2, e⟩
  have := pl_inj (by omega) (by omega) e
  omega
theorem other_not {R j i : Nat} (hj : j < 256) (hi : i < 256) : (⟨1 - (i : Int) % 2, kk i⟩ : Pl) ∉ osN R j := by
  rw [mem_osN]
  rintro ⟨q, h1, h2, e⟩
  unfold pl at e
  injection e with e2 e3
  have e1 := kk_inj (by omega) hi e3
  subst e1
  omega
theorem two_filters {R j : Nat} : ((osN R j).filter (fun q => !decide (q.g = 0))).filter (fun q => !decide (q.g = 1)) = [] := by
  rw [List.filter_eq_nil_iff]
  intro q hq
  obtain ⟨hq, h0⟩ := List.mem_filter.1 hq
  obtain ⟨i, _, _, rfl⟩ := mem_osN.1 hq
  have h1 : ¬ (i : Int) % 2 = 0 := fun e => by simp [pl, e] at h0
  have h2 : (i : Int) % 2 = 1 := by omega
  simp [pl, h2]
end Go.Proofs.Ytgafdbamlmaifaa.S
