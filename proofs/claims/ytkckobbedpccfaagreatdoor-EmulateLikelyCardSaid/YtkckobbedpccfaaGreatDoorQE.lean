/-
  What number, Load, Store, Bytes, Put and Clear of a memory do: their contracts.
-/
import Derived.Test.YtkckobbedpccfaaGreatDoorQD
namespace Go.Proofs.YtkckobbedpccfaaGreatDoor
open Go.RowKit
set_option linter.unusedVariables false

theorem SZ.below {w w' : World} (h : SZ w) (hb : Below w.heap.size w w') : SZ w' := by
  have hs := hb.size
  obtain ⟨hc, _⟩ := bcell hb
  obtain ⟨c0, c1, c2, c3, c4, c5, hp⟩ := h
  exact ⟨(hc _ _ hp).trans c0, (hc _ _ hp).trans c1, (hc _ _ hp).trans c2, (hc _ _ hp).trans c3, (hc _ _ hp).trans c4, (hc _ _ hp).trans c5, by omega⟩
theorem SZ.kept {w w' : World} (h : SZ w) {g : Nat} (hg : 0 < g) (hb : w.grownBy w' (some g)) : SZ w' := by
  have hs := hb.size
  obtain ⟨c0, c1, c2, c3, c4, c5, hp⟩ := h
  have hk := hb.block 0 hp (by simp; omega)
  have hc : ∀ o, w'.cell? ⟨0, o, none⟩ = w.cell? ⟨0, o, none⟩ := fun o => World.cell?_of_block (a := ⟨0, o, none⟩) hk
  exact ⟨(hc _).trans c0, (hc _).trans c1, (hc _).trans c2, (hc _).trans c3, (hc _).trans c4, (hc _).trans c5, by omega⟩

def isW (n : Int) : Prop := n = 1 ∨ n = 4 ∨ n = 8
instance (n : Int) : Decidable (isW n) := inferInstanceAs (Decidable (n = 1 ∨ n = 4 ∨ n = 8))
/-- P4.2: the error of a number's place -/
def numE (len : Nat) (t n : Int) : Int := if ¬ isW n then 2 else if ¬ t % n = 0 then 11 else if ¬ t + n ≤ len then 12 else 0
/-- P4.3: the error of bytes' place -/
def plcE (len : Nat) (t n : Int) : Int := if n < 0 then 2 else if ¬ t + n ≤ len then 12 else 0
theorem numE_zero {len : Nat} {t n : Int} (h : numE len t n = 0) : isW n ∧ t % n = 0 ∧ t + n ≤ len := by
  unfold numE at h
  by_cases h1 : isW n
  · by_cases h2 : t % n = 0
    · by_cases h3 : t + n ≤ len
      · exact ⟨h1, h2, h3⟩
      · simp [h1, h2, h3] at h
    · simp [h1, h2] at h
  · simp [h1] at h
theorem plcE_zero {len : Nat} {t n : Int} (h : plcE len t n = 0) : 0 ≤ n ∧ t + n ≤ len := by
  unfold plcE at h
  by_cases h1 : n < 0
  · simp [h1] at h
  · by_cases h3 : t + n ≤ len
    · exact ⟨by omega, h3⟩
    · simp [h1, h3] at h

/-- a place with an error: no bytes of it -/
def NoPlace (x : Int) (e : Ending) : Prop := e = .returned (.tuple #[.slice none 0 0, .int .i64 x])

theorem number_nobody (p : Value) (t n : Int) (w : World) (h : HV w p (.slice none 0 0)) :
    Calls Tryz.prog 17 #[p, .int .u64 t, .int .i64 n] w fun e w' => NoPlace 1 e ∧ w' = w := by
  go_enter Tryz.func17, Tryz.ntmps17
  go_wp2_with fail
  refine (made_any _ _ _ _ _ h).mono ?_
  rintro e w1 ⟨rfl, rfl⟩
  go_wp2_with fail
  go_ret2
  exact ⟨rfl, rfl⟩
theorem number_no (b g : Nat) (zs : List Int) (t n : Int) (w : World) (h : MM w b g zs) (ht : 0 ≤ t) (ht' : t < 18446744073709551616) (hn' : n < 9223372036854775808) (he : numE zs.length t n ≠ 0) :
    Calls Tryz.prog 17 #[.pointer (some ⟨b, 0, none⟩), .int .u64 t, .int .i64 n] w fun e w' => NoPlace (numE zs.length t n) e ∧ Below w.heap.size w w' := by
  have hd : decide (0 < zs.length) = true := decide_eq_true h.pos
  by_cases h1 : isW n
  · have h1' : n = 1 ∨ n = 4 ∨ n = 8 := h1
    by_cases h2 : t % n = 0
    · have h3 : ¬ t + n ≤ zs.length := fun h3 => he (by simp [numE, h1, h2, h3])
      have HE : Hid (numE zs.length t n = 12) := by show _ = _; simp [numE, h1, h2, h3]
      clear he
      rcases h1' with rfl | rfl | rfl
      all_goals
        go_enter Tryz.func17, Tryz.ntmps17
        go_wp2_with fail
        refine (made_any _ _ _ _ _ h.hv).mono ?_
        rintro e w1 ⟨rfl, rfl⟩
        rw [hd]
        go_wp2_with fail
        refine (place_out b g zs _ _ _ h ht ht' (by omega) (by omega) (by omega)).mono ?_
        rintro e w2 ⟨rfl, hb2⟩
        go_wp2_with fail
        go_ret2
        exact ⟨by rw [HE.out]; rfl, hb2⟩
    · have HE : Hid (numE zs.length t n = 11) := by show _ = _; simp [numE, h1, h2]
      clear he
      have h1'' : n = 4 ∨ n = 8 := by
        rcases h1' with rfl | h | h
        · omega
        · exact .inl h
        · exact .inr h
      rcases h1'' with rfl | rfl
      all_goals
        go_enter Tryz.func17, Tryz.ntmps17
        go_wp2_with fail
        refine (made_any _ _ _ _ _ h.hv).mono ?_
        rintro e w1 ⟨rfl, rfl⟩
        rw [hd]
        go_wp2_with fail
        go_ret2
        exact ⟨by rw [HE.out]; rfl, Below.refl _ _⟩
  · have HE : Hid (numE zs.length t n = 2) := by show _ = _; simp [numE, h1]
    clear he
    have e1 : (n != 1) = true := by rw [bne_iff_ne]; exact fun e => h1 (.inl e)
    have e4 : (n != 4) = true := by rw [bne_iff_ne]; exact fun e => h1 (.inr (.inl e))
    have e8 : (n != 8) = true := by rw [bne_iff_ne]; exact fun e => h1 (.inr (.inr e))
    go_enter Tryz.func17, Tryz.ntmps17
    go_wp2_with fail
    refine (made_any _ _ _ _ _ h.hv).mono ?_
    rintro e w1 ⟨rfl, rfl⟩
    rw [hd]
    go_wp2_with fail
    go_ret2
    exact ⟨by rw [HE.out]; rfl, Below.refl _ _⟩
theorem number_yes (b g : Nat) (zs : List Int) (T N : Nat) (w : World) (h : MM w b g zs) (hw : isW N) (ha : (T : Int) % N = 0) (ho : T + N ≤ zs.length) :
    Calls Tryz.prog 17 #[.pointer (some ⟨b, 0, none⟩), .int .u64 T, .int .i64 N] w fun e w' => e = .returned (.tuple #[.slice (some ⟨g, T, none⟩) N N, .int .i64 0]) ∧ Below w.heap.size w w' := by
  have hd : decide (0 < zs.length) = true := decide_eq_true h.pos
  have hl := h.len
  have hw' : N = 1 ∨ N = 4 ∨ N = 8 := by unfold isW at hw; omega
  have HP := place_in b g zs T N w h ho
  rcases hw' with rfl | rfl | rfl
  all_goals
    go_enter Tryz.func17, Tryz.ntmps17
    go_wp2_with fail
    refine (made_any _ _ _ _ _ h.hv).mono ?_
    rintro e w1 ⟨rfl, rfl⟩
    rw [hd]
    go_wp2_with fail
    refine HP.mono ?_
    rintro e w2 ⟨⟨o, ho, rfl⟩, hb2⟩
    obtain rfl : o = T := by omega
    go_wp2_with fail
    go_ret2
    exact ⟨rfl, hb2⟩

def loadV (zs : List Int) (t n : Int) : Int := if numE zs.length t n = 0 then extW n (leFrom zs t.toNat n.toNat) else 0
def storeV (zs : List Int) (t n v : Int) : List Int := if numE zs.length t n = 0 then splice zs t.toNat (bytesOf v n.toNat) else zs

theorem leFrom_mid (zs : List Int) : ∀ (m k o n : Nat), k + m ≤ n → leFrom ((zs.drop o).take n) k m = leFrom zs (o + k) m
  | 0, _, _, _, _ => rfl
  | m + 1, k, o, n, h => by
    rw [leFrom, leFrom, leFrom_mid zs m (k + 1) o n (by omega), show o + (k + 1) = o + k + 1 by omega]
    simp [List.getD, show k < n by omega, List.getElem?_drop]

theorem mload_nobody (p : Value) (t n : Int) (w : World) (h : HV w p (.slice none 0 0)) :
    Calls Tryz.prog 9 #[p, .int .u64 t, .int .i64 n] w fun e w' => e = .returned (.tuple #[.int .u64 0, .int .i64 1]) ∧ w' = w := by
  go_enter Tryz.func9, Tryz.ntmps9
  go_wp2_with fail
  refine (number_nobody _ _ _ _ h).mono ?_
  rintro e w1 ⟨rfl, rfl⟩
  go_wp2_with fail
  go_ret2
  exact ⟨rfl, rfl⟩
theorem mload_mm (b g : Nat) (zs : List Int) (t n : Int) (w : World) (hz : SZ w) (h : MM w b g zs) (ht : 0 ≤ t) (ht' : t < 18446744073709551616) (hn' : n < 9223372036854775808) :
    Calls Tryz.prog 9 #[.pointer (some ⟨b, 0, none⟩), .int .u64 t, .int .i64 n] w fun e w' => e = .returned (.tuple #[.int .u64 (loadV zs t n), .int .i64 (numE zs.length t n)]) ∧ Below w.heap.size w w' := by
  by_cases he : numE zs.length t n = 0
  · obtain ⟨h1, h2, h3⟩ := numE_zero he
    have hn0 : 0 ≤ n := by unfold isW at h1; omega
    obtain ⟨T, rfl⟩ := Int.eq_ofNat_of_zero_le ht
    obtain ⟨N, rfl⟩ := Int.eq_ofNat_of_zero_le hn0
    have HE : Hid (extW N (leFrom ((zs.drop T).take N) 0 N) = loadV zs T N) := by
      show _ = _
      rw [loadV, if_pos he, Int.toNat_natCast, Int.toNat_natCast, leFrom_mid zs N 0 T N (by omega), Nat.add_zero]
    have hN : N ≤ 8 := by unfold isW at h1; omega
    rw [he]
    clear he
    go_enter Tryz.func9, Tryz.ntmps9
    go_wp2_with fail
    refine (number_yes b g zs T N _ h h1 h2 (by omega)).mono ?_
    rintro e w1 ⟨rfl, hb1⟩
    have hz1 := SZ.below hz hb1
    have hm1 := h.below hb1
    have hsl := hm1.sl T N (by omega)
    go_wp2_with fail
    refine (load_yes g T N N 0 N ((zs.drop T).take N) _ hz1 h1 (by omega) (by unfold maxLen; omega) hm1.glt ?_ hsl.2.1).mono ?_
    · intro i hi
      rcases hsl.2.2 with h0 | ⟨b', off, hb', _, hc⟩
      · omega
      · cases hb'; exact hc i hi
    rintro e w2 ⟨rfl, hb2⟩
    rw [HE.out]
    go_wp2_with fail
    go_ret2
    exact ⟨rfl, hb1.trans (hb2.mono hb1.size)⟩
  · have HE : Hid (loadV zs t n = 0) := by show _ = _; rw [loadV, if_neg he]
    have he' : (numE zs.length t n != 0) = true := by rw [bne_iff_ne]; exact he
    have HN := number_no b g zs t n w h ht ht' hn' he
    rw [HE.out]
    clear he HE
    generalize numE zs.length t n = x at *
    go_enter Tryz.func9, Tryz.ntmps9
    go_wp2_with fail
    refine HN.mono ?_
    rintro e w1 ⟨rfl, hb1⟩
    go_wp2_with fail
    go_ret2
    exact ⟨rfl, hb1⟩

/-- the memory's row written anew -/
theorem MM.wrote {w w' : World} {b g : Nat} {zs ys : List Int} (h : MM w b g zs) (hl : ys.length = zs.length) (hB : Bytes ys) (hr : w'.heap[g]? = some (.cells (ys.map (Value.int .u8)).toArray 5 (0, 0))) (hk : w.grownBy w' (some g)) : MM w' b g ys := by
  refine ⟨?_, hr, h.ne, hB, by have := h.pos; omega, by have := h.len; omega⟩
  rw [hk.block b h.blt (by have := h.ne; simp; omega), hl]
  exact h.cell
theorem bytes_splice {zs ys : List Int} (h : Bytes zs) (h' : Bytes ys) (o : Nat) (ho : o + ys.length ≤ zs.length) : Bytes (splice zs o ys) := by
  intro i
  have a := h i
  have b := h' (i - o)
  unfold splice
  simp only [List.getD, List.getElem?_append, List.length_take, List.getElem?_take, List.getElem?_drop] at *
  by_cases h1 : i < o
  · have : i < min o zs.length := by omega
    simp only [this, h1, if_true]; exact a
  · have e1 : ¬ i < min o zs.length := by omega
    have e2 : min o zs.length = o := by omega
    simp only [h1, if_false, e2]
    by_cases h2 : i - o < ys.length
    · simp only [h2, if_true]; exact b
    · simp only [h2, if_false]
      rw [show o + ys.length + (i - o - ys.length) = i by omega]; exact a
theorem grown_some {w w' : World} (h : Below w.heap.size w w') (r : Option Nat) : w.grownBy w' r := ⟨h.os, h.tape, h.output, h.size, fun k hk _ => h.block k hk⟩

theorem mstore_nobody (p : Value) (t n v : Int) (w : World) (hz : SZ w) (h : HV w p (.slice none 0 0)) (h0 : 0 ≤ v) (h1 : v < 18446744073709551616) :
    Calls Tryz.prog 7 #[p, .int .u64 t, .int .i64 n, .int .u64 v] w fun e w' => e = .returned (.int .i64 1) ∧ Below w.heap.size w w' := by
  by_cases hn : n = 1 ∨ n = 4 ∨ n = 8
  · obtain ⟨N, rfl⟩ := Int.eq_ofNat_of_zero_le (show 0 ≤ n by omega)
    go_enter Tryz.func7, Tryz.ntmps7
    go_wp2_with fail
    refine (number_nobody _ _ _ _ h).mono ?_
    rintro e w1 ⟨rfl, rfl⟩
    go_wp2_with fail
    refine (store_yes v N _ hz hn h0 h1).mono ?_
    rintro e w2 ⟨g2, rfl, hown, hb2⟩
    have hr := run_copy_none (P := Tryz.prog) w2 72 72 3 5 none (some ⟨g2, 0, none⟩) 0 0 N N Tryz.underlying72 (by kernel_rfl) (by simp)
    clear hown
    go_wp2_with fail
    go_ret
    exact ⟨rfl, hb2⟩
  · go_enter Tryz.func7, Tryz.ntmps7
    go_wp2_with fail
    refine (number_nobody _ _ _ _ h).mono ?_
    rintro e w1 ⟨rfl, rfl⟩
    go_wp2_with fail
    refine (store_no v n _ hz hn).mono ?_
    rintro e w2 ⟨rfl, hb2⟩
    have hr := run_copy_none (P := Tryz.prog) w2 72 72 3 5 none none 0 0 0 0 Tryz.underlying72 (by kernel_rfl) (by simp)
    go_wp2_with fail
    go_ret
    exact ⟨rfl, hb2⟩

theorem mstore_mm (b g : Nat) (zs : List Int) (t n v : Int) (w : World) (hz : SZ w) (h : MM w b g zs) (ht : 0 ≤ t) (ht' : t < 18446744073709551616) (hn' : n < 9223372036854775808) (h0 : 0 ≤ v) (h1 : v < 18446744073709551616) :
    Calls Tryz.prog 7 #[.pointer (some ⟨b, 0, none⟩), .int .u64 t, .int .i64 n, .int .u64 v] w fun e w' => e = .returned (.int .i64 (numE zs.length t n)) ∧ MM w' b g (storeV zs t n v) ∧ w.grownBy w' (some g) := by
  by_cases he : numE zs.length t n = 0
  · obtain ⟨k1, k2, k3⟩ := numE_zero he
    have hn0 : 0 ≤ n := by unfold isW at k1; omega
    obtain ⟨T, rfl⟩ := Int.eq_ofNat_of_zero_le ht
    obtain ⟨N, rfl⟩ := Int.eq_ofNat_of_zero_le hn0
    have HE : Hid (storeV zs T N v = splice zs T (bytesOf v N)) := by show _ = _; rw [storeV, if_pos he, Int.toNat_natCast, Int.toNat_natCast]
    have hN : N ≤ 8 := by unfold isW at k1; omega
    rw [he, HE.out]
    clear he HE
    go_enter Tryz.func7, Tryz.ntmps7
    go_wp2_with fail
    refine (number_yes b g zs T N _ h k1 k2 (by omega)).mono ?_
    rintro e w1 ⟨rfl, hb1⟩
    have hz1 := SZ.below hz hb1
    have hm1 := h.below hb1
    go_wp2_with fail
    refine (store_yes v N _ hz1 k1 h0 h1).mono ?_
    rintro e w2 ⟨g2, rfl, hown, hb2⟩
    have hm2 := hm1.below hb2
    have hs2 := SL.own hown (bytesOf_bytes v N)
    obtain ⟨w3, hr3, hg3, hgr3⟩ := run_copy_sl 3 g T N (some ⟨g, T, none⟩) (some ⟨g2, 0, none⟩) N N N zs (bytesOf v N) hm2.row hs2 rfl (.inr rfl) (by omega)
    have hlen := length_splice zs T (bytesOf v N) (by rw [bytesOf_len]; omega)
    have hm3 := hm2.wrote hlen (bytes_splice h.bytes (bytesOf_bytes v N) T (by rw [bytesOf_len]; omega)) hg3 hgr3
    have HM : Hid (_) := hm3
    have hk : w.grownBy w3 (some g) := grown_trans (grown_some (hb1.trans (hb2.mono hb1.size)) _) hgr3
    clear hown hg3 hm3 hs2 hm1 hm2
    go_wp2_with fail
    go_ret
    exact ⟨rfl, HM.out, hk⟩
  · have HE : Hid (storeV zs t n v = zs) := by show _ = _; rw [storeV, if_neg he]
    have HN := number_no b g zs t n w h ht ht' hn' he
    rw [HE.out]
    clear he HE
    generalize numE zs.length t n = x at *
    by_cases hn : n = 1 ∨ n = 4 ∨ n = 8
    · obtain ⟨N, rfl⟩ := Int.eq_ofNat_of_zero_le (show 0 ≤ n by omega)
      go_enter Tryz.func7, Tryz.ntmps7
      go_wp2_with fail
      refine HN.mono ?_
      rintro e w1 ⟨rfl, hb1⟩
      have hz1 := SZ.below hz hb1
      go_wp2_with fail
      refine (store_yes v N _ hz1 hn h0 h1).mono ?_
      rintro e w2 ⟨g2, rfl, hown, hb2⟩
      have hr := run_copy_none (P := Tryz.prog) w2 72 72 3 5 none (some ⟨g2, 0, none⟩) 0 0 N N Tryz.underlying72 (by kernel_rfl) (by simp)
      clear hown
      go_wp2_with fail
      go_ret
      exact ⟨rfl, (h.below hb1).below hb2, grown_some (hb1.trans (hb2.mono hb1.size)) _⟩
    · go_enter Tryz.func7, Tryz.ntmps7
      go_wp2_with fail
      refine HN.mono ?_
      rintro e w1 ⟨rfl, hb1⟩
      have hz1 := SZ.below hz hb1
      go_wp2_with fail
      refine (store_no v n _ hz1 hn).mono ?_
      rintro e w2 ⟨rfl, hb2⟩
      have hr := run_copy_none (P := Tryz.prog) w2 72 72 3 5 none none 0 0 0 0 Tryz.underlying72 (by kernel_rfl) (by simp)
      go_wp2_with fail
      go_ret
      exact ⟨rfl, (h.below hb1).below hb2, grown_some (hb1.trans (hb2.mono hb1.size)) _⟩
end Go.Proofs.YtkckobbedpccfaaGreatDoor
