/-
  What Bytes, Put and Clear of a memory do: their contracts.
-/
import Derived.Test.YtioanbdmkiphfaaDoorMem4
namespace Go.Proofs.YtioanbdmkiphfaaDoor
open Go.RowKit
set_option linter.unusedVariables false

theorem mbytes_nobody (p : Value) (t n : Int) (w : World) (h : HV w p (.slice none 0 0)) :
    Calls Tryd.prog 22 #[p, .int .u64 t, .int .i64 n] w fun e w' => NoPlace 1 e ∧ w' = w := by
  go_enter Tryd.func22, Tryd.ntmps22
  go_wp2_with fail
  refine (place_nobody _ _ _ _ h).mono ?_
  rintro e w1 ⟨rfl, rfl⟩
  go_wp2_with fail
  go_ret2
  exact ⟨rfl, rfl⟩
theorem mplace_no (b g : Nat) (zs : List Int) (t n : Int) (w : World) (h : MM w b g zs) (ht : 0 ≤ t) (ht' : t < 18446744073709551616) (hn' : n < 9223372036854775808) (he : plcE zs.length t n ≠ 0) :
    Calls Tryd.prog 34 #[.pointer (some ⟨b, 0, none⟩), .int .u64 t, .int .i64 n] w fun e w' => NoPlace (plcE zs.length t n) e ∧ Below w.heap.size w w' := by
  by_cases h1 : n < 0
  · rw [show plcE zs.length t n = 2 by simp [plcE, h1]]
    refine (place_neg b g zs t n w h h1).mono ?_
    rintro e w1 ⟨rfl, rfl⟩
    exact ⟨rfl, Below.refl _ _⟩
  · have h3 : ¬ t + n ≤ zs.length := fun h3 => he (by simp [plcE, h1, h3])
    rw [show plcE zs.length t n = 12 by simp [plcE, h1, h3]]
    refine (place_out b g zs t n w h ht ht' (by omega) hn' h3).mono ?_
    rintro e w1 ⟨rfl, hb⟩
    exact ⟨rfl, hb⟩
theorem mbytes_no (b g : Nat) (zs : List Int) (t n : Int) (w : World) (h : MM w b g zs) (ht : 0 ≤ t) (ht' : t < 18446744073709551616) (hn' : n < 9223372036854775808) (he : plcE zs.length t n ≠ 0) :
    Calls Tryd.prog 22 #[.pointer (some ⟨b, 0, none⟩), .int .u64 t, .int .i64 n] w fun e w' => NoPlace (plcE zs.length t n) e ∧ Below w.heap.size w w' := by
  have he' : (plcE zs.length t n != 0) = true := by rw [bne_iff_ne]; exact he
  have HN := mplace_no b g zs t n w h ht ht' hn' he
  clear he
  generalize plcE zs.length t n = x at *
  go_enter Tryd.func22, Tryd.ntmps22
  go_wp2_with fail
  refine HN.mono ?_
  rintro e w1 ⟨rfl, hb1⟩
  go_wp2_with fail
  go_ret2
  exact ⟨rfl, hb1⟩
theorem mbytes_yes (b g : Nat) (zs : List Int) (T N : Nat) (w : World) (h : MM w b g zs) (ho : T + N ≤ zs.length) :
    Calls Tryd.prog 22 #[.pointer (some ⟨b, 0, none⟩), .int .u64 T, .int .i64 N] w fun e w' => ∃ g', e = .returned (.tuple #[.slice (some ⟨g', 0, none⟩) N N, .int .i64 0]) ∧ w'.ownsRow w.heap.size 5 1 (.slice (some ⟨g', 0, none⟩) N N) N (((zs.drop T).take N).map (Value.int .u8)) ∧ Below w.heap.size w w' := by
  have hl := h.len
  go_enter Tryd.func22, Tryd.ntmps22
  go_wp2_with fail
  refine (place_in b g zs T N _ h ho).mono ?_
  rintro e w1 ⟨⟨o, hoT, rfl⟩, hb1⟩
  have hm1 := h.below hb1
  have hsl : SL w1 (some ⟨g, o, none⟩) N ((zs.drop T).take N) := by
    rcases hoT with rfl | rfl
    · simp only [List.take_zero]; exact SL.nil _ _
    · exact hm1.sl o N ho
  go_wp2_with fail
  refine (copied_any _ N N ((zs.drop T).take N) _ hsl (by omega)).mono ?_
  rintro e w2 ⟨g', rfl, hown, hb2⟩
  have hs1 := hb1.size
  have HO : Hid (w2.ownsRow w.heap.size 5 1 (.slice (some ⟨g', 0, none⟩) N N) N (((zs.drop T).take N).map (Value.int .u8))) := by
    obtain ⟨k1, k2, k3⟩ := own_heap hown
    exact own_of_heap k1 k2 (by omega) (by unfold maxLen; omega)
  clear hown
  go_wp2_with fail
  go_ret2
  exact ⟨g', rfl, HO.out, hb1.trans (hb2.mono hb1.size)⟩

def putV (zs : List Int) (t : Int) (ys : List Int) : List Int := if plcE zs.length t ys.length = 0 then splice zs t.toNat ys else zs
theorem mput_nobody (p : Value) (t : Int) (a : Option Addr) (n c : Nat) (w : World) (h : HV w p (.slice none 0 0)) :
    Calls Tryd.prog 25 #[p, .int .u64 t, .slice a n c] w fun e w' => e = .returned (.int .i64 1) ∧ w' = w := by
  have hr := run_copy_none (P := Tryd.prog) w 55 55 3 5 none a 0 0 n c Tryd.underlying55 (by kernel_rfl) (by simp)
  go_enter Tryd.func25, Tryd.ntmps25
  go_wp2_with fail
  refine (place_nobody _ _ _ _ h).mono ?_
  rintro e w1 ⟨rfl, rfl⟩
  go_wp2_with fail
  go_ret
  exact ⟨rfl, rfl⟩
theorem mput_mm (b g : Nat) (zs ys : List Int) (t : Int) (a : Option Addr) (n c : Nat) (w : World) (h : MM w b g zs) (hs : SL w a n ys) (hn : n < 9223372036854775808) (ht : 0 ≤ t) (ht' : t < 18446744073709551616) :
    Calls Tryd.prog 25 #[.pointer (some ⟨b, 0, none⟩), .int .u64 t, .slice a n c] w fun e w' => e = .returned (.int .i64 (plcE zs.length t ys.length)) ∧ MM w' b g (putV zs t ys) ∧ w.grownBy w' (some g) := by
  have hyl := hs.1
  by_cases he : plcE zs.length t ys.length = 0
  · obtain ⟨_, h3⟩ := plcE_zero he
    obtain ⟨T, rfl⟩ := Int.eq_ofNat_of_zero_le ht
    rw [he, show putV zs T ys = splice zs T ys by rw [putV, if_pos he, Int.toNat_natCast]]
    clear he
    have hle : T + n ≤ zs.length := by omega
    go_enter Tryd.func25, Tryd.ntmps25
    go_wp2_with fail
    refine (place_in b g zs T n _ h hle).mono ?_
    rintro e w1 ⟨⟨o, hoT, rfl⟩, hb1⟩
    have hm1 := h.below hb1
    have hs1 := SL.below hs hb1
    obtain ⟨w3, hr3, hg3, hgr3⟩ := run_copy_sl 3 g T n (some ⟨g, o, none⟩) a n c n zs ys hm1.row hs1 rfl (by rcases hoT with h' | rfl; exact .inl h'; exact .inr rfl) hle
    have hlen := length_splice zs T ys (by omega)
    have hm3 := hm1.wrote hlen (bytes_splice h.bytes hs.2.1 T (by omega)) hg3 hgr3
    have HM : Hid (_) := hm3
    have hk : w.grownBy w3 (some g) := grown_trans (grown_some hb1 _) hgr3
    clear hg3 hm3 hm1 hs1
    go_wp2_with fail
    go_ret
    exact ⟨rfl, HM.out, hk⟩
  · have HN := mplace_no b g zs t ys.length w h ht ht' (by omega) he
    rw [show putV zs t ys = zs by rw [putV, if_neg he]]
    clear he
    rw [hyl] at HN ⊢
    generalize plcE zs.length t n = x at *
    go_enter Tryd.func25, Tryd.ntmps25
    go_wp2_with fail
    refine HN.mono ?_
    rintro e w1 ⟨rfl, hb1⟩
    have hr := run_copy_none (P := Tryd.prog) w1 55 55 3 5 none a 0 0 n c Tryd.underlying55 (by kernel_rfl) (by simp)
    go_wp2_with fail
    go_ret
    exact ⟨rfl, h.below hb1, grown_some hb1 _⟩

end Go.Proofs.YtioanbdmkiphfaaDoor
