/-
  Behind a trap one comes back to where one was: the walk of CsrBack.
-/
import Derived.Test.YtcgopiljbodcdaaBk
import Derived.Test.YtcgopiljbodcdaaLv
import Derived.Test.YtcgopiljbodcdaaTr
import Derived.Deep.RegionWith
namespace Go.Proofs.Ytcgopiljbodcdaa
open Go.RowKit
set_option linter.unusedVariables false
set_option maxRecDepth 20000
namespace csrBack
/-- acts that came in -/
def ActsIn (w : World) (a : Option Addr) (n : Nat) : Prop :=
  n = 0 ∨ ∃ b off, a = some ⟨b, off, none⟩ ∧ b < w.heap.size ∧ ∀ i, i < n → ∃ kd nn v : Int, U v ∧ w.cell? ⟨b, off + i * 8, none⟩ = some (.int .i64 kd) ∧ w.cell? ⟨b, off + i * 8 + 1, none⟩ = some (.int .i64 nn) ∧ w.cell? ⟨b, off + i * 8 + 3, none⟩ = some (.int .u64 v)
theorem get_int (F : Nat) (R : Nat → Int) (i : Int) (h0 : 0 ≤ i) (h1 : i < 12) (w : World) (h : FF w F R) : Calls Try.prog 12 #[.pointer (some ⟨F, 0, none⟩), .int .i64 i] w fun e w' => e = .returned (.int .u64 (R i.toNat)) ∧ w' = w := by
  obtain ⟨n, rfl⟩ := Int.eq_ofNat_of_zero_le h0
  exact get_ff F R n (by omega) w h

set_option maxHeartbeats 3200000 in
theorem walk (a : Option Addr) (n cap : Nat) (c va gu pc : Int) (hva : U va) (w : World) (hacts : ActsIn w a n) (hn : n < 9223372036854775808) :
    Calls Try.prog 4 #[.slice a n cap, trapV c va gu, .int .u64 pc] w fun e w' => e = .returned (.bool true) ∧ Below w.heap.size w w' := by
  have hb0 : Below w.heap.size w (w.alloc (.cells #[.int .i64 c, .int .u64 va, .int .u64 gu] 24)) := (Below.refl _ _).alloc (Nat.le_refl _) _
  have C := new_ff 0 (by decide) (by decide) (w.alloc (.cells #[.int .i64 c, .int .u64 va, .int .u64 gu] 24))
  have HB0 : Hid (Below w.heap.size w (w.alloc (.cells #[.int .i64 c, .int .u64 va, .int .u64 gu] 24))) := hb0
  have HA : Hid (ActsIn w a n) := hacts
  clear hb0 hacts
  unfold trapV
  go_enter Try.func4, Try.ntmps4
  go_wp2_with fail
  refine C.mono ?_
  rintro e w1 ⟨F, rfl, hF, h1, hb1⟩
  have hF' : w.heap.size < F := by simp at hF; omega
  have HE0 : Hid (ES w w1 F w.heap.size (newP 0) c va gu) := ⟨h1, (hb1.block w.heap.size (by simp)).trans (heap_alloc_at w _), by omega, grown_of_below (HB0.out.trans (hb1.mono HB0.out.size))⟩
  clear hF h1 hb1 C HB0
  go_wp2_with fail
  go_loopw [8] (fun i wr => ∃ j : Nat, j ≤ n ∧ i = .int .i64 j ∧ ∃ R, Hid (ES w wr F w.heap.size R c va gu)) (fun i _ => n - (intOf i).toNat)
  case atStart => exact ⟨0, by omega, rfl, _, HE0⟩
  case round =>
    obtain ⟨j, hj, rfl, R, HE⟩ := hrel
    clear HE0
    by_cases h2 : j < n
    · have h2' : (j : Int) < (n : Int) := by omega
      rcases HA.out with h0 | ⟨B, off, rfl, hB, hall⟩
      · omega
      obtain ⟨kd, nn, v, hv, e0, e1, e3⟩ := hall j h2
      have hbl := bcell (gr_below HE.out.gr (Nat.le_of_lt hF') (Nat.le_refl _))
      have c0 := (hbl.1 B (off + j * 8) hB).trans e0
      have c1 := (hbl.1 B (off + j * 8 + 1) hB).trans e1
      have c3 := (hbl.1 B (off + j * 8 + 3) hB).trans e3
      have hBs : B < wr.heap.size := Nat.lt_of_lt_of_le hB HE.out.gr.size
      have C : ∀ x, FF x F R → Calls Try.prog 11 #[.pointer (some ⟨F, 0, none⟩), .int .i64 nn, .int .i64 1, .int .u64 v] x fun e w' => ∃ z R', e = .returned (.int .i64 z) ∧ FF w' F R' ∧ x.grownBy w' (some F) := fun x hx => write_any F R nn v hv x hx
      have HC : Hid (∀ x, FF x F R → Calls Try.prog 11 #[.pointer (some ⟨F, 0, none⟩), .int .i64 nn, .int .i64 1, .int .u64 v] x fun e w' => ∃ z R', e = .returned (.int .i64 z) ∧ FF w' F R' ∧ x.grownBy w' (some F)) := C
      clear hbl e0 e1 e3 hall hv C
      by_cases hk : kd = 0
      · subst hk
        go_wp2_with fail
        go_region_with ((refine (HC.out wr.drew (HE.out.ff.keep rfl)).mono ?_; rintro e y1 ⟨z, R', rfl, hf, hg⟩; have HE1 : Hid (ES w y1 F w.heap.size R' c va gu) := HE.out.grown hf ⟨hg.os, hg.tape, hg.output, hg.size, hg.block⟩; clear hf hg))
        all_goals
          clear c0 c1 c3 HC HE hBs
          go_wp2_with fail
          go_roundw
          case rel => exact ⟨j + 1, by omega, by go_num, _, HE1⟩
          case measure => simp [intOf]; omega
      · clear c1 c3 HC
        go_wp2_with fail
        go_roundw
        case rel => exact ⟨j + 1, by omega, by go_num, _, HE⟩
        case measure => simp [intOf]; omega
    · obtain rfl : n = j := by omega
      clear HA
      go_wp2_with fail
      go_loopw [9] (fun i wq => ∃ m : Nat, m ≤ 2 ∧ i = .int .i64 m ∧ ∃ R, Hid (ES w wq F w.heap.size R c va gu)) (fun i _ => 2 - (intOf i).toNat)
      case atStart => exact ⟨0, by omega, rfl, _, HE⟩
      case round =>
        obtain ⟨m, hm, rfl, R2, HE2⟩ := hrel
        clear HE
        by_cases h3 : m < 2
        · have h3' : (m : Int) ≤ 1 := by omega
          have hU0 : Hid (U (R2 0)) := HE2.out.ff.rg 0 (by decide)
          obtain ⟨t0, t1, t2, tl⟩ := HE2.out.cs
          have C0 := get_ff F R2 0 (by decide) wr HE2.out.ff
          have C3 := get_ff F R2 3 (by decide) wr HE2.out.ff
          have C9 := enter_ff F R2 c va gu pc m hva wr HE2.out.ff
          unfold trapV at C9
          go_wp2_with fail
          refine C0.mono ?_
          rintro e wr ⟨rfl, rfl⟩
          go_wp2_with fail
          refine C3.mono ?_
          rintro e wr ⟨rfl, rfl⟩
          go_wp2_with fail
          refine C9.mono ?_
          rintro e y1 ⟨rfl, ⟨x, hf⟩, hg⟩
          obtain ⟨R3, HE3, HR⟩ : ∃ R3 : Nat → Int, Hid (ES w y1 F w.heap.size R3 c va gu) ∧ Hid (hasP (R3 0) 2 = false ∧ hasP (R3 0) 256 = ((m : Int) == 1) ∧ R3 4 = bits .andNot .u64 pc 3 ∧ R3 6 = va ∧ bits .and .u64 (leS (R3 0)) 2 = bits .and .u64 (R2 0) 2) :=
            ⟨enterP R2 x va pc ((m : Int) == 1), HE2.out.grown hf hg, enS_off (R2 0) hU0.out _, enS_kern (R2 0) hU0.out _, rfl, rfl, leS_on (R2 0) hU0.out _⟩
          clear hf hg C0 C3 C9 t0 t1 t2 tl HE2
          have CD := due_off F R3 1 (by decide) HR.out.1 y1 HE3.out.ff
          have CL := leave_ff F R3 y1 HE3.out.ff
          rw [HR.out.2.1, HR.out.2.2.1] at CL
          have hmm : (if ((m : Int) == 1) = true then (1 : Int) else 0) = (m : Int) := by
            obtain rfl | rfl : m = 0 ∨ m = 1 := by omega
            · rfl
            · rfl
          rw [hmm] at CL
          generalize hy : bits .and .u64 (R2 0) 2 = y at *
          have hy3 : bits .and .u64 (leS (R3 0)) 2 = y := HR.out.2.2.2.2
          have h6 := HR.out.2.2.2.1
          clear hmm hy hU0 HR
          go_wp2_with fail
          refine CD.mono ?_
          rintro e y1 ⟨rfl, rfl⟩
          clear CD
          go_wp2_with fail
          refine CL.mono ?_
          rintro e y2 ⟨rfl, hf, hg⟩
          obtain ⟨R4, HE4, e0, e6⟩ : ∃ R4 : Nat → Int, Hid (ES w y2 F w.heap.size R4 c va gu) ∧ bits .and .u64 (R4 0) 2 = y ∧ R4 6 = va := ⟨_, HE3.out.grown hf hg, hy3, h6⟩
          obtain ⟨t0, t1, t2, tl⟩ := HE4.out.cs
          clear CL HE3 hf hg hy3 h6
          go_wp2_with fail
          go_quiet ((go_at_call 12; refine Calls.quiet_of_same (get_int F R4 _ (by decide) (by decide) _ (HE4.out.ff.keep rfl))))
          go_wp2_with fail
          go_roundw
          case rel => exact ⟨m + 1, by omega, by go_num, R4, HE4.out.grown (HE4.out.ff.keep rfl) (grown_of_below (below_drewN (Below.refl _ _) _))⟩
          case measure => simp [intOf]; omega
        · obtain rfl : m = 2 := by omega
          have bl := gr_below HE2.out.gr (Nat.le_of_lt hF') (Nat.le_refl _)
          clear HE2
          go_wp2_with fail
          go_ret
          exact ⟨rfl, bl⟩
end csrBack
end Go.Proofs.Ytcgopiljbodcdaa
