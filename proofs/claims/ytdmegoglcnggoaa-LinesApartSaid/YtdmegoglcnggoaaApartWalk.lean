/-
  The walk of LinesApart.
-/
import Derived.Test.YtdmegoglcnggoaaSd
import Derived.Test.YtdmegoglcnggoaaTk
import Derived.Test.YtdmegoglcnggoaaNw
import Derived.Test.YtdmegoglcnggoaaActs
namespace Go.Proofs.Ytdmegoglcnggoaa.linesApart
open Go.RowKit
set_option linter.unusedVariables false
set_option maxRecDepth 20000
/-- the state between the rounds: core 2 has one event and a timer -/
def AS (w wr : World) (l b : Nat) (C : Nat → Nat) : Prop := ∃ S, LW w.heap.size wr l b 3 C S ∧ S 2 = ⟨[7], 0, 50, true⟩ ∧ Below w.heap.size w wr
section
variable {w wr w' : World} {l b : Nat} {C : Nat → Nat}
theorem AS.below (h : AS w wr l b C) (hk : Below wr.heap.size wr w') : AS w w' l b C := by
  obtain ⟨S, hL, h2, hb⟩ := h
  exact ⟨S, hL.below hk, h2, hb.trans (hk.mono hb.size)⟩
theorem AS.next {S S' : Nat → Ln} (hL : LW w.heap.size wr l b 3 C S) (hb : Below w.heap.size w wr) (hL' : LW w.heap.size w' l b 3 C S') (ht : Trn (LS b 3 C) wr w') (h2 : S' 2 = ⟨[7], 0, 50, true⟩) : AS w w' l b C :=
  ⟨S', hL', h2, hb.trans (hL.to ht)⟩
theorem AS.send (h : AS w wr l b C) {i : Nat} (hi : i < 2) (x : Int) : Calls Try.prog 11 #[.pointer (some ⟨l, 0, none⟩), .int .i64 i, .int .i64 x] wr fun e w' => ∃ r, e = .returned (.int .i64 r) ∧ AS w w' l b C := by
  obtain ⟨S, hL, h2, hb⟩ := h
  by_cases hq : (S i).q.length < 16
  · exact (send_room hL (by omega) x hq).mono fun e w' ⟨he, hL', ht⟩ => ⟨_, he, .next hL hb hL' ht (by rw [upd_other _ _ _ (by omega)]; exact h2)⟩
  · exact (send_full hL (by omega) x (by omega)).mono fun e w' ⟨he, hw⟩ => ⟨_, he, hw ▸ ⟨S, hL, h2, hb⟩⟩
theorem AS.take (h : AS w wr l b C) {i : Nat} (hi : i < 2) : Calls Try.prog 13 #[.pointer (some ⟨l, 0, none⟩), .int .i64 i] wr fun e w' => ∃ x ok, e = .returned (.tuple #[.int .i64 x, .bool ok]) ∧ AS w w' l b C := by
  obtain ⟨S, hL, h2, hb⟩ := h
  match hq : (S i).q with
  | [] => exact (take_none hL (by omega) hq).mono fun e w' ⟨he, hw⟩ => ⟨_, _, he, hw ▸ ⟨S, hL, h2, hb⟩⟩
  | x :: q => exact (take_some hL (by omega) x q hq).mono fun e w' ⟨he, hL', ht⟩ => ⟨_, _, he, .next hL hb hL' ht (by rw [upd_other _ _ _ (by omega)]; exact h2)⟩
theorem AS.set (h : AS w wr l b C) {i : Nat} (hi : i < 2) (x : Int) : Calls Try.prog 15 #[.pointer (some ⟨l, 0, none⟩), .int .i64 i, .int .u64 x] wr fun e w' => e = .returned (.int .i64 0) ∧ AS w w' l b C := by
  obtain ⟨S, hL, h2, hb⟩ := h
  exact (set_ok hL (by omega) x).mono fun e w' ⟨he, hL', ht⟩ => ⟨he, .next hL hb hL' ht (by rw [upd_other _ _ _ (by omega)]; exact h2)⟩
theorem AS.tick (h : AS w wr l b C) {i : Nat} (hi : i < 2) (x : Int) (hx : 0 ≤ x ∧ x < 18446744073709551616) : Calls Try.prog 17 #[.pointer (some ⟨l, 0, none⟩), .int .i64 i, .int .u64 x] wr fun e w' => ∃ d, e = .returned (.tuple #[.bool d, .int .i64 0]) ∧ AS w w' l b C := by
  obtain ⟨S, hL, h2, hb⟩ := h
  exact (tick_ok hL (by omega) x hx).mono fun e w' ⟨he, hL', ht⟩ => ⟨_, he, .next hL hb hL' ht (by rw [upd_other _ _ _ (by omega)]; exact h2)⟩
theorem AS.armed (h : AS w wr l b C) : Calls Try.prog 19 #[.pointer (some ⟨l, 0, none⟩), .int .i64 2] wr fun e w' => e = .returned (.tuple #[.int .u64 50, .bool true]) ∧ AS w w' l b C := by
  obtain ⟨S, hL, h2, hb⟩ := h
  refine (armed_ok hL (i := 2) (by omega)).mono fun e w' ⟨he, k, hw⟩ => ⟨by rw [he, h2], ?_⟩
  subst hw
  exact ⟨S, hL.keep fun _ _ _ => rfl, h2, ⟨hb.os, hb.tape, hb.output, hb.size, hb.block⟩⟩
theorem AS.wait (h : AS w wr l b C) : Calls Try.prog 21 #[.pointer (some ⟨l, 0, none⟩), .int .i64 2] wr fun e w' => e = .returned (.int .i64 1) ∧ w' = wr := by
  obtain ⟨S, hL, h2, hb⟩ := h
  exact (waiting_ok hL (i := 2) (by omega)).mono fun e w' ⟨he, hw⟩ => ⟨by rw [he, h2]; rfl, hw⟩
theorem AS.now (h : AS w wr l b C) : Calls Try.prog 22 #[.pointer (some ⟨l, 0, none⟩), .int .i64 2] wr fun e w' => e = .returned (.int .u64 0) ∧ w' = wr := by
  obtain ⟨S, hL, h2, hb⟩ := h
  exact (now_ok hL (i := 2) (by omega)).mono fun e w' ⟨he, hw⟩ => ⟨by rw [he, h2], hw⟩
theorem AS.end1 (h : AS w wr l b C) : Calls Try.prog 13 #[.pointer (some ⟨l, 0, none⟩), .int .i64 2] wr fun e w' => e = .returned (.tuple #[.int .i64 7, .bool true]) ∧ ∃ S, LW w.heap.size w' l b 3 C S ∧ S 2 = ⟨[], 0, 50, true⟩ ∧ Below w.heap.size w w' := by
  obtain ⟨S, hL, h2, hb⟩ := h
  exact (take_some hL (i := 2) (by omega) 7 [] (by rw [h2])).mono fun e w' ⟨he, hL', ht⟩ => ⟨he, _, hL', by rw [upd_self, h2], hb.trans (hL.to ht)⟩
theorem AS.end2 (h : ∃ S, LW w.heap.size wr l b 3 C S ∧ S 2 = ⟨[], 0, 50, true⟩ ∧ Below w.heap.size w wr) : Calls Try.prog 17 #[.pointer (some ⟨l, 0, none⟩), .int .i64 2, .int .u64 50] wr fun e w' => e = .returned (.tuple #[.bool true, .int .i64 0]) ∧ Below w.heap.size w w' := by
  obtain ⟨S, hL, h2, hb⟩ := h
  exact (tick_ok hL (i := 2) (by omega) 50 (by omega)).mono fun e w' ⟨he, hL', ht⟩ => ⟨by rw [he, h2]; rfl, hb.trans (hL.to ht)⟩
end
set_option maxHeartbeats 1600000 in
theorem walk (a : Option Addr) (n cp : Nat) (w : World) (hK : ActsIn w a n) (hn : n < 9223372036854775808) :
    Calls Try.prog 6 #[.slice a n cp] w fun e w' => e = .returned (.bool true) ∧ Below w.heap.size w w' := by
  have C1 := new_ok 3 (by omega) (by omega)
  have HK : Hid (ActsIn w a n) := hK
  clear hK
  go_enter Try.func6, Try.ntmps6
  go_wp2_with fail
  refine (C1 _).mono ?_
  rintro e w1 ⟨l, b, C, rfl, hL, hb1⟩
  have CS := send_room hL (i := 2) (by omega) 7 (by simp [l0])
  have HB : Hid (Below w.heap.size w w1) := hb1
  have HL : Hid (LW w.heap.size w1 l b 3 C (fun _ => l0)) := hL
  clear C1 hL hb1
  go_wp2_with fail
  refine CS.mono ?_
  rintro e w2 ⟨rfl, hL2, ht2⟩
  have CT := set_ok hL2 (i := 2) (by omega) 50
  have HB2 : Hid (Below w.heap.size w w2) := HB.out.trans (HL.out.to ht2)
  have HL2 : Hid (LW w.heap.size w2 l b 3 C _) := hL2
  clear hL2 ht2 CS HB HL
  go_wp2_with fail
  refine CT.mono ?_
  rintro e w3 ⟨rfl, hL3, ht3⟩
  have E0 : Hid (AS w w3 l b C) := ⟨_, hL3, by rw [upd_self, upd_self]; rfl, HB2.out.trans (HL2.out.to ht3)⟩
  clear hL3 ht3 CT HB2 HL2
  go_wp2_with fail
  go_loopw [5] (fun q wr => ∃ j : Nat, j ≤ n ∧ q = .int .i64 j ∧ Hid (AS w wr l b C)) (fun q _ => n - (intOf q).toNat)
  case atStart => exact ⟨0, by omega, rfl, E0⟩
  case round =>
    obtain ⟨j, hj, rfl, HS⟩ := hrel
    clear E0
    by_cases hjn : j < n
    · have hjn' : (j : Int) < (n : Int) := by omega
      obtain ⟨kb, off, rfl, hkb, k, c, ev, x, hx, hd0, hd1, hd2, hd3⟩ := HK.out.at hjn
      have hbel : Below w.heap.size w wr := by obtain ⟨_, _, _, h⟩ := HS.out; exact h
      obtain ⟨hbc, _⟩ := bcell hbel
      have k0 := (hbc _ _ hkb).trans hd0
      have k1 := (hbc _ _ hkb).trans hd1
      have k2 := (hbc _ _ hkb).trans hd2
      have k3 := (hbc _ _ hkb).trans hd3
      have hkbr : kb < wr.heap.size := by have := hbel.size; omega
      obtain ⟨i, hi, hie⟩ := and_low c 1 1 (by decide) (by decide)
      clear hd0 hd1 hd2 hd3 hbel hbc
      by_cases h0 : k = 0
      · subst h0
        have HB : Hid (∀ o, Below wr.heap.size wr (wr.alloc o)) := fun o => (Below.refl _ _).alloc (Nat.le_refl _) o
        go_wp2_with fail
        refine Calls.mono ((AS.below HS.out (HB.out _)).send (i := i) (by omega) ev) ?_
        rintro e y ⟨r, rfl, hA⟩
        have HA : Hid (AS w y l b C) := hA
        clear hA HS k0 k1 k2 k3 HB
        have CA := HA.out.armed
        clear HA
        go_wp2_with fail
        refine CA.mono ?_
        rintro e y2 ⟨rfl, hA2⟩
        have HA2 : Hid (AS w y2 l b C) := hA2
        clear hA2 CA
        go_wp2_with fail
        refine HA2.out.wait.mono ?_
        rintro e y2 ⟨rfl, rfl⟩
        go_wp2_with fail
        refine HA2.out.now.mono ?_
        rintro e y2 ⟨rfl, rfl⟩
        go_wp2_with fail
        go_roundw
        case rel => exact ⟨j + 1, by omega, by go_num, HA2⟩
        case measure => simp [intOf]; omega
      by_cases h1 : k = 1
      · subst h1
        have HB : Hid (∀ o, Below wr.heap.size wr (wr.alloc o)) := fun o => (Below.refl _ _).alloc (Nat.le_refl _) o
        go_wp2_with fail
        refine Calls.mono ((AS.below HS.out (HB.out _)).take (i := i) (by omega)) ?_
        rintro e y ⟨r, ok, rfl, hA⟩
        have HA : Hid (AS w y l b C) := hA
        clear hA HS k0 k1 k2 k3 HB
        have CA := HA.out.armed
        clear HA
        go_wp2_with fail
        refine CA.mono ?_
        rintro e y2 ⟨rfl, hA2⟩
        have HA2 : Hid (AS w y2 l b C) := hA2
        clear hA2 CA
        go_wp2_with fail
        refine HA2.out.wait.mono ?_
        rintro e y2 ⟨rfl, rfl⟩
        go_wp2_with fail
        refine HA2.out.now.mono ?_
        rintro e y2 ⟨rfl, rfl⟩
        go_wp2_with fail
        go_roundw
        case rel => exact ⟨j + 1, by omega, by go_num, HA2⟩
        case measure => simp [intOf]; omega
      by_cases h2 : k = 2
      · subst h2
        have HB : Hid (∀ o, Below wr.heap.size wr (wr.alloc o)) := fun o => (Below.refl _ _).alloc (Nat.le_refl _) o
        go_wp2_with fail
        refine Calls.mono ((AS.below HS.out (HB.out _)).set (i := i) (by omega) x) ?_
        rintro e y ⟨rfl, hA⟩
        have HA : Hid (AS w y l b C) := hA
        clear hA HS k0 k1 k2 k3 HB
        have CA := HA.out.armed
        clear HA
        go_wp2_with fail
        refine CA.mono ?_
        rintro e y2 ⟨rfl, hA2⟩
        have HA2 : Hid (AS w y2 l b C) := hA2
        clear hA2 CA
        go_wp2_with fail
        refine HA2.out.wait.mono ?_
        rintro e y2 ⟨rfl, rfl⟩
        go_wp2_with fail
        refine HA2.out.now.mono ?_
        rintro e y2 ⟨rfl, rfl⟩
        go_wp2_with fail
        go_roundw
        case rel => exact ⟨j + 1, by omega, by go_num, HA2⟩
        case measure => simp [intOf]; omega
      by_cases h3 : k = 3
      · subst h3
        have HB : Hid (∀ o, Below wr.heap.size wr (wr.alloc o)) := fun o => (Below.refl _ _).alloc (Nat.le_refl _) o
        go_wp2_with fail
        refine Calls.mono ((AS.below HS.out (HB.out _)).tick (i := i) (by omega) x hx) ?_
        rintro e y ⟨d, rfl, hA⟩
        have HA : Hid (AS w y l b C) := hA
        clear hA HS k0 k1 k2 k3 HB
        have CA := HA.out.armed
        clear HA
        go_wp2_with fail
        refine CA.mono ?_
        rintro e y2 ⟨rfl, hA2⟩
        have HA2 : Hid (AS w y2 l b C) := hA2
        clear hA2 CA
        go_wp2_with fail
        refine HA2.out.wait.mono ?_
        rintro e y2 ⟨rfl, rfl⟩
        go_wp2_with fail
        refine HA2.out.now.mono ?_
        rintro e y2 ⟨rfl, rfl⟩
        go_wp2_with fail
        go_roundw
        case rel => exact ⟨j + 1, by omega, by go_num, HA2⟩
        case measure => simp [intOf]; omega
      have HA : Hid (∀ o, AS w (wr.alloc o) l b C) := fun o => AS.below HS.out ((Below.refl _ _).alloc (Nat.le_refl _) o)
      clear HS
      go_wp2_with fail
      refine Calls.mono (AS.armed (HA.out _)) ?_
      rintro e y2 ⟨rfl, hA2⟩
      have HA2 : Hid (AS w y2 l b C) := hA2
      clear hA2 HA k0 k1 k2 k3
      go_wp2_with fail
      refine HA2.out.wait.mono ?_
      rintro e y2 ⟨rfl, rfl⟩
      go_wp2_with fail
      refine HA2.out.now.mono ?_
      rintro e y2 ⟨rfl, rfl⟩
      go_wp2_with fail
      go_roundw
      case rel => exact ⟨j + 1, by omega, by go_num, HA2⟩
      case measure => simp [intOf]; omega
    · obtain rfl : n = j := by omega
      have CE := HS.out.end1
      clear HS
      go_wp2_with fail
      refine CE.mono ?_
      rintro e w4 ⟨rfl, h4⟩
      have CE2 := AS.end2 h4
      clear h4 CE
      go_wp2_with fail
      refine CE2.mono ?_
      rintro e w5 ⟨rfl, h5⟩
      go_wp2_with fail
      go_ret
      exact ⟨rfl, h5⟩
end Go.Proofs.Ytdmegoglcnggoaa.linesApart
