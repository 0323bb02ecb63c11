/-
  The walk of TicketOne.
-/
import Derived.Test.YtioanbdmkiphfaaDoorOn
import Derived.Test.YtioanbdmkiphfaaDoorTurnsWalk
namespace Go.Proofs.YtioanbdmkiphfaaDoor
open Go.RowKit
set_option linter.unusedVariables false
set_option maxRecDepth 20000
namespace ticketOne
/-- between the rounds -/
def R1 (w0 w : World) (k b g n j : Nat) (B : Int) : Prop := ∃ S T A, TW w0 w k b g 16 n S T A B ∧ P1 n S T A B j
theorem r1_b {w0 w : World} {k b g n j : Nat} {B : Int} (h : R1 w0 w k b g n j B) : 0 ≤ B ∧ B ≤ j := by
  obtain ⟨S, T, A, _, h⟩ := h
  have := h.b0
  have := h.ab
  have := h.ai
  omega
theorem idle_step {w0 w : World} {k b g n d i : Nat} {S T : Nat → Int} {A B : Int} (hp : P1 n S T A B i) (hi : i < 9223372036854775807) (hs : S d = 0) (h : TW w0 w k b g 16 n (upd S d 1) T A B) (hd : d < n) : Calls Tryd.prog 16 #[.pointer (some ⟨k, 0, none⟩), .int .i64 d] w fun e w' =>
    e = .returned (.tuple #[.int .i64 2, .int .i64 0]) ∧ TW w0 w' k b g 16 n (upd S d 2) (upd T d A) (A + 1) B := by
  have C := h.step d hd
  rw [upd_self, show nS B 1 (T d) = 2 from rfl, show nT A 1 (T d) = A from rfl, show nA A 1 = inc A from rfl, show nB B 1 = B from rfl, upd_upd, inc_small (by have := hp.b0; have := hp.ab; omega) (by have := hp.ai; omega)] at C
  exact C
theorem spin_step {w0 w : World} {k b g n d i : Nat} {S T : Nat → Int} {A B : Int} (hs : S d = 2) (h : TW w0 w k b g 16 n S T A B) (hd : d < n) : Calls Tryd.prog 16 #[.pointer (some ⟨k, 0, none⟩), .int .i64 d] w fun e w' =>
    e = .returned (.tuple #[.int .i64 (if T d = B then 3 else 2), .int .i64 0]) ∧ TW w0 w' k b g 16 n (if T d = B then upd S d 3 else S) T A B := by
  have C := h.step d hd
  rw [hs, show nT A 2 (T d) = T d from rfl, show nA A 2 = A from rfl, show nB B 2 = B from rfl, upd_same] at C
  by_cases hB : T d = B
  · rw [show nS B 2 (T d) = 3 by simp [nS, hB]] at C
    rw [if_pos hB, if_pos hB]; exact C
  · rw [show nS B 2 (T d) = 2 by simp [nS, Ne.symm hB], show upd S d 2 = S by rw [← hs, upd_same]] at C
    rw [if_neg hB, if_neg hB]; exact C
theorem stay_step {w0 w : World} {k b g n d i : Nat} {S T : Nat → Int} {A B : Int} (hs : S d = 3) (h : TW w0 w k b g 16 n S T A B) (hd : d < n) : Calls Tryd.prog 16 #[.pointer (some ⟨k, 0, none⟩), .int .i64 d] w fun e w' =>
    e = .returned (.tuple #[.int .i64 3, .int .i64 0]) ∧ TW w0 w' k b g 16 n S T A B := by
  have C := h.step d hd
  rw [hs, show nS B 3 (T d) = 3 from rfl, show nT A 3 (T d) = T d from rfl, show nA A 3 = A from rfl, show nB B 3 = B from rfl, upd_same, show upd S d 3 = S by rw [← hs, upd_same]] at C
  exact C
theorem free_step {w0 w : World} {k b g n d i : Nat} {S T : Nat → Int} {A B : Int} (hp : P1 n S T A B i) (hi : i < 9223372036854775807) (h : TW w0 w k b g 16 n (upd S d 4) T A B) (hd : d < n) : Calls Tryd.prog 16 #[.pointer (some ⟨k, 0, none⟩), .int .i64 d] w fun e w' =>
    e = .returned (.tuple #[.int .i64 0, .int .i64 0]) ∧ TW w0 w' k b g 16 n (upd S d 0) T A (B + 1) := by
  have C := h.step d hd
  rw [upd_self, show nS B 4 (T d) = 0 from rfl, show nT A 4 (T d) = T d from rfl, show nA A 4 = A from rfl, show nB B 4 = inc B from rfl, upd_upd, upd_same, inc_small hp.b0 (by have := hp.ab; have := hp.ai; omega)] at C
  exact C
set_option maxHeartbeats 8000000 in
theorem walk (a : Int) (ad : Option Addr) (len cap : Nat) (zs : List Int) (w : World) (hT : TB w) (hz : NumsIn .i64 w ad len zs) (hl : len < 9223372036854775808) : Calls Tryd.prog 5 #[.int .i64 a, .slice ad len cap] w fun e w' => e = .returned (.bool true) ∧ Below w.heap.size w w' := by
  obtain ⟨q, hq, eq⟩ := and_low a 7 7 rfl (by decide)
  have HN : Hid (_) := new_yes 1 w (by decide) (by decide)
  have HT : Hid (TB w) := hT
  have HZ : Hid (NumsIn .i64 w ad len zs) := hz
  have hp := hT.pos
  clear hT hz
  go_enter Tryd.func5, Tryd.ntmps5
  go_wp2_with fail
  refine Calls.mono HN.out ?_
  rintro e w1 ⟨b, g, rfl, hM, lb, lg, hb1⟩
  have HM : Hid (MM w1 b g (List.replicate (1 * 256) 0)) := hM
  have HB1 : Hid (Below w.heap.size w w1) := hb1
  clear HN hM hb1
  go_wp2_with fail
  obtain ⟨n, en⟩ : ∃ n : Nat, 1 + (q : Int) = n := ⟨1 + q, by omega⟩
  have hn1 : 1 ≤ n := by omega
  have hn8 : n ≤ 8 := by omega
  rw [en]
  clear en eq hq
  have hg1 : 1 < g := by omega
  have hTB1 := HT.out.below HB1.out
  refine (new_ok b g _ 16 n w1 HM.out hTB1 hg1 (by simp) ⟨hn1, hn8⟩ (by decide) (by decide) (by simp)).mono ?_
  rintro e w2 ⟨k, rfl, hX2, hk2, hr2⟩
  have H1 : Hid (R1 w w2 k b g n 0 0) := ⟨_, _, _, made_tw w w1 w2 b g k n 16 (by decide) (by decide) HB1.out lg hX2 hk2 hr2, P1.begun n⟩
  clear hX2 hr2 hTB1 HM HB1 HT hk2
  go_wp2_with fail
  go_loopw [8, 9] (fun p q wr => ∃ (B : Int) (j : Nat), j ≤ len ∧ p = .int .u64 B ∧ q = .int .i64 j ∧ Hid (R1 w wr k b g n j B)) (fun p q _ => len - (intOf q).toNat)
  case atStart => exact ⟨0, 0, by omega, rfl, rfl, H1⟩
  case round =>
    obtain ⟨B, j, hj, rfl, rfl, HR⟩ := hrel
    clear H1
    obtain ⟨hB0, hB1⟩ := r1_b HR.out
    by_cases hjl : j < len
    · have hjl' : (j : Int) < (len : Int) := by omega
      obtain ⟨kb, off, rfl, hkb, hcell⟩ := HZ.out.at hjl
      obtain ⟨r, d, er, hr1, hr2, ed, hd⟩ := core_of (zs.getD j 0) n hn1 hn8
      obtain ⟨S, T, A, h, hP⟩ := HR.out
      have HP : Hid (P1 n S T A B j) := hP
      have hc := ((bcell h.bel).1 kb (off + j) hkb).trans hcell
      have hkw : kb < wr.heap.size := Nat.lt_of_lt_of_le hkb h.bel.size
      have C1 := h.state d hd
      have hst := hP.st d hd
      have HT0 : Hid (∀ w', Below w.heap.size w w' → w'.cell? ⟨kb, off + j, none⟩ = some (.int .i64 (zs.getD j 0)) ∧ kb < w'.heap.size) := fun w' hw' => ⟨((bcell hw').1 kb (off + j) hkb).trans hcell, Nat.lt_of_lt_of_le hkb hw'.size⟩
      generalize zs.getD j 0 = x at *
      clear HR h hP hcell
      obtain ⟨x0, rfl⟩ : ∃ x0, x0 = wr := ⟨_, rfl⟩
      rcases hst with hS | hS | hS
      · rw [hS] at C1
        go_wp2_with fail
        refine C1.mono ?_
        rintro e y1 ⟨rfl, h1⟩
        have C2 := h1.take d hd
        rw [if_pos hS, if_pos hS] at C2
        clear h1
        go_wp2_with fail
        refine C2.mono ?_
        rintro e y2 ⟨rfl, h2⟩
        have C3 := h2.give d hd
        rw [upd_self, if_neg (by decide), if_neg (by decide)] at C3
        clear C2 h2
        go_wp2_with fail
        refine C3.mono ?_
        rintro e y3 ⟨rfl, h3⟩
        have C4 := idle_step HP.out (by omega) hS h3 hd
        clear C3 h3
        go_wp2_with fail
        refine C4.mono ?_
        rintro e y4 ⟨rfl, h4⟩
        have HP1 : Hid (P1 n (upd S d 2) (upd T d A) (A + 1) B (j + 1)) := HP.out.draw d hd hS
        have HW : Hid (TW w y4 k b g 16 n (upd S d 2) (upd T d A) (A + 1) B) := h4
        clear C4 h4 HP HT0 hS
        generalize upd S d 2 = S1 at *
        generalize upd T d A = T1 at *
        generalize A + 1 = A1 at *
        obtain ⟨B1, rfl⟩ : ∃ B1, B1 = B := ⟨_, rfl⟩
        clear C1 hc
        obtain ⟨fb, efb⟩ : ∃ fb, frB S1 d n = fb := ⟨_, rfl⟩
        go_wp2_with fail
        go_loopw [15, 16] (fun p q wr => ∃ m : Nat, m ≤ n ∧ p = .bool (frB S1 d m) ∧ q = .int .i64 m ∧ Hid (TW w wr k b g 16 n S1 T1 A1 B1)) (fun p q _ => n - (intOf q).toNat)
        case atStart => exact ⟨0, by omega, rfl, rfl, HW⟩
        case round =>
          obtain ⟨m, hm, rfl, rfl, HQ⟩ := hrel
          clear HW
          by_cases hmn : m < n
          · have hmn' : (m : Int) < (n : Int) := by omega
            have C5 := HQ.out.state m hmn
            have HE : Hid (frB S1 d (m + 1) = if m ≠ d ∧ (S1 m = 3 ∨ S1 m = 4) then false else frB S1 d m) := frB_next S1 d m
            generalize frB S1 d m = fm at *
            generalize S1 m = sm at *
            clear HQ
            by_cases hmd : m = d
            · have e1 : ((m : Int) != (d : Int)) = false := by simp [hmd]
              have HE2 : Hid (frB S1 d (m + 1) = fm) := by have := HE.out; rw [if_neg (fun e => e.1 hmd)] at this; exact this
              clear HE hmd
              go_wp2_with fail
              refine C5.mono ?_
              rintro e z1 ⟨rfl, hz1⟩
              have HG : Hid (TW w z1 k b g 16 n S1 T1 A1 B1) := hz1
              clear C5 hz1
              go_wp2_with fail
              go_roundw
              case rel => exact ⟨m + 1, by omega, by rw [HE2.out], by go_num, HG⟩
              case measure => simp [intOf]; omega
            · have e1 : ((m : Int) != (d : Int)) = true := by simp; omega
              by_cases h34 : sm = 3 ∨ sm = 4
              · have HE2 : Hid (frB S1 d (m + 1) = false) := by have := HE.out; rw [if_pos ⟨hmd, h34⟩] at this; exact this
                clear HE hmd
                rcases h34 with rfl | rfl
                · go_wp2_with fail
                  refine C5.mono ?_
                  rintro e z1 ⟨rfl, hz1⟩
                  have HG : Hid (TW w z1 k b g 16 n S1 T1 A1 B1) := hz1
                  clear C5 hz1
                  go_wp2_with fail
                  go_roundw
                  case rel => exact ⟨m + 1, by omega, by rw [HE2.out], by go_num, HG⟩
                  case measure => simp [intOf]; omega
                · go_wp2_with fail
                  refine C5.mono ?_
                  rintro e z1 ⟨rfl, hz1⟩
                  have HG : Hid (TW w z1 k b g 16 n S1 T1 A1 B1) := hz1
                  clear C5 hz1
                  go_wp2_with fail
                  go_roundw
                  case rel => exact ⟨m + 1, by omega, by rw [HE2.out], by go_num, HG⟩
                  case measure => simp [intOf]; omega
              · have HE2 : Hid (frB S1 d (m + 1) = fm) := by have := HE.out; rw [if_neg (fun e => h34 e.2)] at this; exact this
                have e3 : (sm == 3) = false := by simp; omega
                have e4 : (sm == 4) = false := by simp; omega
                clear HE hmd h34
                go_wp2_with fail
                refine C5.mono ?_
                rintro e z1 ⟨rfl, hz1⟩
                have HG : Hid (TW w z1 k b g 16 n S1 T1 A1 B1) := hz1
                clear C5 hz1
                go_wp2_with fail
                go_roundw
                case rel => exact ⟨m + 1, by omega, by rw [HE2.out], by go_num, HG⟩
                case measure => simp [intOf]; omega
          · have hmn' : (n : Int) ≤ (m : Int) := by omega
            obtain rfl : n = m := by omega
            have HF : Hid (R1 w wr k b g n (j + 1) B1) := ⟨_, _, _, HQ.out, HP1.out⟩
            clear HQ HP1 hm hmn
            rw [efb]
            clear efb
            go_wp2_with fail
            go_roundw
            case rel => exact ⟨B1, j + 1, by omega, rfl, by go_num, HF⟩
            case measure => simp [intOf]; omega
      · rw [hS] at C1
        by_cases hTB : T d = B
        · rw [hTB] at C1
          go_wp2_with fail
          refine C1.mono ?_
          rintro e y1 ⟨rfl, h1⟩
          have C4 := spin_step (i := j) hS h1 hd
          rw [if_pos hTB, if_pos hTB] at C4
          clear h1
          go_wp2_with fail
          refine C4.mono ?_
          rintro e y4 ⟨rfl, h4⟩
          have HP1 : Hid (P1 n (upd S d 3) T A B (j + 1)) := HP.out.hold d hd hS hTB
          have HW : Hid (TW w y4 k b g 16 n (upd S d 3) T A B) := h4
          have hal : frB (upd S d 3) d n = true := HP1.out.alone d hd (upd_self _ _ _) n (Nat.le_refl _)
          clear C4 h4 HP HT0 hS hTB
          generalize upd S d 3 = S1 at *
          obtain ⟨T1, rfl⟩ : ∃ T1, T1 = T := ⟨_, rfl⟩
          obtain ⟨A1, rfl⟩ : ∃ A1, A1 = A := ⟨_, rfl⟩
          obtain ⟨B1, rfl⟩ : ∃ B1, B1 = B := ⟨_, rfl⟩
          clear C1 hc
          go_wp2_with fail
          go_loopw [15, 16] (fun p q wr => ∃ m : Nat, m ≤ n ∧ p = .bool (frB S1 d m) ∧ q = .int .i64 m ∧ Hid (TW w wr k b g 16 n S1 T1 A1 B1)) (fun p q _ => n - (intOf q).toNat)
          case atStart => exact ⟨0, by omega, rfl, rfl, HW⟩
          case round =>
            obtain ⟨m, hm, rfl, rfl, HQ⟩ := hrel
            clear HW
            by_cases hmn : m < n
            · have hmn' : (m : Int) < (n : Int) := by omega
              have C5 := HQ.out.state m hmn
              have HE : Hid (frB S1 d (m + 1) = if m ≠ d ∧ (S1 m = 3 ∨ S1 m = 4) then false else frB S1 d m) := frB_next S1 d m
              generalize frB S1 d m = fm at *
              generalize S1 m = sm at *
              clear HQ
              by_cases hmd : m = d
              · have e1 : ((m : Int) != (d : Int)) = false := by simp [hmd]
                have HE2 : Hid (frB S1 d (m + 1) = fm) := by have := HE.out; rw [if_neg (fun e => e.1 hmd)] at this; exact this
                clear HE hmd
                go_wp2_with fail
                refine C5.mono ?_
                rintro e z1 ⟨rfl, hz1⟩
                have HG : Hid (TW w z1 k b g 16 n S1 T1 A1 B1) := hz1
                clear C5 hz1
                go_wp2_with fail
                go_roundw
                case rel => exact ⟨m + 1, by omega, by rw [HE2.out], by go_num, HG⟩
                case measure => simp [intOf]; omega
              · have e1 : ((m : Int) != (d : Int)) = true := by simp; omega
                by_cases h34 : sm = 3 ∨ sm = 4
                · have HE2 : Hid (frB S1 d (m + 1) = false) := by have := HE.out; rw [if_pos ⟨hmd, h34⟩] at this; exact this
                  clear HE hmd
                  rcases h34 with rfl | rfl
                  · go_wp2_with fail
                    refine C5.mono ?_
                    rintro e z1 ⟨rfl, hz1⟩
                    have HG : Hid (TW w z1 k b g 16 n S1 T1 A1 B1) := hz1
                    clear C5 hz1
                    go_wp2_with fail
                    go_roundw
                    case rel => exact ⟨m + 1, by omega, by rw [HE2.out], by go_num, HG⟩
                    case measure => simp [intOf]; omega
                  · go_wp2_with fail
                    refine C5.mono ?_
                    rintro e z1 ⟨rfl, hz1⟩
                    have HG : Hid (TW w z1 k b g 16 n S1 T1 A1 B1) := hz1
                    clear C5 hz1
                    go_wp2_with fail
                    go_roundw
                    case rel => exact ⟨m + 1, by omega, by rw [HE2.out], by go_num, HG⟩
                    case measure => simp [intOf]; omega
                · have HE2 : Hid (frB S1 d (m + 1) = fm) := by have := HE.out; rw [if_neg (fun e => h34 e.2)] at this; exact this
                  have e3 : (sm == 3) = false := by simp; omega
                  have e4 : (sm == 4) = false := by simp; omega
                  clear HE hmd h34
                  go_wp2_with fail
                  refine C5.mono ?_
                  rintro e z1 ⟨rfl, hz1⟩
                  have HG : Hid (TW w z1 k b g 16 n S1 T1 A1 B1) := hz1
                  clear C5 hz1
                  go_wp2_with fail
                  go_roundw
                  case rel => exact ⟨m + 1, by omega, by rw [HE2.out], by go_num, HG⟩
                  case measure => simp [intOf]; omega
            · have hmn' : (n : Int) ≤ (m : Int) := by omega
              obtain rfl : n = m := by omega
              have HF : Hid (R1 w wr k b g n (j + 1) B1) := ⟨_, _, _, HQ.out, HP1.out⟩
              clear HQ HP1 hm hmn
              rw [hal]
              clear hal
              go_wp2_with fail
              go_roundw
              case rel => exact ⟨B1, j + 1, by omega, rfl, by go_num, HF⟩
              case measure => simp [intOf]; omega
        · have hne : (T d == B) = false := by simpa using hTB
          obtain ⟨td, etd⟩ : ∃ td, T d = td := ⟨_, rfl⟩
          rw [etd] at C1 hne
          go_wp2_with fail
          refine C1.mono ?_
          rintro e y1 ⟨rfl, h1⟩
          have C4 := spin_step (i := j) hS h1 hd
          rw [if_neg hTB, if_neg hTB] at C4
          clear h1
          go_wp2_with fail
          refine C4.mono ?_
          rintro e y4 ⟨rfl, h4⟩
          have HP1 : Hid (P1 n S T A B (j + 1)) := HP.out.more
          have HW : Hid (TW w y4 k b g 16 n S T A B) := h4
          clear C4 h4 HP HT0 hS hTB etd
          obtain ⟨S1, rfl⟩ : ∃ S1, S1 = S := ⟨_, rfl⟩
          obtain ⟨T1, rfl⟩ : ∃ T1, T1 = T := ⟨_, rfl⟩
          obtain ⟨A1, rfl⟩ : ∃ A1, A1 = A := ⟨_, rfl⟩
          obtain ⟨B1, rfl⟩ : ∃ B1, B1 = B := ⟨_, rfl⟩
          clear C1 hc
          obtain ⟨fb, efb⟩ : ∃ fb, frB S1 d n = fb := ⟨_, rfl⟩
          go_wp2_with fail
          go_loopw [15, 16] (fun p q wr => ∃ m : Nat, m ≤ n ∧ p = .bool (frB S1 d m) ∧ q = .int .i64 m ∧ Hid (TW w wr k b g 16 n S1 T1 A1 B1)) (fun p q _ => n - (intOf q).toNat)
          case atStart => exact ⟨0, by omega, rfl, rfl, HW⟩
          case round =>
            obtain ⟨m, hm, rfl, rfl, HQ⟩ := hrel
            clear HW
            by_cases hmn : m < n
            · have hmn' : (m : Int) < (n : Int) := by omega
              have C5 := HQ.out.state m hmn
              have HE : Hid (frB S1 d (m + 1) = if m ≠ d ∧ (S1 m = 3 ∨ S1 m = 4) then false else frB S1 d m) := frB_next S1 d m
              generalize frB S1 d m = fm at *
              generalize S1 m = sm at *
              clear HQ
              by_cases hmd : m = d
              · have e1 : ((m : Int) != (d : Int)) = false := by simp [hmd]
                have HE2 : Hid (frB S1 d (m + 1) = fm) := by have := HE.out; rw [if_neg (fun e => e.1 hmd)] at this; exact this
                clear HE hmd
                go_wp2_with fail
                refine C5.mono ?_
                rintro e z1 ⟨rfl, hz1⟩
                have HG : Hid (TW w z1 k b g 16 n S1 T1 A1 B1) := hz1
                clear C5 hz1
                go_wp2_with fail
                go_roundw
                case rel => exact ⟨m + 1, by omega, by rw [HE2.out], by go_num, HG⟩
                case measure => simp [intOf]; omega
              · have e1 : ((m : Int) != (d : Int)) = true := by simp; omega
                by_cases h34 : sm = 3 ∨ sm = 4
                · have HE2 : Hid (frB S1 d (m + 1) = false) := by have := HE.out; rw [if_pos ⟨hmd, h34⟩] at this; exact this
                  clear HE hmd
                  rcases h34 with rfl | rfl
                  · go_wp2_with fail
                    refine C5.mono ?_
                    rintro e z1 ⟨rfl, hz1⟩
                    have HG : Hid (TW w z1 k b g 16 n S1 T1 A1 B1) := hz1
                    clear C5 hz1
                    go_wp2_with fail
                    go_roundw
                    case rel => exact ⟨m + 1, by omega, by rw [HE2.out], by go_num, HG⟩
                    case measure => simp [intOf]; omega
                  · go_wp2_with fail
                    refine C5.mono ?_
                    rintro e z1 ⟨rfl, hz1⟩
                    have HG : Hid (TW w z1 k b g 16 n S1 T1 A1 B1) := hz1
                    clear C5 hz1
                    go_wp2_with fail
                    go_roundw
                    case rel => exact ⟨m + 1, by omega, by rw [HE2.out], by go_num, HG⟩
                    case measure => simp [intOf]; omega
                · have HE2 : Hid (frB S1 d (m + 1) = fm) := by have := HE.out; rw [if_neg (fun e => h34 e.2)] at this; exact this
                  have e3 : (sm == 3) = false := by simp; omega
                  have e4 : (sm == 4) = false := by simp; omega
                  clear HE hmd h34
                  go_wp2_with fail
                  refine C5.mono ?_
                  rintro e z1 ⟨rfl, hz1⟩
                  have HG : Hid (TW w z1 k b g 16 n S1 T1 A1 B1) := hz1
                  clear C5 hz1
                  go_wp2_with fail
                  go_roundw
                  case rel => exact ⟨m + 1, by omega, by rw [HE2.out], by go_num, HG⟩
                  case measure => simp [intOf]; omega
            · have hmn' : (n : Int) ≤ (m : Int) := by omega
              obtain rfl : n = m := by omega
              have HF : Hid (R1 w wr k b g n (j + 1) B1) := ⟨_, _, _, HQ.out, HP1.out⟩
              clear HQ HP1 hm hmn
              rw [efb]
              clear efb
              cases fb
              · go_wp2_with fail
                go_roundw
                case rel => exact ⟨B1, j + 1, by omega, rfl, by go_num, HF⟩
                case measure => simp [intOf]; omega
              · go_wp2_with fail
                go_roundw
                case rel => exact ⟨B1, j + 1, by omega, rfl, by go_num, HF⟩
                case measure => simp [intOf]; omega
      · rw [hS] at C1
        cases hbit : (bits .and .i64 x 64 != 0)
        · go_wp2_with fail
          refine C1.mono ?_
          rintro e y1 ⟨rfl, h1⟩
          obtain ⟨hcy, hky⟩ := HT0.out y1 h1.bel
          have C2 := h1.take d hd
          rw [if_neg (by rw [hS]; decide), if_neg (by rw [hS]; decide)] at C2
          clear h1
          go_wp2_with fail
          refine C2.mono ?_
          rintro e y2 ⟨rfl, h2⟩
          have C4 := stay_step (i := j) hS h2 hd
          clear C2 h2 hcy hky
          go_wp2_with fail
          refine C4.mono ?_
          rintro e y4 ⟨rfl, h4⟩
          have HP1 : Hid (P1 n S T A B (j + 1)) := HP.out.more
          have HW : Hid (TW w y4 k b g 16 n S T A B) := h4
          have hal : frB S d n = true := HP1.out.alone d hd hS n (Nat.le_refl _)
          clear C4 h4 HP HT0 hS
          obtain ⟨S1, rfl⟩ : ∃ S1, S1 = S := ⟨_, rfl⟩
          obtain ⟨T1, rfl⟩ : ∃ T1, T1 = T := ⟨_, rfl⟩
          obtain ⟨A1, rfl⟩ : ∃ A1, A1 = A := ⟨_, rfl⟩
          obtain ⟨B1, rfl⟩ : ∃ B1, B1 = B := ⟨_, rfl⟩
          clear C1 hc
          go_wp2_with fail
          go_loopw [15, 16] (fun p q wr => ∃ m : Nat, m ≤ n ∧ p = .bool (frB S1 d m) ∧ q = .int .i64 m ∧ Hid (TW w wr k b g 16 n S1 T1 A1 B1)) (fun p q _ => n - (intOf q).toNat)
          case atStart => exact ⟨0, by omega, rfl, rfl, HW⟩
          case round =>
            obtain ⟨m, hm, rfl, rfl, HQ⟩ := hrel
            clear HW
            by_cases hmn : m < n
            · have hmn' : (m : Int) < (n : Int) := by omega
              have C5 := HQ.out.state m hmn
              have HE : Hid (frB S1 d (m + 1) = if m ≠ d ∧ (S1 m = 3 ∨ S1 m = 4) then false else frB S1 d m) := frB_next S1 d m
              generalize frB S1 d m = fm at *
              generalize S1 m = sm at *
              clear HQ
              by_cases hmd : m = d
              · have e1 : ((m : Int) != (d : Int)) = false := by simp [hmd]
                have HE2 : Hid (frB S1 d (m + 1) = fm) := by have := HE.out; rw [if_neg (fun e => e.1 hmd)] at this; exact this
                clear HE hmd
                go_wp2_with fail
                refine C5.mono ?_
                rintro e z1 ⟨rfl, hz1⟩
                have HG : Hid (TW w z1 k b g 16 n S1 T1 A1 B1) := hz1
                clear C5 hz1
                go_wp2_with fail
                go_roundw
                case rel => exact ⟨m + 1, by omega, by rw [HE2.out], by go_num, HG⟩
                case measure => simp [intOf]; omega
              · have e1 : ((m : Int) != (d : Int)) = true := by simp; omega
                by_cases h34 : sm = 3 ∨ sm = 4
                · have HE2 : Hid (frB S1 d (m + 1) = false) := by have := HE.out; rw [if_pos ⟨hmd, h34⟩] at this; exact this
                  clear HE hmd
                  rcases h34 with rfl | rfl
                  · go_wp2_with fail
                    refine C5.mono ?_
                    rintro e z1 ⟨rfl, hz1⟩
                    have HG : Hid (TW w z1 k b g 16 n S1 T1 A1 B1) := hz1
                    clear C5 hz1
                    go_wp2_with fail
                    go_roundw
                    case rel => exact ⟨m + 1, by omega, by rw [HE2.out], by go_num, HG⟩
                    case measure => simp [intOf]; omega
                  · go_wp2_with fail
                    refine C5.mono ?_
                    rintro e z1 ⟨rfl, hz1⟩
                    have HG : Hid (TW w z1 k b g 16 n S1 T1 A1 B1) := hz1
                    clear C5 hz1
                    go_wp2_with fail
                    go_roundw
                    case rel => exact ⟨m + 1, by omega, by rw [HE2.out], by go_num, HG⟩
                    case measure => simp [intOf]; omega
                · have HE2 : Hid (frB S1 d (m + 1) = fm) := by have := HE.out; rw [if_neg (fun e => h34 e.2)] at this; exact this
                  have e3 : (sm == 3) = false := by simp; omega
                  have e4 : (sm == 4) = false := by simp; omega
                  clear HE hmd h34
                  go_wp2_with fail
                  refine C5.mono ?_
                  rintro e z1 ⟨rfl, hz1⟩
                  have HG : Hid (TW w z1 k b g 16 n S1 T1 A1 B1) := hz1
                  clear C5 hz1
                  go_wp2_with fail
                  go_roundw
                  case rel => exact ⟨m + 1, by omega, by rw [HE2.out], by go_num, HG⟩
                  case measure => simp [intOf]; omega
            · have hmn' : (n : Int) ≤ (m : Int) := by omega
              obtain rfl : n = m := by omega
              have HF : Hid (R1 w wr k b g n (j + 1) B1) := ⟨_, _, _, HQ.out, HP1.out⟩
              clear HQ HP1 hm hmn
              rw [hal]
              clear hal
              go_wp2_with fail
              go_roundw
              case rel => exact ⟨B1, j + 1, by omega, rfl, by go_num, HF⟩
              case measure => simp [intOf]; omega
        · go_wp2_with fail
          refine C1.mono ?_
          rintro e y1 ⟨rfl, h1⟩
          obtain ⟨hcy, hky⟩ := HT0.out y1 h1.bel
          have C2 := h1.give d hd
          rw [if_pos hS, if_pos hS] at C2
          clear h1
          go_wp2_with fail
          refine C2.mono ?_
          rintro e y2 ⟨rfl, h2⟩
          have C3 := h2.take d hd
          rw [upd_self, if_neg (by decide), if_neg (by decide)] at C3
          clear C2 h2 hcy hky
          go_wp2_with fail
          refine C3.mono ?_
          rintro e y3 ⟨rfl, h3⟩
          have C4 := free_step HP.out (by omega) h3 hd
          clear C3 h3
          go_wp2_with fail
          refine C4.mono ?_
          rintro e y4 ⟨rfl, h4⟩
          have HP1 : Hid (P1 n (upd S d 0) T A (B + 1) (j + 1)) := HP.out.free d hd hS
          have HW : Hid (TW w y4 k b g 16 n (upd S d 0) T A (B + 1)) := h4
          clear C4 h4 HP HT0 hS
          generalize upd S d 0 = S1 at *
          obtain ⟨T1, rfl⟩ : ∃ T1, T1 = T := ⟨_, rfl⟩
          obtain ⟨A1, rfl⟩ : ∃ A1, A1 = A := ⟨_, rfl⟩
          obtain ⟨B1, HB1⟩ : ∃ B1, Hid (B + 1 = B1) := ⟨_, rfl⟩
          rw [HB1.out] at HP1 HW
          clear C1 hc
          obtain ⟨fb, efb⟩ : ∃ fb, frB S1 d n = fb := ⟨_, rfl⟩
          go_wp2_with fail
          go_loopw [15, 16] (fun p q wr => ∃ m : Nat, m ≤ n ∧ p = .bool (frB S1 d m) ∧ q = .int .i64 m ∧ Hid (TW w wr k b g 16 n S1 T1 A1 B1)) (fun p q _ => n - (intOf q).toNat)
          case atStart => exact ⟨0, by omega, rfl, rfl, HW⟩
          case round =>
            obtain ⟨m, hm, rfl, rfl, HQ⟩ := hrel
            clear HW
            by_cases hmn : m < n
            · have hmn' : (m : Int) < (n : Int) := by omega
              have C5 := HQ.out.state m hmn
              have HE : Hid (frB S1 d (m + 1) = if m ≠ d ∧ (S1 m = 3 ∨ S1 m = 4) then false else frB S1 d m) := frB_next S1 d m
              generalize frB S1 d m = fm at *
              generalize S1 m = sm at *
              clear HQ
              by_cases hmd : m = d
              · have e1 : ((m : Int) != (d : Int)) = false := by simp [hmd]
                have HE2 : Hid (frB S1 d (m + 1) = fm) := by have := HE.out; rw [if_neg (fun e => e.1 hmd)] at this; exact this
                clear HE hmd
                go_wp2_with fail
                refine C5.mono ?_
                rintro e z1 ⟨rfl, hz1⟩
                have HG : Hid (TW w z1 k b g 16 n S1 T1 A1 B1) := hz1
                clear C5 hz1
                go_wp2_with fail
                go_roundw
                case rel => exact ⟨m + 1, by omega, by rw [HE2.out], by go_num, HG⟩
                case measure => simp [intOf]; omega
              · have e1 : ((m : Int) != (d : Int)) = true := by simp; omega
                by_cases h34 : sm = 3 ∨ sm = 4
                · have HE2 : Hid (frB S1 d (m + 1) = false) := by have := HE.out; rw [if_pos ⟨hmd, h34⟩] at this; exact this
                  clear HE hmd
                  rcases h34 with rfl | rfl
                  · go_wp2_with fail
                    refine C5.mono ?_
                    rintro e z1 ⟨rfl, hz1⟩
                    have HG : Hid (TW w z1 k b g 16 n S1 T1 A1 B1) := hz1
                    clear C5 hz1
                    go_wp2_with fail
                    go_roundw
                    case rel => exact ⟨m + 1, by omega, by rw [HE2.out], by go_num, HG⟩
                    case measure => simp [intOf]; omega
                  · go_wp2_with fail
                    refine C5.mono ?_
                    rintro e z1 ⟨rfl, hz1⟩
                    have HG : Hid (TW w z1 k b g 16 n S1 T1 A1 B1) := hz1
                    clear C5 hz1
                    go_wp2_with fail
                    go_roundw
                    case rel => exact ⟨m + 1, by omega, by rw [HE2.out], by go_num, HG⟩
                    case measure => simp [intOf]; omega
                · have HE2 : Hid (frB S1 d (m + 1) = fm) := by have := HE.out; rw [if_neg (fun e => h34 e.2)] at this; exact this
                  have e3 : (sm == 3) = false := by simp; omega
                  have e4 : (sm == 4) = false := by simp; omega
                  clear HE hmd h34
                  go_wp2_with fail
                  refine C5.mono ?_
                  rintro e z1 ⟨rfl, hz1⟩
                  have HG : Hid (TW w z1 k b g 16 n S1 T1 A1 B1) := hz1
                  clear C5 hz1
                  go_wp2_with fail
                  go_roundw
                  case rel => exact ⟨m + 1, by omega, by rw [HE2.out], by go_num, HG⟩
                  case measure => simp [intOf]; omega
            · have hmn' : (n : Int) ≤ (m : Int) := by omega
              obtain rfl : n = m := by omega
              have HF : Hid (R1 w wr k b g n (j + 1) B1) := ⟨_, _, _, HQ.out, HP1.out⟩
              clear HQ HP1 hm hmn
              rw [efb]
              clear efb
              go_wp2_with fail
              go_roundw
              case rel => exact ⟨B1, j + 1, by omega, by rw [← HB1.out], by go_num, HF⟩
              case measure => simp [intOf]; omega
    · have hjl' : (len : Int) ≤ (j : Int) := by omega
      have hB : Below w.heap.size w wr := by obtain ⟨S, T, A, h, _⟩ := HR.out; exact h.bel
      clear HR HZ hjl
      go_wp2_with fail
      go_ret
      exact ⟨rfl, hB⟩
end ticketOne
end Go.Proofs.YtioanbdmkiphfaaDoor
