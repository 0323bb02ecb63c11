/-
  The walk of TicketTurns.
-/
import Derived.Test.YtioanbdmkiphfaaDoorTn
import Derived.Test.YtioanbdmkiphfaaDoorIns
import Derived.Deep.DeepCutAuto
import Derived.Deep.CutRange
namespace Go.Proofs.YtioanbdmkiphfaaDoor
open Go.RowKit
set_option linter.unusedVariables false
set_option maxRecDepth 20000

/-- a lock of the law's own -/
structure TW (w0 w : World) (k b g : Nat) (t : Int) (n : Nat) (S T : Nat → Int) (A B : Int) : Prop where
  ly : LY w k b g t n S T A B
  bel : Below w0.heap.size w0 w
  lk : w0.heap.size ≤ k
  lg : w0.heap.size ≤ g
section
variable {w0 w w' : World} {k b g n : Nat} {t : Int} {S T : Nat → Int} {A B : Int}
theorem TW.to {S' T' : Nat → Int} {A' B' : Int} (h : TW w0 w k b g t n S T A B) (h' : LY w' k b g t n S' T' A' B') (ht : Trn (Own k g) w w') : TW w0 w' k b g t n S' T' A' B' :=
  ⟨h', h.bel.trans (ht.below (fun x hx => by rcases hx with rfl | rfl; exact h.lk; exact h.lg) h.bel.size), h.lk, h.lg⟩
theorem TW.take (h : TW w0 w k b g t n S T A B) (c : Nat) (hc : c < n) : Calls Tryd.prog 13 #[.pointer (some ⟨k, 0, none⟩), .int .i64 c] w fun e w' =>
    e = .returned (.int .i64 (if S c = 0 then 0 else 21)) ∧ TW w0 w' k b g t n (if S c = 0 then upd S c 1 else S) T A B := by
  refine (take_ly k b g t n S T A B c hc w h.ly).mono ?_
  rintro e w' ⟨rfl, h1, h2⟩
  exact ⟨rfl, h.to h1 h2⟩
theorem TW.give (h : TW w0 w k b g t n S T A B) (c : Nat) (hc : c < n) : Calls Tryd.prog 15 #[.pointer (some ⟨k, 0, none⟩), .int .i64 c] w fun e w' =>
    e = .returned (.int .i64 (if S c = 3 then 0 else 21)) ∧ TW w0 w' k b g t n (if S c = 3 then upd S c 4 else S) T A B := by
  refine (give_ly k b g t n S T A B c hc w h.ly).mono ?_
  rintro e w' ⟨rfl, h1, h2⟩
  exact ⟨rfl, h.to h1 h2⟩
theorem TW.step (h : TW w0 w k b g t n S T A B) (c : Nat) (hc : c < n) : Calls Tryd.prog 16 #[.pointer (some ⟨k, 0, none⟩), .int .i64 c] w fun e w' =>
    e = .returned (.tuple #[.int .i64 (nS B (S c) (T c)), .int .i64 0]) ∧ TW w0 w' k b g t n (upd S c (nS B (S c) (T c))) (upd T c (nT A (S c) (T c))) (nA A (S c)) (nB B (S c)) := by
  refine (step_ly k b g t n S T A B c hc w h.ly).mono ?_
  rintro e w' ⟨rfl, h1, h2⟩
  exact ⟨rfl, h.to h1 h2⟩
theorem TW.state (h : TW w0 w k b g t n S T A B) (c : Nat) (hc : c < n) : Calls Tryd.prog 20 #[.pointer (some ⟨k, 0, none⟩), .int .i64 c] w fun e w' =>
    e = .returned (.tuple #[.int .i64 (S c), .int .u64 (T c)]) ∧ TW w0 w' k b g t n S T A B := by
  refine (state_ly k b g t n S T A B c hc w h.ly).mono ?_
  rintro e w' ⟨rfl, h1, h2⟩
  exact ⟨rfl, h1, h.bel.trans (h2.mono h.bel.size), h.lk, h.lg⟩
end
/-- a lock in a new memory of one frame -/
theorem made_tw (w0 w1 w2 : World) (b g k n : Nat) (t : Int) (ht : 0 ≤ t) (ht' : t + 16 ≤ 256) (hb1 : Below w0.heap.size w0 w1) (hg1 : w0.heap.size ≤ g)
    (h2 : LX w2 k b g (splice (List.replicate (1 * 256) 0) t.toNat (List.replicate 16 0)) t n (fun _ => 0) (fun _ => 0)) (hk2 : w1.heap.size ≤ k) (hr2 : w1.grownBy w2 (some g)) : TW w0 w2 k b g t n (fun _ => 0) (fun _ => 0) 0 0 := by
  rw [splice_zeros _ _ (by omega)] at h2
  exact ⟨⟨_, h2, load_zeros _ _, load_zeros _ _⟩, hb1.grown hr2 hb1.size (by intro x e; cases e; exact hg1), Nat.le_trans hb1.size hk2, hg1⟩
/-- a core out of any number -/
theorem core_of (x : Int) (n : Nat) (hn : 1 ≤ n) (hn8 : n ≤ 8) : ∃ (r : Int) (d : Nat), x.tmod n = r ∧ -8 < r ∧ r < 8 ∧ (r + n).tmod n = d ∧ d < n := by
  have h1 : x.tmod n < n := Int.tmod_lt_of_pos x (by omega)
  have h2 : -(n : Int) < x.tmod n := by
    have := Int.tmod_lt_of_pos (-x) (show (0 : Int) < n by omega)
    rw [Int.neg_tmod] at this
    omega
  refine ⟨x.tmod n, (x.tmod n + n).toNat % n, rfl, by omega, by omega, ?_, Nat.mod_lt _ (by omega)⟩
  obtain ⟨m, hm⟩ := Int.eq_ofNat_of_zero_le (show 0 ≤ x.tmod n + n by omega)
  rw [hm, Int.toNat_natCast, Int.ofNat_tmod]
theorem sumW_le (S : Nat → Int) : ∀ n, sumW wt S n ≤ 3 * n
  | 0 => Nat.le_refl _
  | n + 1 => by
    have := sumW_le S n
    have h : wt (S n) ≤ 3 := by unfold wt; repeat (first | split | decide)
    rw [sumW]
    omega
namespace ticketTurns
/-- while they take -/
def R1 (w0 w : World) (k b g n j : Nat) : Prop := ∃ S T, TW w0 w k b g 0 n S T 0 0 ∧ (∀ d, d < j → S d = 1) ∧ ∀ d, j ≤ d → S d = 0
/-- while they only step -/
def R2 (w0 w : World) (k b g n : Nat) : Prop := ∃ S T A B, TW w0 w k b g 0 n S T A B ∧ P2 n S T A B ∧ ∀ d, d < n → S d = 1 ∨ S d = 2 ∨ S d = 3
/-- between the rounds -/
def R3 (w0 w : World) (k b g n h r : Nat) : Prop := ∃ S T A B, TW w0 w k b g 0 n S T A B ∧ P2 n S T A B ∧ sumW outW S n = h ∧ (sumW wt S n + r ≤ 3 * n ∨ sumW wt S n = 0)
/-- inside a round, where F was to go at its start -/
def R4 (w0 w : World) (k b g n h c F : Nat) : Prop := ∃ S T A B, TW w0 w k b g 0 n S T A B ∧ P2 n S T A B ∧ sumW outW S n = h ∧ (sumW wt S n < F ∨ sumW wt S n = F ∧ ∀ d, d < c → quiet S T B d)
theorem cnt_le (S : Nat → Int) : ∀ n, sumW outW S n ≤ n
  | 0 => Nat.le_refl _
  | n + 1 => by
    have := cnt_le S n
    have h : outW (S n) ≤ 1 := by unfold outW; repeat (first | split | decide)
    rw [sumW]
    omega
theorem take1 {w0 w : World} {k b g n j : Nat} (h : R1 w0 w k b g n j) (hj : j < n) : Calls Tryd.prog 13 #[.pointer (some ⟨k, 0, none⟩), .int .i64 j] w fun e w' => e = .returned (.int .i64 0) ∧ R1 w0 w' k b g n (j + 1) := by
  obtain ⟨S, T, h, h1, h2⟩ := h
  refine (h.take j hj).mono ?_
  rintro e w' ⟨rfl, h'⟩
  rw [if_pos (h2 j (Nat.le_refl _))] at h' ⊢
  refine ⟨rfl, _, _, h', fun d hd => ?_, fun d hd => by rw [upd_ne _ _ (by omega)]; exact h2 d (by omega)⟩
  by_cases e : d = j
  · rw [e, upd_self]
  · rw [upd_ne _ _ e]; exact h1 d (by omega)
theorem r12 {w0 w : World} {k b g n : Nat} (h : R1 w0 w k b g n n) (hn : n ≤ 8) : R2 w0 w k b g n := by
  obtain ⟨S, T, h, h1, h2⟩ := h
  exact ⟨S, T, 0, 0, h, (P2.begun n hn S T h1).1, fun d hd => .inl (h1 d hd)⟩
theorem step2 {w0 w : World} {k b g n c : Nat} (h : R2 w0 w k b g n) (hc : c < n) : Calls Tryd.prog 16 #[.pointer (some ⟨k, 0, none⟩), .int .i64 c] w fun e w' => (∃ s, e = .returned (.tuple #[.int .i64 s, .int .i64 0])) ∧ R2 w0 w' k b g n := by
  obtain ⟨S, T, A, B, h, h1, h2⟩ := h
  refine (h.step c hc).mono ?_
  rintro e w' ⟨rfl, h'⟩
  exact ⟨⟨_, rfl⟩, _, _, _, _, h', h1.step c hc, h1.early c hc h2⟩
theorem r23 {w0 w : World} {k b g n : Nat} (h : R2 w0 w k b g n) : R3 w0 w k b g n 0 0 := by
  obtain ⟨S, T, A, B, h, h1, h2⟩ := h
  have := sumW_all outW S 0 n (fun c hc => by rcases h2 c hc with e | e | e <;> rw [e] <;> rfl)
  exact ⟨S, T, A, B, h, h1, by omega, .inl (by have := sumW_le S n; omega)⟩
theorem r34 {w0 w : World} {k b g n h r : Nat} (hh : R3 w0 w k b g n h r) : ∃ F, (F + r ≤ 3 * n ∨ F = 0) ∧ R4 w0 w k b g n h 0 F := by
  obtain ⟨S, T, A, B, h, h1, h2, h3⟩ := hh
  exact ⟨sumW wt S n, h3, S, T, A, B, h, h1, h2, .inr ⟨rfl, fun d hd => by omega⟩⟩
theorem r43 {w0 w : World} {k b g n h r F : Nat} (hF : F + r ≤ 3 * n ∨ F = 0) (hh : R4 w0 w k b g n h n F) : R3 w0 w k b g n h (r + 1) := by
  obtain ⟨S, T, A, B, h, h1, h2, h3⟩ := hh
  refine ⟨S, T, A, B, h, h1, h2, ?_⟩
  rcases h3 with h3 | ⟨h3, h4⟩
  · rcases hF with hF | hF
    · exact .inl (by omega)
    · omega
  · exact .inr (h1.stuck h4)
theorem r3_end {w0 w : World} {k b g n h r : Nat} (hh : R3 w0 w k b g n h r) (hr : 3 * n < r) : h = n ∧ Below w0.heap.size w0 w := by
  obtain ⟨S, T, A, B, h, h1, h2, h3⟩ := hh
  have h0 : sumW wt S n = 0 := by omega
  have := h1.all h0
  exact ⟨by omega, h.bel⟩
/-- a step inside a round -/
def SR (w0 w : World) (k b g n h c F : Nat) (s : Int) : Prop := ∃ S T A B S1 T1 A1 B1, TW w0 w k b g 0 n S1 T1 A1 B1 ∧ P2 n S T A B ∧ sumW outW S n = h ∧ (sumW wt S n < F ∨ sumW wt S n = F ∧ ∀ d, d < c → quiet S T B d) ∧ s = nS B (S c) (T c) ∧ S1 = upd S c (nS B (S c) (T c)) ∧ T1 = upd T c (nT A (S c) (T c)) ∧ A1 = nA A (S c) ∧ B1 = nB B (S c)
theorem step4 {w0 w : World} {k b g n h c F : Nat} (hh : R4 w0 w k b g n h c F) (hc : c < n) : Calls Tryd.prog 16 #[.pointer (some ⟨k, 0, none⟩), .int .i64 c] w fun e w' => ∃ s, e = .returned (.tuple #[.int .i64 s, .int .i64 0]) ∧ SR w0 w' k b g n h c F s := by
  obtain ⟨S, T, A, B, h, h1, h2, h3⟩ := hh
  refine (h.step c hc).mono ?_
  rintro e w' ⟨rfl, h'⟩
  exact ⟨_, rfl, S, T, A, B, _, _, _, _, h', h1, h2, h3, rfl, rfl, rfl, rfl, rfl⟩
theorem give4 {w0 w : World} {k b g n h c F : Nat} (hh : SR w0 w k b g n h c F 3) (hc : c < n) : Calls Tryd.prog 15 #[.pointer (some ⟨k, 0, none⟩), .int .i64 c] w fun e w' => e = .returned (.int .i64 0) ∧ R4 w0 w' k b g n (h + 1) (c + 1) F := by
  obtain ⟨S, T, A, B, S1, T1, A1, B1, h, h1, h2, h3, h4, rfl, rfl, rfl, rfl⟩ := hh
  obtain ⟨q1, q2, q3⟩ := h1.held c hc h4.symm
  refine (h.give c hc).mono ?_
  rintro e w' ⟨rfl, h'⟩
  rw [upd_self, if_pos h4.symm] at h' ⊢
  exact ⟨rfl, _, _, _, _, h', q1, by omega, .inl (by omega)⟩
theorem other4 {w0 w : World} {k b g n h c F : Nat} {s : Int} (hh : SR w0 w k b g n h c F s) (hc : c < n) (hs : s ≠ 3) : R4 w0 w k b g n h (c + 1) F := by
  obtain ⟨S, T, A, B, S1, T1, A1, B1, h, h1, h2, h3, h4, rfl, rfl, rfl, rfl⟩ := hh
  rw [h4] at hs
  obtain ⟨q1, q2⟩ := h1.other c hc hs
  refine ⟨_, _, _, _, h, h1.step c hc, by omega, ?_⟩
  rcases q2 with q2 | ⟨e1, e2, e3, e4, hq⟩
  · exact .inl (by omega)
  · rw [e1, e2, e4]
    rcases h3 with h3 | ⟨h3, h5⟩
    · exact .inl h3
    · refine .inr ⟨h3, fun d hd => ?_⟩
      by_cases e : d = c
      · rw [e]; exact hq
      · exact h5 d (by omega)
theorem r4_le {w0 w : World} {k b g n h c F : Nat} (hh : R4 w0 w k b g n h c F) : h ≤ n := by
  obtain ⟨S, T, A, B, h, h1, h2, h3⟩ := hh
  have := cnt_le S n
  omega
set_option maxHeartbeats 4000000 in
theorem walk (a : Int) (ad : Option Addr) (len cap : Nat) (zs : List Int) (w : World) (hT : TB w) (hz : NumsIn .i64 w ad len zs) (hl : len < 9223372036854775808) : Calls Tryd.prog 6 #[.int .i64 a, .slice ad len cap] w fun e w' => e = .returned (.bool true) ∧ Below w.heap.size w w' := by
  obtain ⟨q, hq, eq⟩ := and_low a 7 7 rfl (by decide)
  have HN : Hid (_) := new_yes 1 w (by decide) (by decide)
  have HT : Hid (TB w) := hT
  have HZ : Hid (NumsIn .i64 w ad len zs) := hz
  have hp := hT.pos
  clear hT hz
  go_enter Tryd.func6, Tryd.ntmps6
  go_wp2_with fail
  refine Calls.mono HN.out ?_
  rintro e w1 ⟨b, g, rfl, hM, lb, lg, hb1⟩
  have HM : Hid (MM w1 b g (List.replicate (1 * 256) 0)) := hM
  have HB1 : Hid (Below w.heap.size w w1) := hb1
  clear HN hM hb1
  go_wp2_with fail
  obtain ⟨n, en⟩ : ∃ n : Nat, 1 + (q : Int) = n := ⟨1 + q, by omega⟩
  have hn1 : 1 ≤ n := by omega
  have hn8 : n ≤ 8 := by omega
  rw [en]
  clear en eq hq
  have hg1 : 1 < g := by omega
  have hTB1 := HT.out.below HB1.out
  refine (new_ok b g _ 0 n w1 HM.out hTB1 hg1 (by simp) ⟨hn1, hn8⟩ (by decide) (by decide) (by simp)).mono ?_
  rintro e w2 ⟨k, rfl, hX2, hk2, hr2⟩
  have H1 : Hid (R1 w w2 k b g n 0) := ⟨_, _, made_tw w w1 w2 b g k n 0 (by decide) (by decide) HB1.out lg hX2 hk2 hr2, fun d hd => by omega, fun d _ => rfl⟩
  clear hX2 hr2 hTB1 HM HB1 HT hk2
  go_wp2_with fail
  go_loopw [8] (fun q wr => ∃ j : Nat, j ≤ n ∧ q = .int .i64 j ∧ Hid (R1 w wr k b g n j)) (fun q _ => n - (intOf q).toNat)
  case atStart => exact ⟨0, by omega, rfl, H1⟩
  case round =>
    obtain ⟨j, hj, rfl, HR⟩ := hrel
    clear H1
    by_cases hjn : j < n
    · have hjn' : (j : Int) < (n : Int) := by omega
      have C1 := take1 HR.out hjn
      clear HR
      go_wp2_with fail
      refine C1.mono ?_
      rintro e y1 ⟨rfl, h1⟩
      have HF : Hid (R1 w y1 k b g n (j + 1)) := h1
      clear C1 h1
      go_wp2_with fail
      go_roundw
      case rel => exact ⟨j + 1, by omega, by go_num, HF⟩
      case measure => simp [intOf]; omega
    · have hjn' : (n : Int) ≤ (j : Int) := by omega
      obtain rfl : n = j := by omega
      have H2 : Hid (R2 w wr k b g n) := r12 HR.out hn8
      clear HR hjn hj
      obtain ⟨x0, rfl⟩ : ∃ x0, x0 = wr := ⟨_, rfl⟩
      go_wp2_with fail
      go_loopw [9] (fun q wr => ∃ j : Nat, j ≤ len ∧ q = .int .i64 j ∧ Hid (R2 w wr k b g n)) (fun q _ => len - (intOf q).toNat)
      case atStart => exact ⟨0, by omega, rfl, H2⟩
      case round =>
        obtain ⟨j, hj, rfl, HR⟩ := hrel
        clear H2
        by_cases hjl : j < len
        · have hjl' : (j : Int) < (len : Int) := by omega
          obtain ⟨kb, off, rfl, hkb, hcell⟩ := HZ.out.at hjl
          obtain ⟨r, d, er, hr1, hr2, ed, hd⟩ := core_of (zs.getD j 0) n hn1 hn8
          obtain ⟨S, T, A, B, h, _⟩ := HR.out
          have hc := ((bcell h.bel).1 kb (off + j) hkb).trans hcell
          have hkw : kb < wr.heap.size := Nat.lt_of_lt_of_le hkb h.bel.size
          have C1 := step2 HR.out hd
          generalize zs.getD j 0 = x at *
          clear HR h hcell
          go_wp2_with fail
          refine C1.mono ?_
          rintro e y1 ⟨⟨s, rfl⟩, h1⟩
          have HF : Hid (R2 w y1 k b g n) := h1
          clear C1 h1 hc
          go_wp2_with fail
          go_roundw
          case rel => exact ⟨j + 1, by omega, by go_num, HF⟩
          case measure => simp [intOf]; omega
        · have hjl' : (len : Int) ≤ (j : Int) := by omega
          have hd9 : decide (j < len) = false := decide_eq_false hjl
          have H3 : Hid (R3 w wr k b g n 0 0) := r23 HR.out
          clear HR HZ hjl
          obtain ⟨x1, rfl⟩ : ∃ x1, x1 = wr := ⟨_, rfl⟩
          go_wp2_with fail
          go_loopw [10, 11] (fun q p wr => ∃ h r : Nat, r ≤ 3 * n + 3 ∧ h ≤ n ∧ q = .int .i64 h ∧ p = .int .i64 r ∧ Hid (R3 w wr k b g n h r)) (fun q p _ => 3 * n + 3 - (intOf p).toNat)
          case atStart => exact ⟨0, 0, by omega, by omega, rfl, rfl, H3⟩
          case round =>
            obtain ⟨h, r, hr, hh, rfl, rfl, HR⟩ := hrel
            clear H3
            by_cases hrn : r < 3 * n + 3
            · have hrn' : (r : Int) < 3 * (n : Int) + 3 := by omega
              obtain ⟨F, hF, h4⟩ := r34 HR.out
              have HF : Hid (F + r ≤ 3 * n ∨ F = 0) := hF
              have H4 : Hid (R4 w wr k b g n h 0 F) := h4
              clear HR hF h4
              obtain ⟨x2, rfl⟩ : ∃ x2, x2 = wr := ⟨_, rfl⟩
              go_wp2_with fail
              go_loopw [10, 12] (fun q p wr => ∃ h c : Nat, c ≤ n ∧ h ≤ n ∧ q = .int .i64 h ∧ p = .int .i64 c ∧ Hid (R4 w wr k b g n h c F)) (fun q p _ => n - (intOf p).toNat)
              case atStart => exact ⟨h, 0, by omega, hh, rfl, rfl, H4⟩
              case round =>
                obtain ⟨h', c, hc, hh', rfl, rfl, HR⟩ := hrel
                clear H4
                by_cases hcn : c < n
                · have hcn' : (c : Int) < (n : Int) := by omega
                  have C1 := step4 HR.out hcn
                  clear HR
                  go_wp2_with fail
                  refine C1.mono ?_
                  rintro e y1 ⟨s, rfl, h1⟩
                  clear C1
                  by_cases hs : s = 3
                  · subst hs
                    have C2 := give4 h1 hcn
                    clear h1
                    go_wp2_with fail
                    refine C2.mono ?_
                    rintro e y2 ⟨rfl, h2⟩
                    have hle := r4_le h2
                    have HG : Hid (R4 w y2 k b g n (h' + 1) (c + 1) F) := h2
                    clear C2 h2
                    go_wp2_with fail
                    go_roundw
                    case rel => exact ⟨h' + 1, c + 1, by omega, hle, by go_num, by go_num, HG⟩
                    case measure => simp [intOf]; omega
                  · have HG : Hid (R4 w y1 k b g n h' (c + 1) F) := other4 h1 hcn hs
                    have hs' : (s == 3) = false := by simpa using hs
                    clear h1 hs
                    go_wp2_with fail
                    go_roundw
                    case rel => exact ⟨h', c + 1, by omega, hh', rfl, by go_num, HG⟩
                    case measure => simp [intOf]; omega
                · have hcn' : (n : Int) ≤ (c : Int) := by omega
                  obtain rfl : n = c := by omega
                  have HG : Hid (R3 w wr k b g n h' (r + 1)) := r43 HF.out HR.out
                  clear HR hcn hc
                  go_wp2_with fail
                  go_roundw
                  case rel => exact ⟨h', r + 1, by omega, hh', rfl, by go_num, HG⟩
                  case measure => simp [intOf]; omega
            · have hrn' : 3 * (n : Int) + 3 ≤ (r : Int) := by omega
              obtain ⟨e1, hB⟩ := r3_end HR.out (by omega)
              obtain rfl : n = h := e1.symm
              clear HR hrn
              go_wp2_with fail
              go_ret
              exact ⟨ret_bool (by simp), hB⟩
end ticketTurns
end Go.Proofs.YtioanbdmkiphfaaDoor
