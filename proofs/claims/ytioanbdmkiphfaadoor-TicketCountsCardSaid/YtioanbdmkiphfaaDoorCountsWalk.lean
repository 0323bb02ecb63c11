/-
  Two locks in one memory; the walk of TicketCounts.
-/
import Derived.Test.YtioanbdmkiphfaaDoorIns
import Derived.Deep.DeepCutAuto
import Derived.Deep.CutRange
namespace Go.Proofs.YtioanbdmkiphfaaDoor
open Go.RowKit
set_option linter.unusedVariables false
set_option maxRecDepth 20000

/-- two locks, of n cores each, in one memory: the first with the numbers A, B at 0, the second with 1, 0 at 16, its core 0 spinning with the ticket 0 -/
structure TL (w0 w : World) (k o b g n : Nat) (S T S' T' : Nat → Int) (A B : Int) : Prop where
  ex : ∃ zs, LX w k b g zs 0 n S T ∧ LX w o b g zs 16 n S' T' ∧ loadV zs 0 8 = A ∧ loadV zs 8 8 = B ∧ loadV zs 16 8 = 1 ∧ loadV zs 24 8 = 0
  s0 : S' 0 = 2
  t0 : T' 0 = 0
  ko : k ≠ o
  bel : Below w0.heap.size w0 w
  lk : w0.heap.size ≤ k
  lo : w0.heap.size ≤ o
  lg : w0.heap.size ≤ g
section
variable {w0 w w' : World} {k o b g n : Nat} {S T S' T' : Nat → Int} {A B : Int}
theorem TL.own (h : TL w0 w k o b g n S T S' T' A B) (ht : Trn (Own k g) w w') : Below w0.heap.size w0 w' :=
  h.bel.trans (ht.below (fun x hx => by rcases hx with rfl | rfl; exact h.lk; exact h.lg) h.bel.size)
/-- the second lock lives through what the first one does -/
theorem TL.second {zs zs' : List Int} {S1 T1 : Nat → Int} (h1 : LX w k b g zs 0 n S T) (h2 : LX w o b g zs 16 n S' T') (hko : k ≠ o) (h' : LX w' k b g zs' 0 n S1 T1) (hl : zs'.length = zs.length) (ht : Trn (Own k g) w w') : LX w' o b g zs' 16 n S' T' :=
  ⟨h2.lk.keep (ht.block o h2.lk.lt fun e => by
      rcases e with e | e
      · exact hko e.symm
      · exact h2.kg e), h'.mm, h'.tb, h2.t0, h2.t8, by rw [hl]; exact h2.t16, h2.k1, h2.g1⟩
end
theorem take_tl {w0 w : World} {k o b g n : Nat} {S T S' T' : Nat → Int} {A B : Int} (h : TL w0 w k o b g n S T S' T' A B) (c : Nat) (hc : c < n) (hs : S c = 0) : Calls Tryd.prog 13 #[.pointer (some ⟨k, 0, none⟩), .int .i64 c] w fun e w' =>
    e = .returned (.int .i64 0) ∧ TL w0 w' k o b g n (upd S c 1) T S' T' A B := by
  obtain ⟨zs, h1, h2, l⟩ := h.ex
  refine (take_lx k b g zs 0 n S T c w h1).mono ?_
  rintro e' w' ⟨rfl, h3, h4⟩
  unfold begE
  unfold begS at h3
  rw [hasC_nat hc] at h3 ⊢
  simp only [Int.toNat_natCast, hs, and_self, if_true] at h3 ⊢
  exact ⟨trivial, ⟨zs, h3, TL.second h1 h2 h.ko h3 rfl h4, l⟩, h.s0, h.t0, h.ko, h.own h4, h.lk, h.lo, h.lg⟩
theorem give_tl {w0 w : World} {k o b g n : Nat} {S T S' T' : Nat → Int} {A B : Int} (h : TL w0 w k o b g n S T S' T' A B) (c : Nat) (hc : c < n) (hs : S c = 3) : Calls Tryd.prog 15 #[.pointer (some ⟨k, 0, none⟩), .int .i64 c] w fun e w' =>
    e = .returned (.int .i64 0) ∧ TL w0 w' k o b g n (upd S c 4) T S' T' A B := by
  obtain ⟨zs, h1, h2, l⟩ := h.ex
  refine (give_lx k b g zs 0 n S T c w h1).mono ?_
  rintro e' w' ⟨rfl, h3, h4⟩
  unfold begE
  unfold begS at h3
  rw [hasC_nat hc] at h3 ⊢
  simp only [Int.toNat_natCast, hs, and_self, if_true] at h3 ⊢
  exact ⟨trivial, ⟨zs, h3, TL.second h1 h2 h.ko h3 rfl h4, l⟩, h.s0, h.t0, h.ko, h.own h4, h.lk, h.lo, h.lg⟩
theorem step_tl {w0 w : World} {k o b g n : Nat} {S T S' T' : Nat → Int} {A B : Int} (h : TL w0 w k o b g n S T S' T' A B) (c : Nat) (hc : c < n) : Calls Tryd.prog 16 #[.pointer (some ⟨k, 0, none⟩), .int .i64 c] w fun e w' =>
    e = .returned (.tuple #[.int .i64 (nS B (S c) (T c)), .int .i64 0]) ∧ TL w0 w' k o b g n (upd S c (nS B (S c) (T c))) (upd T c (nT A (S c) (T c))) S' T' (nA A (S c)) (nB B (S c)) := by
  obtain ⟨zs, h1, h2, e1, e2, e3, e4⟩ := h.ex
  obtain ⟨l1, l2, l3⟩ := stpZ_loads 0 zs (S c) h1.t0 h1.t8 h1.t16
  refine (Step_yes k b g zs 0 n S T c w h1 hc).mono ?_
  rintro e' w' ⟨rfl, h3, h4⟩
  have a1 : stpS 0 zs (S c) (T c) = nS B (S c) (T c) := by unfold stpS nS; rw [show (0 : Int) + 8 = 8 from rfl, e2]
  have a2 : stpT 0 zs (S c) (T c) = nT A (S c) (T c) := by unfold stpT nT; rw [e1]
  rw [a1, a2] at h3
  rw [a1]
  refine ⟨rfl, ⟨_, h3, TL.second h1 h2 h.ko h3 (stpZ_len _ _ _ (by decide)) h4, by rw [l1, e1], ?_, ?_, ?_⟩, h.s0, h.t0, h.ko, h.own h4, h.lk, h.lo, h.lg⟩
  · have := l2
    rw [show (0 : Int) + 8 = 8 from rfl, e2] at this
    exact this
  · rw [l3 16 (by decide) (by decide), e3]
  · rw [l3 24 (by decide) (by decide), e4]
theorem load_tl {w0 w : World} {k o b g n : Nat} {S T S' T' : Nat → Int} {A B : Int} (h : TL w0 w k o b g n S T S' T' A B) (t v : Int) (ht : t = 0 ∧ v = A ∨ t = 8 ∧ v = B ∨ t = 16 ∧ v = 1 ∨ t = 24 ∧ v = 0) : Calls Tryd.prog 23 #[.pointer (some ⟨b, 0, none⟩), .int .u64 t, .int .i64 8] w fun e w' =>
    e = .returned (.tuple #[.int .u64 v, .int .i64 0]) ∧ TL w0 w' k o b g n S T S' T' A B := by
  obtain ⟨zs, h1, h2, e1, e2, e3, e4⟩ := h.ex
  have C := mload_mm b g zs t 8 w h1.tb.sz h1.mm (by omega) (by omega) (by decide)
  have hl := h2.t16
  rw [num_ok zs.length t (by omega) (by omega)] at C
  have hv : loadV zs t 8 = v := by
    rcases ht with ⟨rfl, rfl⟩ | ⟨rfl, rfl⟩ | ⟨rfl, rfl⟩ | ⟨rfl, rfl⟩
    · exact e1
    · exact e2
    · exact e3
    · exact e4
  rw [hv] at C
  refine C.mono ?_
  rintro e w' ⟨rfl, hb⟩
  exact ⟨rfl, ⟨zs, h1.below hb, h2.below hb, e1, e2, e3, e4⟩, h.s0, h.t0, h.ko, h.bel.trans (hb.mono h.bel.size), h.lk, h.lo, h.lg⟩
/-- the second lock's step at the end -/
theorem last_tl {w0 w : World} {k o b g n : Nat} {S T S' T' : Nat → Int} {A B : Int} (h : TL w0 w k o b g n S T S' T' A B) : Calls Tryd.prog 16 #[.pointer (some ⟨o, 0, none⟩), .int .i64 0] w fun e w' =>
    e = .returned (.tuple #[.int .i64 3, .int .i64 0]) ∧ Below w0.heap.size w0 w' := by
  obtain ⟨zs, h1, h2, e1, e2, e3, e4⟩ := h.ex
  have hn := h1.lk.n1
  refine (Step_yes o b g zs 16 n S' T' 0 w h2 (by omega)).mono ?_
  rintro e' w' ⟨rfl, h3, h4⟩
  refine ⟨?_, h.bel.trans (h4.below (fun x hx => by rcases hx with rfl | rfl; exact h.lo; exact h.lg) h.bel.size)⟩
  unfold stpS
  rw [h.s0, h.t0, show (16 : Int) + 8 = 24 from rfl, e4]
  rfl
namespace ticketCounts
/-- between the rounds: nobody holds or waits, both numbers are i -/
def RW (w0 w : World) (k o b g n : Nat) (i : Nat) : Prop := ∃ S T S' T', TL w0 w k o b g n S T S' T' i i ∧ ∀ d, d < n → S d = 0
theorem made (w0 w1 w2 w3 : World) (b g k o n : Nat) (hm : MM w1 b g (List.replicate (1 * 256) 0)) (hb1 : Below w0.heap.size w0 w1) (hg1 : w0.heap.size ≤ g)
    (h2 : LX w2 k b g (splice (List.replicate (1 * 256) 0) (Int.toNat 0) (List.replicate 16 0)) 0 n (fun _ => 0) (fun _ => 0)) (hk2 : w1.heap.size ≤ k) (hr2 : w1.grownBy w2 (some g))
    (h3 : LX w3 o b g (splice (List.replicate 256 0) (Int.toNat 16) (List.replicate 16 0)) 16 n (fun _ => 0) (fun _ => 0)) (hk3 : w2.heap.size ≤ o) (hr3 : w2.grownBy w3 (some g)) :
    LX w3 k b g (List.replicate 256 0) 0 n (fun _ => 0) (fun _ => 0) ∧ LX w3 o b g (List.replicate 256 0) 16 n (fun _ => 0) (fun _ => 0) ∧ k ≠ o ∧ Below w0.heap.size w0 w3 := by
  rw [splice_zeros _ _ (by decide)] at h2 h3
  refine ⟨?_, h3, ?_, ?_⟩
  · exact ⟨h2.lk.keep (hr3.block k h2.lk.lt (by have := h2.kg; simp; omega)), h3.mm, h3.tb, h2.t0, h2.t8, h2.t16, h2.k1, h2.g1⟩
  · have := h2.lk.lt; omega
  · exact (hb1.grown hr2 hb1.size (by intro x e; cases e; exact hg1)).grown hr3 (Nat.le_trans hb1.size hr2.size) (by intro x e; cases e; exact hg1)
theorem begun (w0 w3 w4 w5 : World) (k o b g n : Nat) (hn : 1 ≤ n) (hk : LX w3 k b g (List.replicate 256 0) 0 n (fun _ => 0) (fun _ => 0)) (hko : k ≠ o) (hb : Below w0.heap.size w0 w3) (lk : w0.heap.size ≤ k) (lo : w0.heap.size ≤ o) (lg : w0.heap.size ≤ g) (t4 : Trn (Own o g) w3 w4)
    (h5 : LX w5 o b g (stpZ 16 (List.replicate 256 0) (upd (fun _ => 0) 0 1 0)) 16 n (upd (upd (fun _ => 0) 0 1) 0 (stpS 16 (List.replicate 256 0) (upd (fun _ => 0) 0 1 0) 0)) (upd (fun _ => 0) 0 (stpT 16 (List.replicate 256 0) (upd (fun _ => 0) 0 1 0) 0))) (t5 : Trn (Own o g) w4 w5) : RW w0 w5 k o b g n 0 := by
  have e1 : upd (fun _ => (0 : Int)) 0 1 0 = 1 := rfl
  rw [e1] at h5
  have t35 := t4.trans t5
  obtain ⟨l1, l2, l3⟩ := stpZ_loads 16 (List.replicate 256 0) 1 (by decide) (by decide) (by simp)
  refine ⟨fun _ => 0, fun _ => 0, _, _, ⟨⟨_, ?_, h5, ?_, ?_, ?_, ?_⟩, rfl, ?_, hko, ?_, lk, lo, lg⟩, fun d _ => rfl⟩
  · exact ⟨hk.lk.keep (t35.block k hk.lk.lt fun e => by
      rcases e with e | e
      · exact hko e
      · exact hk.kg e), h5.mm, h5.tb, hk.t0, hk.t8, by rw [stpZ_len _ _ _ (by decide)]; exact hk.t16, hk.k1, hk.g1⟩
  · rw [l3 0 (by decide) (by decide), load_zeros]; rfl
  · rw [l3 8 (by decide) (by decide), load_zeros]; rfl
  · rw [l1, load_zeros]; rfl
  · have := l2
    rw [show (16 : Int) + 8 = 24 from rfl, load_zeros] at this
    exact this
  · show stpT 16 (List.replicate 256 0) 1 0 = 0
    unfold stpT
    rw [if_pos rfl, load_zeros]
  · exact hb.trans (t35.below (fun x hx => by rcases hx with rfl | rfl; exact lo; exact lg) hb.size)
/-- one core is about it, with the state s and the ticket x -/
def TC (w0 w : World) (k o b g n d : Nat) (s x A B : Int) : Prop := ∃ S T S' T', TL w0 w k o b g n S T S' T' A B ∧ S d = s ∧ T d = x ∧ ∀ e, e < n → e ≠ d → S e = 0
theorem upd_self (S : Nat → Int) (d : Nat) (y : Int) : upd S d y d = y := by simp [upd]
theorem upd_ne (S : Nat → Int) {d e : Nat} (y : Int) (h : e ≠ d) : upd S d y e = S e := by simp [upd, h]
theorem take_tc {w0 w : World} {k o b g n d : Nat} {x A B : Int} (hd : d < n) (h : TC w0 w k o b g n d 0 x A B) : Calls Tryd.prog 13 #[.pointer (some ⟨k, 0, none⟩), .int .i64 d] w fun e w' => e = .returned (.int .i64 0) ∧ TC w0 w' k o b g n d 1 x A B := by
  obtain ⟨S, T, S', T', h, hs, hx, ho⟩ := h
  refine (take_tl h d hd hs).mono ?_
  rintro e w' ⟨rfl, h'⟩
  exact ⟨rfl, _, _, _, _, h', upd_self _ _ _, hx, fun e he hn => by rw [upd_ne _ _ hn]; exact ho e he hn⟩
theorem give_tc {w0 w : World} {k o b g n d : Nat} {x A B : Int} (hd : d < n) (h : TC w0 w k o b g n d 3 x A B) : Calls Tryd.prog 15 #[.pointer (some ⟨k, 0, none⟩), .int .i64 d] w fun e w' => e = .returned (.int .i64 0) ∧ TC w0 w' k o b g n d 4 x A B := by
  obtain ⟨S, T, S', T', h, hs, hx, ho⟩ := h
  refine (give_tl h d hd hs).mono ?_
  rintro e w' ⟨rfl, h'⟩
  exact ⟨rfl, _, _, _, _, h', upd_self _ _ _, hx, fun e he hn => by rw [upd_ne _ _ hn]; exact ho e he hn⟩
theorem step_tc {w0 w : World} {k o b g n d : Nat} {s x A B : Int} (hd : d < n) (h : TC w0 w k o b g n d s x A B) : Calls Tryd.prog 16 #[.pointer (some ⟨k, 0, none⟩), .int .i64 d] w fun e w' => e = .returned (.tuple #[.int .i64 (nS B s x), .int .i64 0]) ∧ TC w0 w' k o b g n d (nS B s x) (nT A s x) (nA A s) (nB B s) := by
  obtain ⟨S, T, S', T', h, hs, hx, ho⟩ := h
  have C := step_tl h d hd
  rw [hs, hx] at C
  refine C.mono ?_
  rintro e w' ⟨rfl, h'⟩
  exact ⟨rfl, _, _, _, _, h', upd_self _ _ _, upd_self _ _ _, fun e he hn => by rw [upd_ne _ _ hn]; exact ho e he hn⟩
set_option maxHeartbeats 4000000 in
theorem walk (a c : Int) (w : World) (hT : TB w) : Calls Tryd.prog 7 #[.int .i64 a, .int .i64 c] w fun e w' => e = .returned (.bool true) ∧ Below w.heap.size w w' := by
  obtain ⟨m, hm, em⟩ := and_low a 63 63 rfl (by decide)
  obtain ⟨q, hq, eq⟩ := and_low c 7 7 rfl (by decide)
  have HN : Hid (_) := new_yes 1 w (by decide) (by decide)
  have HT : Hid (TB w) := hT
  have hp := hT.pos
  clear hT
  go_enter Tryd.func7, Tryd.ntmps7
  go_wp2_with fail
  refine Calls.mono HN.out ?_
  rintro e w1 ⟨b, g, rfl, hM, lb, lg, hb1⟩
  have HM : Hid (MM w1 b g (List.replicate (1 * 256) 0)) := hM
  have HB1 : Hid (Below w.heap.size w w1) := hb1
  clear HN hM hb1
  go_wp2_with fail
  obtain ⟨n, en⟩ : ∃ n : Nat, 1 + (q : Int) = n := ⟨1 + q, by omega⟩
  have hn1 : 1 ≤ n := by omega
  have hn8 : n ≤ 8 := by omega
  rw [en]
  clear en eq em hq
  have hg1 : 1 < g := by omega
  have hTB1 := HT.out.below HB1.out
  refine (new_ok b g _ 0 n w1 HM.out hTB1 hg1 (by simp) ⟨hn1, hn8⟩ (by decide) (by decide) (by simp)).mono ?_
  rintro e w2 ⟨k, rfl, hX2, hk2, hr2⟩
  have HX2 : Hid (LX w2 k b g (splice (List.replicate (1 * 256) 0) (Int.toNat 0) (List.replicate 16 0)) 0 n (fun _ => 0) (fun _ => 0)) := hX2
  have HR2 : Hid (w1.grownBy w2 (some g)) := hr2
  have C2 := new_ok b g (List.replicate 256 0) 16 n w2 (by have := hX2.mm; rwa [splice_zeros _ _ (by decide)] at this) hX2.tb hg1 (by simp) ⟨hn1, hn8⟩ (by decide) (by decide) (by simp)
  clear hX2 hr2 hTB1
  go_wp2_with fail
  refine C2.mono ?_
  rintro e w3 ⟨o, rfl, hX3, hk3, hr3⟩
  obtain ⟨hK, hO, hko, hB3⟩ := made w w1 w2 w3 b g k o n HM.out HB1.out lg HX2.out hk2 HR2.out hX3 hk3 hr3
  have lk : w.heap.size ≤ k := Nat.le_trans HB1.out.size hk2
  have lo : w.heap.size ≤ o := Nat.le_trans HB1.out.size (Nat.le_trans hk2 (by have := HX2.out.lk.lt; omega))
  have D1 := take_lx o b g (List.replicate 256 0) 16 n (fun _ => 0) (fun _ => 0) 0 w3 hO
  have HK : Hid (LX w3 k b g (List.replicate 256 0) 0 n (fun _ => 0) (fun _ => 0)) := hK
  have HB3 : Hid (Below w.heap.size w w3) := hB3
  have HO : Hid (k ≠ o) := hko
  rw [show begE n (fun _ => 0) 0 0 = 0 by simp [begE, hasC]; omega, show begS n (fun _ => (0 : Int)) 0 0 1 = upd (fun _ => 0) 0 1 by simp [begS, hasC]; omega] at D1
  clear C2 hX3 hr3 HX2 HR2 HM HB1 hK hO hB3 hko hk2 hk3
  go_wp2_with fail
  refine D1.mono ?_
  rintro e w4 ⟨rfl, hO4, ht4⟩
  have D2 := Step_yes o b g (List.replicate 256 0) 16 n _ _ 0 w4 hO4 (by omega)
  have HK4 : Hid (Trn (Own o g) w3 w4) := ht4
  clear D1 hO4 ht4
  go_wp2_with fail
  refine D2.mono ?_
  rintro e w5 ⟨rfl, hO5, ht5⟩
  have HZ : Hid (RW w w5 k o b g n 0) := begun w w3 w4 w5 k o b g n hn1 HK.out HO.out HB3.out lk lo lg HK4.out hO5 ht5
  clear D2 hO5 ht5 HK4 HK HB3 HO HT
  go_wp2_with fail
  go_loopw [10] (fun q wr => ∃ j : Nat, j ≤ m ∧ q = .int .i64 j ∧ Hid (RW w wr k o b g n j)) (fun q _ => m - (intOf q).toNat)
  case atStart => exact ⟨0, by omega, rfl, HZ⟩
  case round =>
    obtain ⟨j, hj, rfl, HR⟩ := hrel
    clear HZ
    by_cases hjm : j < m
    · have hjm' : (j : Int) < (m : Int) := by omega
      obtain ⟨S, T, S', T', hL, hS⟩ := HR.out
      obtain ⟨d, hd, ed⟩ : ∃ d : Nat, d < n ∧ (j : Int).tmod (n : Int) = d := ⟨j % n, Nat.mod_lt _ (by omega), by rw [Int.ofNat_tmod]⟩
      have C1 := take_tc hd ⟨S, T, S', T', hL, hS d hd, rfl, fun e he _ => hS e he⟩
      generalize T d = x at C1
      clear hL HR hS
      go_wp2_with fail
      refine C1.mono ?_
      rintro e y1 ⟨rfl, hL1⟩
      have C2 : Calls Tryd.prog 16 #[.pointer (some ⟨k, 0, none⟩), .int .i64 d] y1 fun e w' => e = .returned (.tuple #[.int .i64 2, .int .i64 0]) ∧ TC w w' k o b g n d 2 j (inc j) j := step_tc hd hL1
      clear C1 hL1
      go_wp2_with fail
      refine C2.mono ?_
      rintro e y2 ⟨rfl, hL2⟩
      have C3 := step_tc hd hL2
      rw [show nS (j : Int) 2 j = 3 by simp [nS], show nT (inc j) 2 (j : Int) = j by simp [nT], show nA (inc j) 2 = inc j by simp [nA], show nB (j : Int) 2 = j by simp [nB]] at C3
      clear C2 hL2
      go_wp2_with fail
      refine C3.mono ?_
      rintro e y3 ⟨rfl, hL3⟩
      have C4 := give_tc hd hL3
      clear C3 hL3
      go_wp2_with fail
      refine C4.mono ?_
      rintro e y4 ⟨rfl, hL4⟩
      have C5 : Calls Tryd.prog 16 #[.pointer (some ⟨k, 0, none⟩), .int .i64 d] y4 fun e w' => e = .returned (.tuple #[.int .i64 0, .int .i64 0]) ∧ TC w w' k o b g n d 0 j (inc j) (inc j) := step_tc hd hL4
      clear C4 hL4
      go_wp2_with fail
      refine C5.mono ?_
      rintro e y5 ⟨rfl, hL5⟩
      have HF : Hid (RW w y5 k o b g n (j + 1)) := by
        obtain ⟨S, T, S', T', h, hs, hx, ho⟩ := hL5
        rw [inc_small (by omega) (by omega)] at h
        refine ⟨S, T, S', T', by exact_mod_cast h, fun e he => ?_⟩
        by_cases hed : e = d
        · rw [hed]; exact hs
        · exact ho e he hed
      clear C5 hL5
      go_wp2_with fail
      go_roundw
      case rel => exact ⟨j + 1, by omega, by go_num, HF⟩
      case measure => simp [intOf]; omega
    · have hjm' : (m : Int) ≤ (j : Int) := by omega
      obtain rfl : j = m := by omega
      obtain ⟨S, T, S', T', hL, hS⟩ := HR.out
      have C1 := load_tl hL 0 j (by simp)
      clear hL HR
      go_wp2_with fail
      refine C1.mono ?_
      rintro e y1 ⟨rfl, hL1⟩
      have C2 := load_tl hL1 8 j (by simp)
      clear C1 hL1
      go_wp2_with fail
      refine C2.mono ?_
      rintro e y2 ⟨rfl, hL2⟩
      have C3 := load_tl hL2 16 1 (by simp)
      clear C2 hL2
      go_wp2_with fail
      refine C3.mono ?_
      rintro e y3 ⟨rfl, hL3⟩
      have C4 := load_tl hL3 24 0 (by simp)
      clear C3 hL3
      go_wp2_with fail
      refine C4.mono ?_
      rintro e y4 ⟨rfl, hL4⟩
      have C5 := last_tl hL4
      clear C4 hL4
      go_wp2_with fail
      refine C5.mono ?_
      rintro e y5 ⟨rfl, hB⟩
      clear C5
      go_wp2_with fail
      go_ret
      exact ⟨ret_bool (by simp), hB⟩
end ticketCounts
end Go.Proofs.YtioanbdmkiphfaaDoor
