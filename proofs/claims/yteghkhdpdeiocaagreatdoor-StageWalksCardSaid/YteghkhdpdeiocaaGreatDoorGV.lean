/-
  What isMade, isOwner, isFrame, isAtQuota, check, checkLoose, Count and Quota do.
  What least and pass do.
  What Alloc, Hold, Free, Move and Quota do.
-/
import Derived.Test.YteghkhdpdeiocaaGreatDoorBase
import Derived.Laws.Closers25b
import Derived.WalkSpells
namespace Go.Proofs.YteghkhdpdeiocaaGreatDoor
open Go.RowKit
set_option linter.unusedVariables false
set_option maxRecDepth 100000

section
variable {B : Nat → Prop} {w : World} {D r s : Nat} {S : Fs} {C : Nat → Nat}
theorem made_fr (h : FR B w D r S C s) : Calls Tryz.prog 43 #[.pointer (some ⟨D, 0, none⟩)] w fun e w' => e = .returned (.bool true) ∧ w' = w := by
  have c0 := h.ob.c0
  have hl := h.ob.lt
  have n1 := h.ok.n1
  clear h
  go_enter Tryz.func43, Tryz.ntmps43
  go_wp2
  go_ret
  first
    | exact ⟨rfl, rfl⟩
    | exact ⟨ret_bool (by simp; omega), rfl⟩
end
/-- what no call made -/
def UN (w : World) (p : Value) : Prop := p = .pointer none ∨ ∃ b, p = .pointer (some ⟨b, 0, none⟩) ∧ b < w.heap.size ∧ w.cell? ⟨b, 0, none⟩ = some (.slice none 0 0)
theorem UN.below {w w' : World} {p : Value} (h : UN w p) (hk : Below w.heap.size w w') : UN w' p := by
  rcases h with h | ⟨b, rfl, hlt, hc⟩
  · exact .inl h
  · exact .inr ⟨b, rfl, Nat.lt_of_lt_of_le hlt hk.size, ((fbcell hk).1 b 0 hlt).trans hc⟩
theorem made_un {p : Value} {w : World} (h : UN w p) : Calls Tryz.prog 43 #[p] w fun e w' => e = .returned (.bool false) ∧ w' = w := by
  rcases h with rfl | ⟨b, rfl, hlt, hc⟩
  all_goals
    go_enter Tryz.func43, Tryz.ntmps43
    go_wp2
    go_ret
    exact ⟨rfl, rfl⟩
theorem isowner (o : Int) (w : World) : Calls Tryz.prog 66 #[.int .i64 o] w fun e w' => e = .returned (.bool (decide (isO o))) ∧ w' = w := by
  by_cases h0 : 0 ≤ o
  · by_cases h1 : o ≤ 16
    · rw [decide_eq_true (show isO o from ⟨h0, h1⟩)]
      go_enter Tryz.func66, Tryz.ntmps66
      go_wp2
      go_ret
      exact ⟨rfl, rfl⟩
    · rw [decide_eq_false (show ¬ isO o from fun e => h1 e.2)]
      go_enter Tryz.func66, Tryz.ntmps66
      go_wp2
      go_ret
      exact ⟨rfl, rfl⟩
  · rw [decide_eq_false (show ¬ isO o from fun e => h0 e.1)]
    go_enter Tryz.func66, Tryz.ntmps66
    go_wp2
    go_ret
    exact ⟨rfl, rfl⟩
section
variable {B : Nat → Prop} {w : World} {D r s : Nat} {S : Fs} {C : Nat → Nat}
theorem isframe (h : FR B w D r S C s) (f : Int) : Calls Tryz.prog 44 #[.pointer (some ⟨D, 0, none⟩), .int .i64 f] w fun e w' => e = .returned (.bool (decide (0 ≤ f ∧ f < S.n))) ∧ w' = w := by
  have c0 := h.ob.c0
  have hl := h.ob.lt
  have n2 := h.ok.n2
  clear h
  by_cases h0 : 0 ≤ f
  · by_cases h1 : f < S.n
    · rw [decide_eq_true (show 0 ≤ f ∧ f < S.n from ⟨h0, h1⟩)]
      go_enter Tryz.func44, Tryz.ntmps44
      go_wp2
      go_ret
      first
        | exact ⟨rfl, rfl⟩
        | exact ⟨ret_bool (by simp; omega), rfl⟩
    · rw [decide_eq_false (show ¬ (0 ≤ f ∧ f < S.n) from fun e => h1 e.2)]
      have h1' : (S.n : Int) ≤ f := by omega
      go_enter Tryz.func44, Tryz.ntmps44
      go_wp2
      go_ret
      first
        | exact ⟨rfl, rfl⟩
        | exact ⟨ret_bool (by simp; omega), rfl⟩
  · rw [decide_eq_false (show ¬ (0 ≤ f ∧ f < S.n) from fun e => h0 e.1)]
    go_enter Tryz.func44, Tryz.ntmps44
    go_wp2
    go_ret
    exact ⟨rfl, rfl⟩
theorem below_drewN {B : Nat} {W w : World} (h : Below B W w) : ∀ n, Below B W (w.drewN n) := fun n => ⟨h.os, h.tape, h.output, h.size, h.block⟩
theorem atquota (h : FR B w D r S C s) (a : Nat) (ha : a ≤ 16) : Calls Tryz.prog 67 #[.pointer (some ⟨D, 0, none⟩), .int .i64 a] w fun e w' => e = .returned (.bool (decide (S.qu a ≤ S.ct a))) ∧ Below w.heap.size w w' := by
  have c := h.ob.cc (k := a) (by omega)
  have q := h.ob.cq (k := a) (by omega)
  have hl := h.ob.lt
  have ha' : (a : Int) < 17 := by omega
  clear h
  go_enter Tryz.func67, Tryz.ntmps67
  go_wp2_with fail
  go_quiet (fail)
  go_wp2_with fail
  go_ret
  exact ⟨rfl, below_drewN (Below.refl _ _) _⟩
theorem check_fr (h : FR B w D r S C s) (f o b : Int) : Calls Tryz.prog 84 #[.pointer (some ⟨D, 0, none⟩), .int .i64 f, .int .i64 o, .int .i64 b] w fun e w' => e = .returned (.int .i64 (errC S f o b)) ∧ w' = w := by
  have c0 := h.ob.c0
  have hl := h.ob.lt
  have n2 := h.ok.n2
  have M := made_fr h
  have O1 := isowner o w
  have O2 := isowner b w
  have F := isframe h f
  unfold errC
  by_cases h1 : isO o
  · rw [decide_eq_true h1] at O1
    by_cases h2 : isO b
    · rw [decide_eq_true h2] at O2
      by_cases h3 : 0 ≤ f ∧ f < S.n
      · rw [decide_eq_true h3] at F
        rw [if_pos ⟨h1, h2, h3⟩]
        obtain ⟨i, rfl⟩ : ∃ i : Nat, f = i := ⟨f.toNat, by omega⟩
        obtain ⟨a, rfl⟩ : ∃ a : Nat, o = a := ⟨o.toNat, by have := h1.1; omega⟩
        have hi : i < S.n := by omega
        have ha : a ≤ 16 := by have := h1.2; omega
        have cr := h.row.c hi
        have hrl := h.row.lt
        have lk := h.look hi ha
        have tt := h.ok.t i hi
        simp only [Int.toNat_natCast]
        have ev : (decide (lkS S i a = 0)) = !decide ((S.cl i : Int) = a) := by
          unfold lkS
          by_cases e : S.cl i = a
          · rw [if_pos e]
            have := tt.2 (by omega)
            simp [e]
            omega
          · rw [if_neg e]
            simp
            omega
        clear h tt h3
        by_cases e : (S.cl i : Int) = a
        · rw [if_pos e]
          rw [decide_eq_true e] at ev
          have e0 : lkS S i a ≠ 0 := by simpa using ev
          clear ev e
          generalize lkS S i a = x at *
          go_enter Tryz.func84, Tryz.ntmps84
          go_wp2_with fail
          refine M.mono ?_
          rintro e w ⟨rfl, rfl⟩
          go_wp2_with fail
          refine O1.mono ?_
          rintro e w ⟨rfl, rfl⟩
          go_wp2_with fail
          refine O2.mono ?_
          rintro e w ⟨rfl, rfl⟩
          go_wp2_with fail
          refine F.mono ?_
          rintro e w ⟨rfl, rfl⟩
          go_wp2_with fail
          go_ret
          exact ⟨rfl, rfl⟩
        · rw [if_neg e]
          rw [decide_eq_false e] at ev
          have e0 : lkS S i a = 0 := by simpa using ev
          rw [e0] at lk
          clear ev e
          go_enter Tryz.func84, Tryz.ntmps84
          go_wp2_with fail
          refine M.mono ?_
          rintro e w ⟨rfl, rfl⟩
          go_wp2_with fail
          refine O1.mono ?_
          rintro e w ⟨rfl, rfl⟩
          go_wp2_with fail
          refine O2.mono ?_
          rintro e w ⟨rfl, rfl⟩
          go_wp2_with fail
          refine F.mono ?_
          rintro e w ⟨rfl, rfl⟩
          go_wp2_with fail
          go_ret
          exact ⟨rfl, rfl⟩
      · rw [decide_eq_false h3] at F
        rw [if_neg (fun e => h3 e.2.2)]
        clear h h3
        go_enter Tryz.func84, Tryz.ntmps84
        go_wp2_with fail
        refine M.mono ?_
        rintro e w ⟨rfl, rfl⟩
        go_wp2_with fail
        refine O1.mono ?_
        rintro e w ⟨rfl, rfl⟩
        go_wp2_with fail
        refine O2.mono ?_
        rintro e w ⟨rfl, rfl⟩
        go_wp2_with fail
        refine F.mono ?_
        rintro e w ⟨rfl, rfl⟩
        go_wp2_with fail
        go_ret
        exact ⟨rfl, rfl⟩
    · rw [decide_eq_false h2] at O2
      rw [if_neg (fun e => h2 e.2.1)]
      clear h h2
      go_enter Tryz.func84, Tryz.ntmps84
      go_wp2_with fail
      refine M.mono ?_
      rintro e w ⟨rfl, rfl⟩
      go_wp2_with fail
      refine O1.mono ?_
      rintro e w ⟨rfl, rfl⟩
      go_wp2_with fail
      refine O2.mono ?_
      rintro e w ⟨rfl, rfl⟩
      go_wp2_with fail
      go_ret
      exact ⟨rfl, rfl⟩
  · rw [decide_eq_false h1] at O1
    rw [if_neg (fun e => h1 e.1)]
    clear h h1
    go_enter Tryz.func84, Tryz.ntmps84
    go_wp2_with fail
    refine M.mono ?_
    rintro e w ⟨rfl, rfl⟩
    go_wp2_with fail
    refine O1.mono ?_
    rintro e w ⟨rfl, rfl⟩
    go_wp2_with fail
    go_ret
    exact ⟨rfl, rfl⟩
theorem loose_fr (h : FR B w D r S C s) (f o b : Int) : Calls Tryz.prog 87 #[.pointer (some ⟨D, 0, none⟩), .int .i64 f, .int .i64 o, .int .i64 b] w fun e w' => e = .returned (.int .i64 (errL S f o b)) ∧ w' = w := by
  have c1 := h.ob.c1
  have hl := h.ob.lt
  have n2 := h.ok.n2
  have nf := h.ok.f
  have K := check_fr h f o b
  clear h
  unfold errL
  by_cases e0 : errC S f o b = 0
  · rw [e0] at K
    rw [if_pos e0]
    by_cases e1 : f < S.fi
    · rw [if_pos e1]
      go_enter Tryz.func87, Tryz.ntmps87
      go_wp2_with fail
      refine K.mono ?_
      rintro e w ⟨rfl, rfl⟩
      go_wp2_with fail
      go_ret
      exact ⟨rfl, rfl⟩
    · rw [if_neg e1]
      go_enter Tryz.func87, Tryz.ntmps87
      go_wp2_with fail
      refine K.mono ?_
      rintro e w ⟨rfl, rfl⟩
      go_wp2_with fail
      go_ret
      exact ⟨rfl, rfl⟩
  · rw [if_neg e0]
    generalize errC S f o b = x at *
    go_enter Tryz.func87, Tryz.ntmps87
    go_wp2_with fail
    refine K.mono ?_
    rintro e w ⟨rfl, rfl⟩
    go_wp2_with fail
    go_ret
    exact ⟨rfl, rfl⟩
theorem count_fr (h : FR B w D r S C s) (o : Int) : Calls Tryz.prog 32 #[.pointer (some ⟨D, 0, none⟩), .int .i64 o] w fun e w' => e = .returned (.tuple #[.int .i64 (own S o), .int .i64 (S.ct 17)]) ∧ Below w.heap.size w w' := by
  have hl := h.ob.lt
  have c17 := h.ob.cc (k := 17) (by decide)
  have M := made_fr h
  have O := isowner o w
  unfold own
  by_cases h1 : isO o
  · rw [decide_eq_true h1] at O
    rw [if_pos h1]
    obtain ⟨a, rfl⟩ : ∃ a : Nat, o = a := ⟨o.toNat, by have := h1.1; omega⟩
    have ha : (a : Int) < 17 := by have := h1.2; omega
    have ca := h.ob.cc (k := a) (by omega)
    simp only [Int.toNat_natCast]
    clear h h1
    go_enter Tryz.func32, Tryz.ntmps32
    go_wp2_with fail
    refine M.mono ?_
    rintro e w ⟨rfl, rfl⟩
    go_wp2_with fail
    refine O.mono ?_
    rintro e w ⟨rfl, rfl⟩
    go_wp2_with fail
    go_quiet (fail)
    go_wp2_with fail
    go_ret2
    exact ⟨rfl, below_drewN (Below.refl _ _) _⟩
  · rw [decide_eq_false h1] at O
    rw [if_neg h1]
    clear h h1
    go_enter Tryz.func32, Tryz.ntmps32
    go_wp2_with fail
    refine M.mono ?_
    rintro e w ⟨rfl, rfl⟩
    go_wp2_with fail
    refine O.mono ?_
    rintro e w ⟨rfl, rfl⟩
    go_wp2_with fail
    go_quiet (fail)
    go_wp2_with fail
    go_ret2
    exact ⟨rfl, below_drewN (Below.refl _ _) _⟩
end
end Go.Proofs.YteghkhdpdeiocaaGreatDoor
namespace Go.Proofs.YteghkhdpdeiocaaGreatDoor
open Go.RowKit Go.ChangeMaps
set_option linter.unusedVariables false
set_option maxRecDepth 100000

section
variable {B : Nat → Prop} {w w' : World} {D r s : Nat} {S : Fs} {C : Nat → Nat}
/-- a world that differs in the block of 38 cells alone -/
theorem FR.turn {s' : Nat} (h : FR B w D r S C s) (t : Trn (fun b => b = D) w w') (ho : OB w' D r S.n S.fi s' (fun k => (S.ct k : Int)) S.qu) (h1 : s' < S.n) (h2 : ∀ i, i < s' → S.cl i ≠ 17) : FR B w' D r S C s' :=
  ⟨ho, h.row.keep (t.block r h.row.lt (Ne.symm h.ne)), fun i hi hc => (h.mp i hi hc).keep (t.block _ (h.mp i hi hc).lt (h.mne hi hc).1), h.inj, h1, h2, h.ok, h.lo⟩
theorem FR.tuD (h : FR B w D r S C s) (t : Trn (fun b => b = D) w w') : Tu Of B w w' := Tu.of_trn t fun k e => by
  subst e
  obtain ⟨cs, h1, _⟩ := h.ob.blk
  exact ⟨h.lo.1, fun o ho => by rw [h1] at ho; cases ho; exact .inl rfl⟩
theorem mv_nil {cl C : Nat → Nat} {i : Nat} (h : cl i = 17) : mv cl C i = .map none := by simp [mv, h]
theorem mv_map {cl C : Nat → Nat} {i : Nat} (h : cl i ≠ 17) : mv cl C i = .map (some (C i)) := by simp [mv, h]
theorem least_fr (h : FR B w D r S C s) (h0 : 0 < S.ct 17) : Calls Tryz.prog 68 #[.pointer (some ⟨D, 0, none⟩)] w fun e w' => e = .returned (.int .i64 S.lst) ∧ FR B w' D r S C S.lst ∧ Tu Of B w w' := by
  obtain ⟨l1, l2, l3⟩ := S.lst_of h0
  have hs : s ≤ S.lst := by
    rcases Nat.lt_or_ge S.lst s with h1 | h1
    · exact absurd l2 (h.s2 _ h1)
    · exact h1
  have hn2 := h.ok.n2
  generalize hL : S.lst = L at *
  have q0 : ∀ w : World, (binOp .neq 108 (.map none) (.map none)).run Tryz.prog w = .ok (.bool false) w := fun w => by simpa using run_neq_map_nil w 108 3 3 none Tryz.underlying108
  have q1 : ∀ (w : World) (m : Nat), (binOp .neq 108 (.map (some m)) (.map none)).run Tryz.prog w = .ok (.bool true) w := fun w m => by simpa using run_neq_map_nil w 108 3 3 (some m) Tryz.underlying108
  have HF : Hid (FR B w D r S C s) := h
  have H3 : Hid (∀ i, i < L → S.cl i ≠ 17) := l3
  clear h l3
  go_enter Tryz.func68, Tryz.ntmps68
  go_wp2_with fail
  go_loopw [14] (fun _ wr => ∃ s', s' ≤ L ∧ Hid (FR B wr D r S C s' ∧ Tu Of B w wr)) (fun _ wr => L - (match wr.cell? ⟨D, 2, none⟩ with | some (.int _ x) => x.toNat | _ => 0))
  case atStart => exact ⟨s, hs, HF.out, Tu.refl _ _ _⟩
  case round =>
    obtain ⟨s', hs', HJ⟩ := hrel
    have c0 := HJ.out.1.ob.c0
    have c2 := HJ.out.1.ob.c2
    have f2 := HJ.out.1.ob.fz 2
    have hl := HJ.out.1.ob.lt
    have hrl := HJ.out.1.row.lt
    have cr := HJ.out.1.row.c (i := s') (by omega)
    have hsn : (s' : Int) < S.n := by omega
    by_cases e : s' = L
    · subst e
      rw [mv_nil l2] at cr
      go_wp2_with fail
      go_quiet (fail)
      go_wp2_with fail
      go_ret
      exact ⟨rfl, HJ.out.1.below (below_drewN (Below.refl _ _) _), HJ.out.2.trans (Tu.of_below (below_drewN (Below.refl _ _) _))⟩
    · rw [mv_map (H3.out s' (by omega))] at cr
      have hs2 : s' + 1 ≤ L := by omega
      have HS : Hid (∀ x : World, Below wr.heap.size wr x → FR B (x.setCell ⟨D, 2, none⟩ (.int .i64 ((s' + 1 : Nat) : Int))) D r S C (s' + 1) ∧ Tu Of B w (x.setCell ⟨D, 2, none⟩ (.int .i64 ((s' + 1 : Nat) : Int)))) := fun x hx => by
        have hf := HJ.out.1.below hx
        obtain ⟨o1, o2⟩ := hf.ob.setS (s' + 1)
        exact ⟨hf.turn o2 o1 (by omega) (fun i hi => H3.out i (by omega)), (HJ.out.2.trans (Tu.of_below hx)).trans (hf.tuD o2)⟩
      go_wp2_with fail
      go_quiet (fail)
      go_wp2_with fail
      go_roundw
      case rel => exact ⟨s' + 1, hs2, HS.out _ (below_drewN (Below.refl _ _) _)⟩
      case measure =>
        have e1 := (HS.out _ (below_drewN (Below.refl _ _) nq)).1.ob.c2
        rw [show (((s' + 1 : Nat) : Nat) : Int) = (s' : Int) + 1 from rfl] at e1
        rw [e1, c2]
        show L - Int.toNat _ < L - Int.toNat _
        omega
/-- the plain end of pass -/
theorem set_ct (S : Fs) {i b t : Nat} (hi : i < S.n) (hb : b ≠ S.cl i) (k : Nat) : (((S.set i b t).ct k : Nat) : Int) = upd (upd (fun k => (S.ct k : Int)) (S.cl i) (S.ct (S.cl i) - 1)) b (S.ct b + 1) k := by
  have h := cn_upd S.cl S.n k i b hi
  have hp := cn_pos S.cl S.n i hi
  show ((cn (upd S.cl i b) S.n k : Nat) : Int) = _
  unfold Fs.ct upd at *
  by_cases e1 : k = b
  · subst e1
    rw [if_pos rfl]
    rw [if_neg (Ne.symm hb), if_pos rfl] at h
    omega
  · rw [if_neg e1]
    rw [if_neg (Ne.symm e1)] at h
    by_cases e2 : k = S.cl i
    · rw [if_pos e2]
      rw [if_pos e2.symm] at h
      rw [← e2]
      omega
    · rw [if_neg e2]
      rw [if_neg (Ne.symm e2)] at h
      show ((_ : Nat) : Int) = ((cn S.cl S.n k : Nat) : Int)
      omega
/-- the row and a map more: a frame given -/
theorem FR.give (h : FR B w D r S C s) {i b : Nat} (hi : i < S.n) (hb : b ≠ S.cl i) (hb1 : b ≤ 16) {w2 w3 : World} {m : Nat} (t : Trn (fun k => k = D ∨ k = r) w w3)
    (ho : OB w3 D r S.n S.fi s (upd (upd (fun k => (S.ct k : Int)) (S.cl i) (S.ct (S.cl i) - 1)) b (S.ct b + 1)) S.qu) (hr : RB w3 r S.n (upd S.cl i b) (upd C i m)) (hm : M1 w3 m b 1) (hlt : w.heap.size ≤ m) (hB : ∀ k, w.heap.size ≤ k → ¬ B k) : FX B w3 D (S.set i b 1) ∧ Tu Of B w w3 := by
  obtain ⟨l1, l2, l3⟩ := h.lo
  refine ⟨⟨r, upd C i m, s, ho.congr (fun k _ => (set_ct S hi hb k).symm) (fun _ _ => rfl), hr, fun j hj hc => ?_, fun j k hj hk cj ck e => ?_, h.s1, fun j hj => ?_, h.ok.set (by omega) ⟨by omega, fun _ => ⟨by omega, by omega⟩⟩, ⟨l1, l2, fun j hj hc => ?_⟩⟩, ?_⟩
  · show M1 w3 (upd C i m j) (upd S.cl i b j) (upd S.ti i 1 j)
    by_cases e : j = i
    · subst e; rw [upd_self, upd_self, upd_self]; exact hm
    · have hc' : S.cl j ≠ 17 := by
        have : upd S.cl i b j ≠ 17 := hc
        rwa [upd_other _ _ _ e] at this
      rw [upd_other _ _ _ e, upd_other _ _ _ e, upd_other _ _ _ e]
      have hne := h.mne hj hc'
      exact (h.mp j hj hc').keep (t.block _ (h.mp j hj hc').lt (by rintro (e1 | e1); exact hne.1 e1; exact hne.2 e1))
  · have cj : upd S.cl i b j ≠ 17 := cj
    have ck : upd S.cl i b k ≠ 17 := ck
    have hj : j < S.n := hj
    have hk : k < S.n := hk
    by_cases e1 : j = i
    · by_cases e2 : k = i
      · omega
      · rw [e1, upd_self, upd_other _ _ _ e2] at e
        rw [upd_other _ _ _ e2] at ck
        have := (h.mp k hk ck).lt
        omega
    · rw [upd_other _ _ _ e1] at e cj
      by_cases e2 : k = i
      · rw [e2, upd_self] at e
        have := (h.mp j hj cj).lt
        omega
      · rw [upd_other _ _ _ e2] at e ck
        exact h.inj j k hj hk cj ck e
  · show upd S.cl i b j ≠ 17
    by_cases e : j = i
    · subst e; rw [upd_self]; omega
    · rw [upd_other _ _ _ e]; exact h.s2 j hj
  · have hc : upd S.cl i b j ≠ 17 := hc
    have hj : j < S.n := hj
    by_cases e : j = i
    · subst e; rw [upd_self]; exact hB m hlt
    · rw [upd_other _ _ _ e] at hc ⊢
      exact l3 j hj hc
  · refine Tu.of_trn t fun k e => ?_
    rcases e with rfl | rfl
    · obtain ⟨cs, h1, _⟩ := h.ob.blk
      exact ⟨l1, fun o ho => by rw [h1] at ho; cases ho; exact .inl rfl⟩
    · obtain ⟨cs, h1, _⟩ := h.row.blk
      exact ⟨l2, fun o ho => by rw [h1] at ho; cases ho; exact .inr rfl⟩
theorem pass_give (h : FR B w D r S C s) {i b : Nat} (hi : i < S.n) (hb : b ≠ S.cl i) (hb1 : b ≤ 16) (hB : ∀ k, w.heap.size ≤ k → ¬ B k) : Calls Tryz.prog 45 #[.pointer (some ⟨D, 0, none⟩), .int .i64 i, .int .i64 (S.cl i), .int .i64 b] w fun e w' => e = .returned (.tuple #[]) ∧ FX B w' D (S.set i b 1) ∧ Tu Of B w w' := by
  have hc := h.ok.c i
  have hca : ((S.cl i : Nat) : Int) < 18 := by omega
  have hcb : (b : Int) < 18 := by omega
  have hi' : (i : Int) < S.n := by omega
  have ca := h.ob.cc (k := S.cl i) (by omega)
  have fa := h.ob.fz (3 + S.cl i)
  have hl := h.ob.lt
  have hp := cn_pos S.cl S.n i hi
  have hle := cn_le S.cl S.n (S.cl i)
  have hle2 := cn_le S.cl S.n b
  have hn2 := h.ok.n2
  have hct : (0 : Int) < S.ct (S.cl i) := by unfold Fs.ct; omega
  have hct2 : ((S.ct (S.cl i) : Nat) : Int) ≤ 65536 := by unfold Fs.ct; omega
  have hct3 : ((S.ct b : Nat) : Int) ≤ 65536 := by unfold Fs.ct; omega
  have HF : Hid (∀ w3 m, Trn (fun k => k = D ∨ k = r) w w3 → OB w3 D r S.n S.fi s (upd (upd (fun k => (S.ct k : Int)) (S.cl i) (S.ct (S.cl i) - 1)) b (S.ct b + 1)) S.qu → RB w3 r S.n (upd S.cl i b) (upd C i m) → M1 w3 m b 1 → w.heap.size ≤ m → FX B w3 D (S.set i b 1) ∧ Tu Of B w w3) := fun w3 m t ho hr hm hlt => h.give hi hb hb1 (w2 := w3) t ho hr hm hlt hB
  have hmm : ∀ w : World, (Instr.makeMap 108 none).run Tryz.prog w = .ok (.map (some w.heap.size)) (w.alloc (.map #[] 0)) := fun w => by kernel_rfl
  have hmk : ∀ x : World, (Instr.mapUpdate 108 (.map (some x.heap.size)) (.int .i64 b) (.int .i64 1)).run Tryz.prog (x.alloc (.map #[] 0)) = .ok () (x.alloc (.map #[⟨.int .i64 b, .int .i64 1, 0⟩] 1)) := fun x => make_one x b 1
  have R0 := h.row
  have O0 := h.ob
  have hne := h.ne
  clear h hp hle hle2
  generalize ha : S.cl i = a at *
  go_enter Tryz.func45, Tryz.ntmps45
  go_wp2_with fail
  go_region
  obtain ⟨o1, t1⟩ := O0.setC (k := a) (by omega) (S.ct a - 1)
  have O1 : OB (w.setCell ⟨D, 3 + a, none⟩ (.int .i64 (S.ct a - 1))).drew D r S.n S.fi s (upd (fun k => (S.ct k : Int)) a (S.ct a - 1)) S.qu := o1.keep rfl
  have T1 : Trn (fun k => k = D) w (w.setCell ⟨D, 3 + a, none⟩ (.int .i64 (S.ct a - 1))).drew := t1.drew
  have R1 := R0.keep (T1.block r R0.lt (Ne.symm hne))
  clear o1 t1 ca fa hl O0
  generalize (w.setCell ⟨D, 3 + a, none⟩ (.int .i64 (S.ct a - 1))).drew = w1 at *
  have cb := O1.cc (k := b) (by omega)
  rw [upd_other _ _ _ hb] at cb
  have fb := O1.fz (3 + b)
  have hl := O1.lt
  go_wp2_with fail
  go_region
  obtain ⟨o1, t1⟩ := O1.setC (k := b) (by omega) (S.ct b + 1)
  have O2 : OB (w1.setCell ⟨D, 3 + b, none⟩ (.int .i64 (S.ct b + 1))).drew D r S.n S.fi s (upd (upd (fun k => (S.ct k : Int)) a (S.ct a - 1)) b (S.ct b + 1)) S.qu := o1.keep rfl
  have T2 : Trn (fun k => k = D) w (w1.setCell ⟨D, 3 + b, none⟩ (.int .i64 (S.ct b + 1))).drew := T1.trans t1.drew
  have R2 := R0.keep (T2.block r R0.lt (Ne.symm hne))
  clear o1 t1 cb fb hl O1 T1 R1 R0
  generalize (w1.setCell ⟨D, 3 + b, none⟩ (.int .i64 (S.ct b + 1))).drew = w2 at *
  have c0 := O2.c0
  have hl := O2.lt
  have hrl := R2.lt
  have cr := R2.c hi
  have fr := R2.fz i
  have HE : Hid (FX B ((w2.setCell ⟨r, i, none⟩ (.map (some w2.heap.size))).alloc (.map #[⟨.int .i64 b, .int .i64 1, 0⟩] 1)) D (S.set i b 1) ∧ Tu Of B w ((w2.setCell ⟨r, i, none⟩ (.map (some w2.heap.size))).alloc (.map #[⟨.int .i64 b, .int .i64 1, 0⟩] 1))) := by
    obtain ⟨r1, t1⟩ := R2.set hi b w2.heap.size (.map (some w2.heap.size)) (by rw [if_neg (by omega)])
    have hsz : (w2.setCell ⟨r, i, none⟩ (.map (some w2.heap.size))).heap.size = w2.heap.size := by simp
    have hal := heap_alloc_at (w2.setCell ⟨r, i, none⟩ (.map (some w2.heap.size))) (.map #[⟨.int .i64 b, .int .i64 1, 0⟩] 1)
    rw [hsz] at hal
    have A : Below w2.heap.size (w2.setCell ⟨r, i, none⟩ (.map (some w2.heap.size))) ((w2.setCell ⟨r, i, none⟩ (.map (some w2.heap.size))).alloc (.map #[⟨.int .i64 b, .int .i64 1, 0⟩] 1)) := (Below.refl _ _).alloc (Nat.le_of_eq hsz.symm) _
    refine HF.out _ w2.heap.size (((T2.mono (fun k _ e => .inl e)).trans (t1.mono (fun k _ e => .inr e))).trans (Trn.of_below (hsz.symm ▸ A))) ((O2.keep (t1.block D hl hne)).keep (A.block D hl)) (r1.keep (A.block r hrl)) ⟨0, 1, hal, by omega⟩ T2.size
  clear O2 T2 R2 HF
  go_wp2_with fail
  exact bodyPost_end (v := .tuple #[]) (by simp [results, Tryz.results45]) rfl ⟨rfl, HE.out⟩
/-- a frame that is nobody's now -/
theorem FR.free (h : FR B w D r S C s) {i : Nat} (hi : i < S.n) (hb : 17 ≠ S.cl i) {w3 : World} (t : Trn (fun k => k = D ∨ k = r) w w3)
    (ho : OB w3 D r S.n S.fi (min s i) (upd (upd (fun k => (S.ct k : Int)) (S.cl i) (S.ct (S.cl i) - 1)) 17 (S.ct 17 + 1)) S.qu) (hr : RB w3 r S.n (upd S.cl i 17) (upd C i 0)) : FX B w3 D (S.set i 17 0) ∧ Tu Of B w w3 := by
  obtain ⟨l1, l2, l3⟩ := h.lo
  have old : ∀ j, upd S.cl i 17 j ≠ 17 → j ≠ i ∧ S.cl j ≠ 17 := fun j hj => by
    have hji : j ≠ i := fun e => hj (by rw [e, upd_self])
    exact ⟨hji, by rwa [upd_other _ _ _ hji] at hj⟩
  refine ⟨⟨r, upd C i 0, min s i, ho.congr (fun k _ => (set_ct S hi hb k).symm) (fun _ _ => rfl), hr, fun j hj hc => ?_, fun j k hj hk cj ck e => ?_, ?_, fun j hj => ?_, h.ok.set (by omega) ⟨fun _ => rfl, fun h => absurd rfl h⟩, ⟨l1, l2, fun j hj hc => ?_⟩⟩, ?_⟩
  · obtain ⟨e, hc'⟩ := old j hc
    show M1 w3 (upd C i 0 j) (upd S.cl i 17 j) (upd S.ti i 0 j)
    rw [upd_other _ _ _ e, upd_other _ _ _ e, upd_other _ _ _ e]
    have hne := h.mne hj hc'
    exact (h.mp j hj hc').keep (t.block _ (h.mp j hj hc').lt (by rintro (e1 | e1); exact hne.1 e1; exact hne.2 e1))
  · obtain ⟨e1, cj'⟩ := old j cj
    obtain ⟨e2, ck'⟩ := old k ck
    rw [upd_other _ _ _ e1, upd_other _ _ _ e2] at e
    exact h.inj j k hj hk cj' ck' e
  · have := h.s1
    show min s i < S.n
    omega
  · show upd S.cl i 17 j ≠ 17
    rw [upd_other _ _ _ (by omega)]
    exact h.s2 j (by omega)
  · obtain ⟨e, hc'⟩ := old j hc
    rw [upd_other _ _ _ e]
    exact l3 j hj hc'
  · refine Tu.of_trn t fun k e => ?_
    rcases e with rfl | rfl
    · obtain ⟨cs, h1, _⟩ := h.ob.blk
      exact ⟨l1, fun o ho => by rw [h1] at ho; cases ho; exact .inl rfl⟩
    · obtain ⟨cs, h1, _⟩ := h.row.blk
      exact ⟨l2, fun o ho => by rw [h1] at ho; cases ho; exact .inr rfl⟩
theorem pass_free (h : FR B w D r S C s) {i : Nat} (hi : i < S.n) (hb : 17 ≠ S.cl i) : Calls Tryz.prog 45 #[.pointer (some ⟨D, 0, none⟩), .int .i64 i, .int .i64 (S.cl i), .int .i64 17] w fun e w' => e = .returned (.tuple #[]) ∧ FX B w' D (S.set i 17 0) ∧ Tu Of B w w' := by
  have hc := h.ok.c i
  have hca : ((S.cl i : Nat) : Int) < 18 := by omega
  have hi' : (i : Int) < S.n := by omega
  have ca := h.ob.cc (k := S.cl i) (by omega)
  have fa := h.ob.fz (3 + S.cl i)
  have hl := h.ob.lt
  have hp := cn_pos S.cl S.n i hi
  have hle := cn_le S.cl S.n (S.cl i)
  have hle2 := cn_le S.cl S.n 17
  have hn2 := h.ok.n2
  have hs1 := h.s1
  have hct : (0 : Int) < S.ct (S.cl i) := by unfold Fs.ct; omega
  have hct2 : ((S.ct (S.cl i) : Nat) : Int) ≤ 65536 := by unfold Fs.ct; omega
  have hct3 : ((S.ct 17 : Nat) : Int) ≤ 65536 := by unfold Fs.ct; omega
  have HF : Hid (∀ w3, Trn (fun k => k = D ∨ k = r) w w3 → OB w3 D r S.n S.fi (min s i) (upd (upd (fun k => (S.ct k : Int)) (S.cl i) (S.ct (S.cl i) - 1)) 17 (S.ct 17 + 1)) S.qu → RB w3 r S.n (upd S.cl i 17) (upd C i 0) → FX B w3 D (S.set i 17 0) ∧ Tu Of B w w3) := fun w3 t ho hr => h.free hi hb t ho hr
  have R0 := h.row
  have O0 := h.ob
  have hne := h.ne
  clear h hp hle hle2
  generalize ha : S.cl i = a at *
  go_enter Tryz.func45, Tryz.ntmps45
  go_wp2_with fail
  go_region
  obtain ⟨o1, t1⟩ := O0.setC (k := a) (by omega) (S.ct a - 1)
  have O1 : OB (w.setCell ⟨D, 3 + a, none⟩ (.int .i64 (S.ct a - 1))).drew D r S.n S.fi s (upd (fun k => (S.ct k : Int)) a (S.ct a - 1)) S.qu := o1.keep rfl
  have T1 : Trn (fun k => k = D) w (w.setCell ⟨D, 3 + a, none⟩ (.int .i64 (S.ct a - 1))).drew := t1.drew
  clear o1 t1 ca fa hl O0
  generalize (w.setCell ⟨D, 3 + a, none⟩ (.int .i64 (S.ct a - 1))).drew = w1 at *
  have cb := O1.cc (k := 17) (by omega)
  rw [upd_other _ _ _ hb] at cb
  have fb := O1.fz (3 + 17)
  have hl := O1.lt
  go_wp2_with fail
  go_region
  obtain ⟨o1, t1⟩ := O1.setC (k := 17) (by omega) (S.ct 17 + 1)
  have O2 : OB (w1.setCell ⟨D, 3 + 17, none⟩ (.int .i64 (S.ct 17 + 1))).drew D r S.n S.fi s (upd (upd (fun k => (S.ct k : Int)) a (S.ct a - 1)) 17 (S.ct 17 + 1)) S.qu := o1.keep rfl
  have T2 : Trn (fun k => k = D) w (w1.setCell ⟨D, 3 + 17, none⟩ (.int .i64 (S.ct 17 + 1))).drew := T1.trans t1.drew
  have R2 := R0.keep (T2.block r R0.lt (Ne.symm hne))
  clear o1 t1 cb fb hl O1 T1 R0
  simp only [Nat.reduceAdd] at O2 T2 R2
  generalize (w1.setCell ⟨D, 20, none⟩ (.int .i64 (S.ct 17 + 1))).drew = w2 at *
  obtain ⟨R3, T3⟩ := R2.set hi 17 0 (.map none) (by rw [if_pos rfl])
  have O3 := O2.keep (T3.block D O2.lt hne)
  have T4 := (T2.mono (S' := fun k => k = D ∨ k = r) (fun k _ e => .inl e)).trans (T3.mono (fun k _ e => .inr e))
  have c0 := O2.c0
  have hl := O2.lt
  have hrl := R2.lt
  have cr := R2.c hi
  have fr := R2.fz i
  have c2 := O3.c2
  have f2 := O3.fz 2
  have hl3 := O3.lt
  obtain ⟨O4, T5⟩ := O3.setS (min s i)
  have HE : Hid (FX B ((w2.setCell ⟨r, i, none⟩ (.map none)).setCell ⟨D, 2, none⟩ (.int .i64 ((min s i : Nat) : Int))) D (S.set i 17 0) ∧ Tu Of B w ((w2.setCell ⟨r, i, none⟩ (.map none)).setCell ⟨D, 2, none⟩ (.int .i64 ((min s i : Nat) : Int)))) :=
    HF.out _ (T4.trans (T5.mono (fun k _ e => .inl e))) O4 (R3.keep (T5.block r R3.lt (Ne.symm hne)))
  clear O2 T2 R2 HF O3 T3 R3 T4 O4 T5
  go_wp2_with fail
  all_goals
    first
      | (rw [show min s i = i by omega] at HE
         exact bodyPost_ret (v := .tuple #[]) (by simp [results, Tryz.results45]) rfl ⟨rfl, HE.out⟩)
      | (rw [show min s i = s by omega] at HE
         exact bodyPost_ret (v := .tuple #[]) (by simp [results, Tryz.results45]) rfl ⟨rfl, HE.out⟩)
end
end Go.Proofs.YteghkhdpdeiocaaGreatDoor
namespace Go.Proofs.YteghkhdpdeiocaaGreatDoor
open Go.RowKit Go.ChangeMaps
set_option linter.unusedVariables false
set_option maxRecDepth 100000

section
variable {B : Nat → Prop} {w w' : World} {D : Nat} {S : Fs}
theorem alloc_fx (h : FX B w D S) (hB : ∀ k, w.heap.size ≤ k → ¬ B k) (o : Int) : Calls Tryz.prog 26 #[.pointer (some ⟨D, 0, none⟩), .int .i64 o] w fun e w' => e = .returned (.tuple #[.int .i64 (alR S o), .int .i64 (alE S o)]) ∧ FX B w' D (alS S o) ∧ Tu Of B w w' := by
  obtain ⟨r, C, s, h⟩ := h
  have hl := h.ob.lt
  have M := made_fr h
  have O := isowner o w
  by_cases h1 : isO o
  · rw [decide_eq_true h1] at O
    obtain ⟨a, rfl⟩ : ∃ a : Nat, o = a := ⟨o.toNat, by have := h1.1; omega⟩
    have ha : a ≤ 16 := by have := h1.2; omega
    have Q := atquota h a ha
    by_cases h2 : S.qu a ≤ S.ct a
    · rw [decide_eq_true h2] at Q
      have e0 : alE S a = 19 := by unfold alE; rw [if_pos h1, Int.toNat_natCast, if_pos h2]
      have e1 : alR S a = 0 := by unfold alR; rw [if_neg (by omega)]
      have e2 : alS S a = S := by unfold alS; rw [if_neg (by omega)]
      rw [e0, e1, e2]
      have HF : Hid (FR B w D r S C s) := h
      clear h h1 h2 e0 e1 e2
      go_enter Tryz.func26, Tryz.ntmps26
      go_wp2_with fail
      refine M.mono ?_
      rintro e w ⟨rfl, rfl⟩
      go_wp2_with fail
      refine O.mono ?_
      rintro e w ⟨rfl, rfl⟩
      go_wp2_with fail
      refine Q.mono ?_
      rintro e w1 ⟨rfl, hb⟩
      go_wp2_with fail
      go_ret2
      exact ⟨rfl, ⟨r, C, s, HF.out.below hb⟩, Tu.of_below hb⟩
    · rw [decide_eq_false h2] at Q
      by_cases h3 : S.ct 17 = 0
      · have e0 : alE S a = 20 := by unfold alE; rw [if_pos h1, Int.toNat_natCast, if_neg h2, if_pos h3]
        have e1 : alR S a = 0 := by unfold alR; rw [if_neg (by omega)]
        have e2 : alS S a = S := by unfold alS; rw [if_neg (by omega)]
        rw [e0, e1, e2]
        have HF : Hid (FR B w D r S C s) := h
        clear h h1 h2 e0 e1 e2
        go_enter Tryz.func26, Tryz.ntmps26
        go_wp2_with fail
        refine M.mono ?_
        rintro e w ⟨rfl, rfl⟩
        go_wp2_with fail
        refine O.mono ?_
        rintro e w ⟨rfl, rfl⟩
        go_wp2_with fail
        refine Q.mono ?_
        rintro e w1 ⟨rfl, hb⟩
        have H1 : Hid (FR B w1 D r S C s) := HF.out.below hb
        have c17 := H1.out.ob.cc (k := 17) (by decide)
        rw [h3] at c17
        have hl1 := H1.out.ob.lt
        go_wp2_with fail
        go_ret2
        exact ⟨rfl, ⟨r, C, s, H1.out⟩, Tu.of_below hb⟩
      · have e0 : alE S a = 0 := by unfold alE; rw [if_pos h1, Int.toNat_natCast, if_neg h2, if_neg h3]
        have e1 : alR S a = S.lst := by unfold alR; rw [if_pos e0]
        have e2 : alS S a = S.set S.lst a 1 := by unfold alS; rw [if_pos e0, Int.toNat_natCast]
        rw [e0, e1, e2]
        obtain ⟨l1, l2, l3⟩ := S.lst_of (by omega)
        have hct : (0 : Int) < S.ct 17 := by omega
        have HF : Hid (FR B w D r S C s) := h
        clear h h1 h2 e0 e1 e2
        go_enter Tryz.func26, Tryz.ntmps26
        go_wp2_with fail
        refine M.mono ?_
        rintro e w ⟨rfl, rfl⟩
        go_wp2_with fail
        refine O.mono ?_
        rintro e w ⟨rfl, rfl⟩
        go_wp2_with fail
        refine Q.mono ?_
        rintro e w1 ⟨rfl, hb⟩
        have H1 : Hid (FR B w1 D r S C s) := HF.out.below hb
        have c17 := H1.out.ob.cc (k := 17) (by decide)
        have hl1 := H1.out.ob.lt
        go_wp2_with fail
        refine (least_fr H1.out (by omega)).mono ?_
        rintro e w2 ⟨rfl, hf2, ht2⟩
        have P := pass_give hf2 (i := S.lst) (b := a) l1 (by omega) ha (fun k hk => hB k (by have := hb.size; have := ht2.size; omega))
        rw [l2] at P
        go_wp2_with fail
        refine P.mono ?_
        rintro e w3 ⟨rfl, hf3, ht3⟩
        go_wp2_with fail
        go_ret2
        exact ⟨rfl, hf3, ((Tu.of_below hb).trans ht2).trans ht3⟩
  · rw [decide_eq_false h1] at O
    have e0 : alE S o = 2 := by unfold alE; rw [if_neg h1]
    have e1 : alR S o = 0 := by unfold alR; rw [if_neg (by omega)]
    have e2 : alS S o = S := by unfold alS; rw [if_neg (by omega)]
    rw [e0, e1, e2]
    have HF : Hid (FR B w D r S C s) := h
    clear h h1 e0 e1 e2
    go_enter Tryz.func26, Tryz.ntmps26
    go_wp2_with fail
    refine M.mono ?_
    rintro e w ⟨rfl, rfl⟩
    go_wp2_with fail
    refine O.mono ?_
    rintro e w ⟨rfl, rfl⟩
    go_wp2_with fail
    go_ret2
    exact ⟨rfl, ⟨r, C, s, HF.out⟩, Tu.refl _ _ _⟩
/-- a frame's times turned -/
theorem FR.times {r s : Nat} {C : Nat → Nat} (h : FR B w D r S C s) {i t : Nat} (hi : i < S.n) (hc : S.cl i ≠ 17) (ht : 1 ≤ t ∧ t ≤ 65536) : ∃ w', (Instr.mapUpdate 108 (mv S.cl C i) (.int .i64 (S.cl i)) (.int .i64 t)).run Tryz.prog w = .ok () w' ∧ FX B w' D (S.set i (S.cl i) t) ∧ Tu Of B w w' := by
  rw [mv_map hc]
  obtain ⟨w', h1, h2, h3⟩ := turn_one (h.mp i hi hc) t
  obtain ⟨l1, l2, l3⟩ := h.lo
  have hne := h.mne hi hc
  have hcl : upd S.cl i (S.cl i) = S.cl := by
    funext j
    by_cases e : j = i <;> simp [upd, e]
  have e : S.set i (S.cl i) t = { S with ti := upd S.ti i t } := by unfold Fs.set; rw [hcl]
  have hok := h.ok.set (f := i) (c := S.cl i) (t := t) (h.ok.c i) ⟨fun e => absurd e hc, fun _ => ht⟩
  refine ⟨w', h1, ⟨r, C, s, ?_⟩, ?_⟩
  · rw [e] at hok ⊢
    refine ⟨h.ob.keep (h3.block D h.ob.lt (Ne.symm hne.1)), h.row.keep (h3.block r h.row.lt (Ne.symm hne.2)), fun j hj cj => ?_, h.inj, h.s1, h.s2, hok, h.lo⟩
    show M1 w' (C j) (S.cl j) (upd S.ti i t j)
    by_cases ej : j = i
    · subst ej; rw [upd_self]; exact h2
    · rw [upd_other _ _ _ ej]
      exact (h.mp j hj cj).keep (h3.block _ (h.mp j hj cj).lt (fun e => ej (h.inj j i hj hi cj hc e)))
  · refine Tu.of_trn h3 fun k e => ?_
    subst e
    obtain ⟨x, y, hm, _⟩ := h.mp i hi hc
    exact ⟨l3 i hi hc, fun o ho => by rw [hm] at ho; cases ho; trivial⟩
theorem hold_fx (h : FX B w D S) (f o : Int) : Calls Tryz.prog 54 #[.pointer (some ⟨D, 0, none⟩), .int .i64 f, .int .i64 o] w fun e w' => e = .returned (.int .i64 (hoE S f o)) ∧ FX B w' D (hoS S f o) ∧ Tu Of B w w' := by
  obtain ⟨r, C, s, h⟩ := h
  have hl := h.ob.lt
  have K := check_fr h f o o
  by_cases h0 : errC S f o o = 0
  · rw [h0] at K
    obtain ⟨i, a, c, rfl, rfl, hac, hi, ha, hcc, hc⟩ := errC_ok h0
    clear hac hcc
    have hok := h.ok
    have tt := (hok.t i hi).2 (by omega)
    have n2 := hok.n2
    have c0 := h.ob.c0
    have cr := h.row.c hi
    have hrl := h.row.lt
    have lk := h.look hi ha
    have hi' : (i : Int) < S.n := by omega
    rw [show lkS S i a = S.ti i by unfold lkS; rw [if_pos hc]] at lk
    by_cases h1 : S.ti i = 65536
    · have e0 : hoE S i a = 18 := by unfold hoE; rw [if_pos h0, Int.toNat_natCast, if_pos h1]
      have e2 : hoS S i a = S := by unfold hoS; rw [if_neg (by omega)]
      rw [e0, e2]
      rw [h1] at lk
      have HF : Hid (FR B w D r S C s) := h
      clear h e0 e2 h0 hok
      go_enter Tryz.func54, Tryz.ntmps54
      go_wp2_with fail
      refine K.mono ?_
      rintro e w ⟨rfl, rfl⟩
      go_wp2_with fail
      go_ret
      exact ⟨rfl, ⟨r, C, s, HF.out⟩, Tu.refl _ _ _⟩
    · have e0 : hoE S i a = 0 := by unfold hoE; rw [if_pos h0, Int.toNat_natCast, if_neg h1]
      have e2 : hoS S i a = S.set i (S.cl i) (S.ti i + 1) := by unfold hoS; rw [if_pos e0, Int.toNat_natCast]
      rw [e0, e2]
      obtain ⟨w1, m1, m2, m3⟩ := h.times (t := S.ti i + 1) hi (by omega) (by omega)
      rw [hc] at m1
      have HE : Hid (FX B w1 D (S.set i (S.cl i) (S.ti i + 1)) ∧ Tu Of B w w1) := ⟨m2, m3⟩
      have t1 : ((S.ti i : Nat) : Int) < 65536 := by omega
      clear h e0 e2 h0 m2 m3 hok
      generalize S.ti i = t at *
      rw [show ((t + 1 : Nat) : Int) = (t : Int) + 1 from rfl] at m1
      have t0 : (0 : Int) ≤ (t : Int) := by omega
      clear tt h1
      generalize (t : Int) = x at *
      have t2 : x ≠ 65536 := by omega
      go_enter Tryz.func54, Tryz.ntmps54
      go_wp2_with fail
      refine K.mono ?_
      rintro e w ⟨rfl, rfl⟩
      go_wp2_with fail
      go_ret
      exact ⟨rfl, HE.out⟩
  · have e0 : hoE S f o = errC S f o o := by unfold hoE; rw [if_neg h0]
    have e2 : hoS S f o = S := by unfold hoS; rw [if_neg (by omega)]
    rw [e0, e2]
    have HF : Hid (FR B w D r S C s) := h
    clear h e0 e2
    generalize errC S f o o = x at *
    go_enter Tryz.func54, Tryz.ntmps54
    go_wp2_with fail
    refine K.mono ?_
    rintro e w ⟨rfl, rfl⟩
    go_wp2_with fail
    go_ret
    exact ⟨rfl, ⟨r, C, s, HF.out⟩, Tu.refl _ _ _⟩
theorem free_fx (h : FX B w D S) (f o : Int) : Calls Tryz.prog 56 #[.pointer (some ⟨D, 0, none⟩), .int .i64 f, .int .i64 o] w fun e w' => e = .returned (.tuple #[.bool (frB S f o), .int .i64 (errL S f o o)]) ∧ FX B w' D (frS S f o) ∧ Tu Of B w w' := by
  obtain ⟨r, C, s, h⟩ := h
  have hl := h.ob.lt
  have K := loose_fr h f o o
  by_cases h0 : errL S f o o = 0
  · rw [h0] at K
    obtain ⟨h00, _⟩ := errL_ok h0
    obtain ⟨i, a, c, rfl, rfl, hac, hi, ha, hcc, hc⟩ := errC_ok h00
    clear hac hcc
    have hok := h.ok
    have tt := (hok.t i hi).2 (by omega)
    have n2 := hok.n2
    have c0 := h.ob.c0
    have cr := h.row.c hi
    have hrl := h.row.lt
    have lk := h.look hi ha
    have hi' : (i : Int) < S.n := by omega
    rw [show lkS S i a = S.ti i by unfold lkS; rw [if_pos hc]] at lk
    by_cases h1 : 1 < S.ti i
    · have e0 : frB S i a = false := by unfold frB; rw [Int.toNat_natCast, decide_eq_false (show ¬ S.ti i ≤ 1 by omega), Bool.and_false]
      have e2 : frS S i a = S.set i (S.cl i) (S.ti i - 1) := by unfold frS; rw [if_pos h0, Int.toNat_natCast, if_pos h1]
      rw [e0, e2, h0]
      obtain ⟨w1, m1, m2, m3⟩ := h.times (t := S.ti i - 1) hi (by omega) (by omega)
      rw [hc] at m1
      have HE : Hid (FX B w1 D (S.set i (S.cl i) (S.ti i - 1)) ∧ Tu Of B w w1) := ⟨m2, m3⟩
      have t1 : (1 : Int) < ((S.ti i : Nat) : Int) := by omega
      clear h e0 e2 h0 h00 m2 m3 hok
      generalize S.ti i = t at *
      rw [show ((t - 1 : Nat) : Int) = (t : Int) - 1 by omega] at m1
      go_enter Tryz.func56, Tryz.ntmps56
      go_wp2_with fail
      refine K.mono ?_
      rintro e w ⟨rfl, rfl⟩
      go_wp2_with fail
      go_ret2
      exact ⟨rfl, HE.out⟩
    · have e0 : frB S i a = true := by unfold frB; rw [Int.toNat_natCast, decide_eq_true (show S.ti i ≤ 1 by omega), h0]; rfl
      have e2 : frS S i a = S.set i 17 0 := by unfold frS; rw [if_pos h0, Int.toNat_natCast, if_neg h1]
      rw [e0, e2, h0]
      have t1 : ((S.ti i : Nat) : Int) ≤ 1 := by omega
      have P := pass_free h hi (by omega)
      rw [hc] at P
      clear h e0 e2 h0 h00 hok
      generalize S.ti i = t at *
      go_enter Tryz.func56, Tryz.ntmps56
      go_wp2_with fail
      refine K.mono ?_
      rintro e w ⟨rfl, rfl⟩
      go_wp2_with fail
      refine P.mono ?_
      rintro e w1 ⟨rfl, hf1, ht1⟩
      go_wp2_with fail
      go_ret2
      exact ⟨rfl, hf1, ht1⟩
  · have e0 : frB S f o = false := by unfold frB; rw [decide_eq_false h0, Bool.false_and]
    have e2 : frS S f o = S := by unfold frS; rw [if_neg h0]
    rw [e0, e2]
    have HF : Hid (FR B w D r S C s) := h
    clear h e0 e2
    generalize errL S f o o = x at *
    go_enter Tryz.func56, Tryz.ntmps56
    go_wp2_with fail
    refine K.mono ?_
    rintro e w ⟨rfl, rfl⟩
    go_wp2_with fail
    go_ret2
    exact ⟨rfl, ⟨r, C, s, HF.out⟩, Tu.refl _ _ _⟩
end
end Go.Proofs.YteghkhdpdeiocaaGreatDoor
