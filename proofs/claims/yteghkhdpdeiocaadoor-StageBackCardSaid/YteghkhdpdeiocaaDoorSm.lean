/-
  What isMade, isOwner, isFrame, isAtQuota, check, checkLoose, Count and Quota do.
-/
import Derived.Test.YteghkhdpdeiocaaDoorBase
import Derived.Laws.Closers25b
namespace Go.Proofs.YteghkhdpdeiocaaDoor
open Go.RowKit
set_option linter.unusedVariables false
set_option maxRecDepth 100000

section
variable {B : Nat → Prop} {w : World} {D r s : Nat} {S : Fs} {C : Nat → Nat}
theorem made_fr (h : FR B w D r S C s) : Calls Tryd.prog 48 #[.pointer (some ⟨D, 0, none⟩)] w fun e w' => e = .returned (.bool true) ∧ w' = w := by
  have c0 := h.ob.c0
  have hl := h.ob.lt
  have n1 := h.ok.n1
  clear h
  go_enter Tryd.func48, Tryd.ntmps48
  go_wp2
  go_ret
  first
    | exact ⟨rfl, rfl⟩
    | exact ⟨ret_bool (by simp; omega), rfl⟩
end
/-- what no call made -/
def UN (w : World) (p : Value) : Prop := p = .pointer none ∨ ∃ b, p = .pointer (some ⟨b, 0, none⟩) ∧ b < w.heap.size ∧ w.cell? ⟨b, 0, none⟩ = some (.slice none 0 0)
theorem UN.below {w w' : World} {p : Value} (h : UN w p) (hk : Below w.heap.size w w') : UN w' p := by
  rcases h with h | ⟨b, rfl, hlt, hc⟩
  · exact .inl h
  · exact .inr ⟨b, rfl, Nat.lt_of_lt_of_le hlt hk.size, ((fbcell hk).1 b 0 hlt).trans hc⟩
theorem made_un {p : Value} {w : World} (h : UN w p) : Calls Tryd.prog 48 #[p] w fun e w' => e = .returned (.bool false) ∧ w' = w := by
  rcases h with rfl | ⟨b, rfl, hlt, hc⟩
  all_goals
    go_enter Tryd.func48, Tryd.ntmps48
    go_wp2
    go_ret
    exact ⟨rfl, rfl⟩
theorem isowner (o : Int) (w : World) : Calls Tryd.prog 49 #[.int .i64 o] w fun e w' => e = .returned (.bool (decide (isO o))) ∧ w' = w := by
  by_cases h0 : 0 ≤ o
  · by_cases h1 : o ≤ 16
    · rw [decide_eq_true (show isO o from ⟨h0, h1⟩)]
      go_enter Tryd.func49, Tryd.ntmps49
      go_wp2
      go_ret
      exact ⟨rfl, rfl⟩
    · rw [decide_eq_false (show ¬ isO o from fun e => h1 e.2)]
      go_enter Tryd.func49, Tryd.ntmps49
      go_wp2
      go_ret
      exact ⟨rfl, rfl⟩
  · rw [decide_eq_false (show ¬ isO o from fun e => h0 e.1)]
    go_enter Tryd.func49, Tryd.ntmps49
    go_wp2
    go_ret
    exact ⟨rfl, rfl⟩
section
variable {B : Nat → Prop} {w : World} {D r s : Nat} {S : Fs} {C : Nat → Nat}
theorem isframe (h : FR B w D r S C s) (f : Int) : Calls Tryd.prog 62 #[.pointer (some ⟨D, 0, none⟩), .int .i64 f] w fun e w' => e = .returned (.bool (decide (0 ≤ f ∧ f < S.n))) ∧ w' = w := by
  have c0 := h.ob.c0
  have hl := h.ob.lt
  have n2 := h.ok.n2
  clear h
  by_cases h0 : 0 ≤ f
  · by_cases h1 : f < S.n
    · rw [decide_eq_true (show 0 ≤ f ∧ f < S.n from ⟨h0, h1⟩)]
      go_enter Tryd.func62, Tryd.ntmps62
      go_wp2
      go_ret
      first
        | exact ⟨rfl, rfl⟩
        | exact ⟨ret_bool (by simp; omega), rfl⟩
    · rw [decide_eq_false (show ¬ (0 ≤ f ∧ f < S.n) from fun e => h1 e.2)]
      have h1' : (S.n : Int) ≤ f := by omega
      go_enter Tryd.func62, Tryd.ntmps62
      go_wp2
      go_ret
      first
        | exact ⟨rfl, rfl⟩
        | exact ⟨ret_bool (by simp; omega), rfl⟩
  · rw [decide_eq_false (show ¬ (0 ≤ f ∧ f < S.n) from fun e => h0 e.1)]
    go_enter Tryd.func62, Tryd.ntmps62
    go_wp2
    go_ret
    exact ⟨rfl, rfl⟩
theorem below_drewN {B : Nat} {W w : World} (h : Below B W w) : ∀ n, Below B W (w.drewN n) := fun n => ⟨h.os, h.tape, h.output, h.size, h.block⟩
theorem atquota (h : FR B w D r S C s) (a : Nat) (ha : a ≤ 16) : Calls Tryd.prog 50 #[.pointer (some ⟨D, 0, none⟩), .int .i64 a] w fun e w' => e = .returned (.bool (decide (S.qu a ≤ S.ct a))) ∧ Below w.heap.size w w' := by
  have c := h.ob.cc (k := a) (by omega)
  have q := h.ob.cq (k := a) (by omega)
  have hl := h.ob.lt
  have ha' : (a : Int) < 17 := by omega
  clear h
  go_enter Tryd.func50, Tryd.ntmps50
  go_wp2_with fail
  go_quiet (fail)
  go_wp2_with fail
  go_ret
  exact ⟨rfl, below_drewN (Below.refl _ _) _⟩
theorem check_fr (h : FR B w D r S C s) (f o b : Int) : Calls Tryd.prog 63 #[.pointer (some ⟨D, 0, none⟩), .int .i64 f, .int .i64 o, .int .i64 b] w fun e w' => e = .returned (.int .i64 (errC S f o b)) ∧ w' = w := by
  have c0 := h.ob.c0
  have hl := h.ob.lt
  have n2 := h.ok.n2
  have M := made_fr h
  have O1 := isowner o w
  have O2 := isowner b w
  have F := isframe h f
  unfold errC
  by_cases h1 : isO o
  · rw [decide_eq_true h1] at O1
    by_cases h2 : isO b
    · rw [decide_eq_true h2] at O2
      by_cases h3 : 0 ≤ f ∧ f < S.n
      · rw [decide_eq_true h3] at F
        rw [if_pos ⟨h1, h2, h3⟩]
        obtain ⟨i, rfl⟩ : ∃ i : Nat, f = i := ⟨f.toNat, by omega⟩
        obtain ⟨a, rfl⟩ : ∃ a : Nat, o = a := ⟨o.toNat, by have := h1.1; omega⟩
        have hi : i < S.n := by omega
        have ha : a ≤ 16 := by have := h1.2; omega
        have cr := h.row.c hi
        have hrl := h.row.lt
        have lk := h.look hi ha
        have tt := h.ok.t i hi
        simp only [Int.toNat_natCast]
        have ev : (decide (lkS S i a = 0)) = !decide ((S.cl i : Int) = a) := by
          unfold lkS
          by_cases e : S.cl i = a
          · rw [if_pos e]
            have := tt.2 (by omega)
            simp [e]
            omega
          · rw [if_neg e]
            simp
            omega
        clear h tt h3
        by_cases e : (S.cl i : Int) = a
        · rw [if_pos e]
          rw [decide_eq_true e] at ev
          have e0 : lkS S i a ≠ 0 := by simpa using ev
          clear ev e
          generalize lkS S i a = x at *
          go_enter Tryd.func63, Tryd.ntmps63
          go_wp2_with fail
          refine M.mono ?_
          rintro e w ⟨rfl, rfl⟩
          go_wp2_with fail
          refine O1.mono ?_
          rintro e w ⟨rfl, rfl⟩
          go_wp2_with fail
          refine O2.mono ?_
          rintro e w ⟨rfl, rfl⟩
          go_wp2_with fail
          refine F.mono ?_
          rintro e w ⟨rfl, rfl⟩
          go_wp2_with fail
          go_ret
          exact ⟨rfl, rfl⟩
        · rw [if_neg e]
          rw [decide_eq_false e] at ev
          have e0 : lkS S i a = 0 := by simpa using ev
          rw [e0] at lk
          clear ev e
          go_enter Tryd.func63, Tryd.ntmps63
          go_wp2_with fail
          refine M.mono ?_
          rintro e w ⟨rfl, rfl⟩
          go_wp2_with fail
          refine O1.mono ?_
          rintro e w ⟨rfl, rfl⟩
          go_wp2_with fail
          refine O2.mono ?_
          rintro e w ⟨rfl, rfl⟩
          go_wp2_with fail
          refine F.mono ?_
          rintro e w ⟨rfl, rfl⟩
          go_wp2_with fail
          go_ret
          exact ⟨rfl, rfl⟩
      · rw [decide_eq_false h3] at F
        rw [if_neg (fun e => h3 e.2.2)]
        clear h h3
        go_enter Tryd.func63, Tryd.ntmps63
        go_wp2_with fail
        refine M.mono ?_
        rintro e w ⟨rfl, rfl⟩
        go_wp2_with fail
        refine O1.mono ?_
        rintro e w ⟨rfl, rfl⟩
        go_wp2_with fail
        refine O2.mono ?_
        rintro e w ⟨rfl, rfl⟩
        go_wp2_with fail
        refine F.mono ?_
        rintro e w ⟨rfl, rfl⟩
        go_wp2_with fail
        go_ret
        exact ⟨rfl, rfl⟩
    · rw [decide_eq_false h2] at O2
      rw [if_neg (fun e => h2 e.2.1)]
      clear h h2
      go_enter Tryd.func63, Tryd.ntmps63
      go_wp2_with fail
      refine M.mono ?_
      rintro e w ⟨rfl, rfl⟩
      go_wp2_with fail
      refine O1.mono ?_
      rintro e w ⟨rfl, rfl⟩
      go_wp2_with fail
      refine O2.mono ?_
      rintro e w ⟨rfl, rfl⟩
      go_wp2_with fail
      go_ret
      exact ⟨rfl, rfl⟩
  · rw [decide_eq_false h1] at O1
    rw [if_neg (fun e => h1 e.1)]
    clear h h1
    go_enter Tryd.func63, Tryd.ntmps63
    go_wp2_with fail
    refine M.mono ?_
    rintro e w ⟨rfl, rfl⟩
    go_wp2_with fail
    refine O1.mono ?_
    rintro e w ⟨rfl, rfl⟩
    go_wp2_with fail
    go_ret
    exact ⟨rfl, rfl⟩
theorem loose_fr (h : FR B w D r S C s) (f o b : Int) : Calls Tryd.prog 57 #[.pointer (some ⟨D, 0, none⟩), .int .i64 f, .int .i64 o, .int .i64 b] w fun e w' => e = .returned (.int .i64 (errL S f o b)) ∧ w' = w := by
  have c1 := h.ob.c1
  have hl := h.ob.lt
  have n2 := h.ok.n2
  have nf := h.ok.f
  have K := check_fr h f o b
  clear h
  unfold errL
  by_cases e0 : errC S f o b = 0
  · rw [e0] at K
    rw [if_pos e0]
    by_cases e1 : f < S.fi
    · rw [if_pos e1]
      go_enter Tryd.func57, Tryd.ntmps57
      go_wp2_with fail
      refine K.mono ?_
      rintro e w ⟨rfl, rfl⟩
      go_wp2_with fail
      go_ret
      exact ⟨rfl, rfl⟩
    · rw [if_neg e1]
      go_enter Tryd.func57, Tryd.ntmps57
      go_wp2_with fail
      refine K.mono ?_
      rintro e w ⟨rfl, rfl⟩
      go_wp2_with fail
      go_ret
      exact ⟨rfl, rfl⟩
  · rw [if_neg e0]
    generalize errC S f o b = x at *
    go_enter Tryd.func57, Tryd.ntmps57
    go_wp2_with fail
    refine K.mono ?_
    rintro e w ⟨rfl, rfl⟩
    go_wp2_with fail
    go_ret
    exact ⟨rfl, rfl⟩
theorem count_fr (h : FR B w D r S C s) (o : Int) : Calls Tryd.prog 18 #[.pointer (some ⟨D, 0, none⟩), .int .i64 o] w fun e w' => e = .returned (.tuple #[.int .i64 (own S o), .int .i64 (S.ct 17)]) ∧ Below w.heap.size w w' := by
  have hl := h.ob.lt
  have c17 := h.ob.cc (k := 17) (by decide)
  have M := made_fr h
  have O := isowner o w
  unfold own
  by_cases h1 : isO o
  · rw [decide_eq_true h1] at O
    rw [if_pos h1]
    obtain ⟨a, rfl⟩ : ∃ a : Nat, o = a := ⟨o.toNat, by have := h1.1; omega⟩
    have ha : (a : Int) < 17 := by have := h1.2; omega
    have ca := h.ob.cc (k := a) (by omega)
    simp only [Int.toNat_natCast]
    clear h h1
    go_enter Tryd.func18, Tryd.ntmps18
    go_wp2_with fail
    refine M.mono ?_
    rintro e w ⟨rfl, rfl⟩
    go_wp2_with fail
    refine O.mono ?_
    rintro e w ⟨rfl, rfl⟩
    go_wp2_with fail
    go_quiet (fail)
    go_wp2_with fail
    go_ret2
    exact ⟨rfl, below_drewN (Below.refl _ _) _⟩
  · rw [decide_eq_false h1] at O
    rw [if_neg h1]
    clear h h1
    go_enter Tryd.func18, Tryd.ntmps18
    go_wp2_with fail
    refine M.mono ?_
    rintro e w ⟨rfl, rfl⟩
    go_wp2_with fail
    refine O.mono ?_
    rintro e w ⟨rfl, rfl⟩
    go_wp2_with fail
    go_quiet (fail)
    go_wp2_with fail
    go_ret2
    exact ⟨rfl, below_drewN (Below.refl _ _) _⟩
end
end Go.Proofs.YteghkhdpdeiocaaDoor
