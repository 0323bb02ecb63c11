/-
  What slices.DeleteFunc leaves of an order.
-/
import Derived.Test.YtgafdbamlmaifaaSe
namespace Go.Proofs.Ytgafdbamlmaifaa.S
open Go.RowKit Go.Maps
set_option linter.unusedVariables false
set_option maxRecDepth 20000

/-- of the first j places those that stay -/
def keptL (G : Nat → Pl) (P : Pl → Bool) (j : Nat) : List Pl := ((List.range j).map G).filter (fun p => !P p)
theorem kept_succ (G : Nat → Pl) (P : Pl → Bool) (j : Nat) : keptL G P (j + 1) = keptL G P j ++ (if P (G j) then [] else [G j]) := by
  unfold keptL
  rw [List.range_succ]
  simp [List.filter_cons]
  cases P (G j) <;> simp
theorem kept_le (G : Nat → Pl) (P : Pl → Bool) (j : Nat) : (keptL G P j).length ≤ j := by
  unfold keptL
  have := List.length_filter_le (fun p => !P p) ((List.range j).map G)
  simpa using this
theorem kept_all (G : Nat → Pl) (P : Pl → Bool) : ∀ j, (∀ k, k < j → P (G k) = false) → keptL G P j = (List.range j).map G
  | 0, _ => rfl
  | j + 1, h => by
    rw [kept_succ, kept_all G P j (fun k hk => h k (by omega)), h j (by omega), List.range_succ]
    simp

/-- a store of a place in its row -/
theorem Row.set {w : World} {g c n : Nat} {F : Nat → Pl} (h : Row w g c n F) (i : Nat) (hi : i < n) (p : Pl) :
    Row ((w.setCell ⟨g, i * 2, none⟩ (.int .i64 p.g)).setCell ⟨g, i * 2 + 1, none⟩ (kv p.k)) g c n (fun k => if k = i then p else F k) ∧
      w.grownBy ((w.setCell ⟨g, i * 2, none⟩ (.int .i64 p.g)).setCell ⟨g, i * 2 + 1, none⟩ (kv p.k)) (some g) := by
  obtain ⟨cur, h0, h1, h2, h3, h4⟩ := h
  have e : (w.setCell ⟨g, i * 2, none⟩ (.int .i64 p.g)).setCell ⟨g, i * 2 + 1, none⟩ (kv p.k) = w.setCells g (i * 2) (pc p) := rfl
  rw [e]
  obtain ⟨cur', r1, r2, r3, r4⟩ := setCells_heap g 82 (pc p) (i * 2) w cur h0 (by simp [pc]; omega)
  have hl : (pc p).length = 2 := rfl
  refine ⟨⟨cur', r1, by omega, h2, h3, fun k hk => ?_⟩, r4⟩
  by_cases hki : k = i
  · subst hki
    rw [r3, r3, if_pos (by omega), if_pos (by omega)]
    simp [pc]
  · rw [r3, r3, if_neg (by omega), if_neg (by omega)]
    simp only [hki, if_false]
    exact h4 k hk

theorem deleteFunc_nil (f : FuncId) (caps : Array Value) (w : World) :
    Calls Try.prog 52 #[.slice none 0 0, .func (.func f) #[] caps] w fun e w' => e = .returned (.slice none 0 0) ∧ w' = w := by
  go_enter Try.func52, Try.ntmps52
  go_wp2_with fail
  refine (index_nil _ _ _).mono ?_
  rintro e w1 ⟨rfl, rfl⟩
  go_wp2_with fail
  go_ret
  exact ⟨rfl, rfl⟩

/-- the state between the rounds: j places are asked, those that stay lie ahead -/
structure FS (w wr : World) (N0 m g c n : Nat) (G : Nat → Pl) (P : Pl → Bool) (I : Nat → World → Prop) (j : Nat) : Prop where
  i : I j wr
  turn : Trn (fun k => k = g ∨ k = m) w wr
  row : ∃ F, Row wr g c n F ∧ (∀ k, k < (keptL G P j).length → F k = (keptL G P j).getD k p0) ∧ ∀ k, j ≤ k → k < n → F k = G k
  lt : (keptL G P j).length < j

set_option maxHeartbeats 1600000 in
theorem deleteFunc_any (f : FuncId) (caps : Array Value) (N0 m g n c : Nat) (G : Nat → Pl) (P : Pl → Bool) (I : Nat → World → Prop) (w : World)
    (D : Dels f caps N0 m g n G P I) (hr : Row w g c n G) (hI : I 0 w) (hN : N0 ≤ w.heap.size) :
    Calls Try.prog 52 #[.slice (some ⟨g, 0, none⟩) n c, .func (.func f) #[] caps] w fun e w' => e = .returned (.slice (some ⟨g, 0, none⟩) (keptL G P n).length c) ∧
      Row w' g c (keptL G P n).length (fun k => (keptL G P n).getD k p0) ∧ I n w' ∧ Trn (fun k => k = g ∨ k = m) w w' := by
  have hcf := D.enter
  have hcap := hr.cap
  have hmx : maxLen < 9223372036854775808 := by decide
  have C := index_any f caps N0 m g n c G P I w D hr hI hN
  have HD : Hid (Dels f caps N0 m g n G P I) := D
  have HR : Hid (Row w g c n G) := hr
  clear D hr hI
  go_enter Try.func52, Try.ntmps52
  go_wp2_with fail
  refine C.mono ?_
  rintro e w1 ⟨hg1, ⟨rfl, hi1, hall⟩ | ⟨i, hin, rfl, hi1, hPi, hall⟩⟩
  · have hk := kept_all G P n hall
    have hfin : Row w1 g c (keptL G P n).length (fun k => (keptL G P n).getD k p0) := by
      rw [hk]
      simp only [List.length_map, List.length_range]
      refine (Row.keep HR.out (gr_keep hg1 (Row.lt HR.out) (fun e => HD.out.mg e.symm))).congr (fun k hkn => ?_)
      simp [hkn]
    have hlen : (keptL G P n).length = n := by rw [hk]; simp
    have HF : Hid (Row w1 g c (keptL G P n).length (fun k => (keptL G P n).getD k p0) ∧ I n w1 ∧ Trn (fun k => k = g ∨ k = m) w w1) := ⟨hfin, hi1, Trn.of_grown hg1 (.inr rfl)⟩
    clear hfin hi1 hg1 hk C
    go_wp2_with fail
    go_ret
    exact ⟨congrArg (fun q => Ending.returned (.slice (some ⟨g, 0, none⟩) q c)) hlen.symm, HF.out⟩
  · have E0 : Hid (FS w w1 N0 m g c n G P I (i + 1)) := by
      have hk := kept_all G P i hall
      have hk1 : keptL G P (i + 1) = (List.range i).map G := by rw [kept_succ, hPi, hk]; simp
      refine ⟨hi1, Trn.of_grown hg1 (.inr rfl), ⟨G, Row.keep HR.out (gr_keep hg1 (Row.lt HR.out) (fun e => HD.out.mg e.symm)), fun k hkl => ?_, fun k _ _ => rfl⟩, by rw [hk1]; simp⟩
      rw [hk1] at hkl ⊢
      have hki : k < i := by simpa using hkl
      simp [hki]
    have hkl : (keptL G P (i + 1)).length = i := by rw [kept_succ, hPi, kept_all G P i hall]; simp
    have hne : ((i : Int) == -1) = false := beq_false_of_ne (by omega)
    clear hi1 hg1 C hall
    go_wp2_with fail
    go_loopw [5, 6] (fun a b wr => ∃ j : Nat, j ≤ n ∧ b = .int .i64 j ∧ a = .int .i64 (keptL G P j).length ∧ Hid (FS w wr N0 m g c n G P I j)) (fun _ b _ => n - (intOf b).toNat)
    case atStart => exact ⟨i + 1, by omega, by simp, by rw [hkl], E0⟩
    case round =>
      obtain ⟨j, hj, rfl, rfl, HJ⟩ := hrel
      by_cases hjn : j < n
      · have hjn' : (j : Int) < (n : Int) := by omega
        obtain ⟨F, hF, hF1, hF2⟩ := HJ.out.row
        have hlt := HJ.out.lt
        have e1 := hF2 j (Nat.le_refl _) hjn
        have c0 := hF.c0 j hjn
        have c1 := hF.c1 j hjn
        rw [e1] at c0 c1
        have hgl := hF.lt
        have hN1 : N0 ≤ wr.heap.size := Nat.le_trans hN HJ.out.turn.size
        have hb7 : Below wr.heap.size wr (wr.alloc (.cells #[.int .i64 (G j).g, kv (G j).k] 82)) := (Below.refl _ _).alloc (Nat.le_refl _) _
        have hI7 : I j (wr.alloc (.cells #[.int .i64 (G j).g, kv (G j).k] 82)) := HD.out.keep j wr _ HJ.out.i (fun k hk _ => hb7.block k (by omega))
        have C := HD.out.call j _ hjn hI7 (by simp; omega)
        have HX : Hid (Row wr g c n F ∧ (∀ k, k < (keptL G P j).length → F k = (keptL G P j).getD k p0) ∧ (∀ k, j ≤ k → k < n → F k = G k) ∧ Below wr.heap.size wr (wr.alloc (.cells #[.int .i64 (G j).g, kv (G j).k] 82))) := ⟨hF, hF1, hF2, hb7⟩
        clear hF hF1 hF2 hI7 e1 hb7
        have hks := kept_succ G P j
        unfold pv kv at C
        unfold kv at c1
        go_wp2_with fail
        refine C.mono ?_
        rintro e y1 ⟨rfl, hi1, hg1⟩
        obtain ⟨hF, hF1, hF2, hb7⟩ := HX.out
        have hF' : Row y1 g c n F := Row.keep (Row.keep hF (hb7.block g hgl)) (gr_keep hg1 (by simp; omega) (fun e => HD.out.mg e.symm))
        have ht' : Trn (fun k => k = g ∨ k = m) w y1 := (HJ.out.turn.trans (Trn.of_below hb7)).trans (Trn.of_grown hg1 (.inr rfl))
        have d0 : y1.heap[wr.heap.size]? = _ := gr_keep hg1 (k := wr.heap.size) (by simp) (by have := HD.out.mlt; omega)
        have d1 : ∀ o, y1.cell? ⟨wr.heap.size, o, none⟩ = _ := fun o => World.cell?_of_block (a := ⟨wr.heap.size, o, none⟩) d0
        have hy : wr.heap.size < y1.heap.size := by have := hg1.size; simp at this; omega
        clear d0 hg1 C
        cases hP : P (G j)
        · rw [hP] at hks
          simp only [Bool.false_eq_true, if_false] at hks
          have hlj : (keptL G P j).length < n := by omega
          have hlj' : ((keptL G P j).length : Int) < (n : Int) := by omega
          obtain ⟨hs1, hs2⟩ := hF'.set (keptL G P j).length hlj (G j)
          have w0 : (y1.cell? ⟨g, (keptL G P j).length * 2, none⟩) = _ := hF'.c0 _ hlj
          have w1 : (y1.cell? ⟨g, (keptL G P j).length * 2 + 1, none⟩) = _ := hF'.c1 _ hlj
          have wf := hF'.fz
          have HN : Hid (FS w ((y1.setCell ⟨g, (keptL G P j).length * 2, none⟩ (.int .i64 (G j).g)).setCell ⟨g, (keptL G P j).length * 2 + 1, none⟩ (kv (G j).k)) N0 m g c n G P I (j + 1)) := by
            refine ⟨HD.out.keep _ y1 _ hi1 (fun k hk hkg => hs2.block k (by omega) (fun e => hkg (by cases e; rfl))), ht'.trans (Trn.of_grown hs2 (.inl rfl)), ⟨_, hs1, fun k hk => ?_, fun k hk hkn => ?_⟩, by rw [hks]; simp; omega⟩
            · rw [hks] at hk ⊢
              simp only [List.length_append, List.length_singleton] at hk
              by_cases hkl : k = (keptL G P j).length
              · rw [if_pos hkl, hkl]
                simp
              · rw [if_neg hkl, hF1 k (by omega)]
                simp [List.getElem?_append_left (show k < (keptL G P j).length by omega)]
            · rw [if_neg (by omega)]
              exact hF2 k (by omega) hkn
          have hll : (keptL G P (j + 1)).length = (keptL G P j).length + 1 := by rw [hks]; simp
          clear hs1 hs2 hF' ht' hi1 hF hF1 hF2 hb7 hks HX
          unfold kv at *
          generalize keptL G P j = K at *
          go_wp2_with fail
          go_roundw
          case rel => exact ⟨j + 1, by omega, by go_num, by rw [hll]; go_num, HN⟩
          case measure => simp [intOf]; omega
        · rw [hP] at hks
          simp only [if_true, List.append_nil] at hks
          have HN : Hid (FS w y1 N0 m g c n G P I (j + 1)) :=
            ⟨hi1, ht', ⟨F, hF', fun k hk => by rw [hks] at hk ⊢; exact hF1 k hk, fun k hk hkn => hF2 k (by omega) hkn⟩, by rw [hks]; omega⟩
          have hll : (keptL G P (j + 1)).length = (keptL G P j).length := by rw [hks]
          clear hF' ht' hi1 hF hF1 hF2 hb7 hks HX
          generalize keptL G P j = K at *
          go_wp2_with fail
          go_roundw
          case rel => exact ⟨j + 1, by omega, by go_num, by rw [hll], HN⟩
          case measure => simp [intOf]; omega
      · obtain rfl : j = n := by omega
        obtain ⟨F, hF, hF1, hF2⟩ := HJ.out.row
        have hlt := HJ.out.lt
        obtain ⟨w2, q1, q2, q3⟩ := clear_run hF 0 (keptL G P j).length (j - (keptL G P j).length) (c - (keptL G P j).length) (by omega) (by omega) (by omega)
        have HF : Hid (Row w2 g c (keptL G P j).length (fun k => (keptL G P j).getD k p0) ∧ I j w2 ∧ Trn (fun k => k = g ∨ k = m) w w2) :=
          ⟨q2.congr hF1, HD.out.keep _ wr _ HJ.out.i (fun k hk hkg => q3.block k (by have := HJ.out.turn.size; omega) (fun e => hkg (by cases e; rfl))), HJ.out.turn.trans (Trn.of_grown q3 (.inl rfl))⟩
        clear q2 q3 hF hF1 hF2
        generalize hKK : keptL G P j = K at *
        have hk1 : (K.length : Int) ≤ (j : Int) := by omega
        go_wp2_with fail
        go_ret
        subst hKK
        exact ⟨rfl, HF.out⟩
end Go.Proofs.Ytgafdbamlmaifaa.S
