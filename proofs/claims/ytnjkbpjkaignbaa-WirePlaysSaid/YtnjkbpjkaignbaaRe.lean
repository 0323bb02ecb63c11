/-
  The document's wire by what is told alone: what its calls do; Inject and Send.
-/
import Derived.Test.YtnjkbpjkaignbaaRc
import Derived.Test.YtnjkbpjkaignbaaRd
import Derived.Deep.RegionHeld2
namespace Go.Proofs.Ytnjkbpjkaignbaa
open Go.RowKit
set_option linter.unusedVariables false
set_option maxRecDepth 20000

/-- blocks that the document's wire may turn: of three types, from B on -/
def RB (B : Nat) (w : World) (k : Nat) : Prop := B ≤ k ∧ ∃ cs t, w.heap[k]? = some (.cells cs t (0, 0)) ∧ (t = 3 ∨ t = 52 ∨ t = 46)
def RT (B : Nat) (w w' : World) : Prop := Trn (RB B w) w w'
theorem RT.refl (B : Nat) (w : World) : RT B w w := Trn.refl _ _
theorem RT.trans {B : Nat} {a b c : World} (h : RT B a b) (k : RT B b c) : RT B a c :=
  ⟨k.os.trans h.os, k.tape.trans h.tape, k.output.trans h.output, Nat.le_trans h.size k.size, fun i hi hr => by
    have e := h.block i hi hr
    exact (k.block i (Nat.lt_of_lt_of_le hi h.size) (fun hk => hr ⟨hk.1, by obtain ⟨cs, t, q, r⟩ := hk.2; exact ⟨cs, t, e ▸ q, r⟩⟩)).trans e⟩
theorem RT.of_below {B : Nat} {a b : World} (h : Below a.heap.size a b) : RT B a b := Trn.of_below h
theorem RT.below {B : Nat} {a b : World} (h : RT B a b) (hs : B ≤ a.heap.size) : Below B a b := Trn.below h (fun k hk => hk.1) hs
theorem RT.drewN {B : Nat} (w : World) (k : Nat) : RT B w (w.drewN k) := ⟨rfl, rfl, rfl, Nat.le_refl _, fun _ _ _ => rfl⟩
/-- the document's wire by what is told alone -/
def RZ (B : Nat) (w : World) (r g d n gc : Nat) (Gr : Nat → Int) (A : Nat → List (Int × List Int)) : Prop := ∃ V, RW B w r g d n gc V Gr A
section
variable {B : Nat} {w w' : World} {r g d n gc : Nat} {V : Nat → Value} {Gr : Nat → Int} {A : Nat → List (Int × List Int)}
theorem RW.rt (h : RW B w r g d n gc V Gr A) (ht : Trn (RS g d n V) w w') : RT B w w' := ht.mono fun k hk hs => ⟨h.rsB k hs, h.typ hs⟩
theorem RZ.below (h : RZ B w r g d n gc Gr A) (hk : Below w.heap.size w w') : RZ B w' r g d n gc Gr A := by
  obtain ⟨V, h⟩ := h
  exact ⟨V, h.below hk⟩
theorem RZ.bw (h : RZ B w r g d n gc Gr A) : B ≤ w.heap.size := by
  obtain ⟨V, h⟩ := h
  exact h.bw
theorem RZ.drewN (h : RZ B w r g d n gc Gr A) (k : Nat) : RZ B (w.drewN k) r g d n gc Gr A := by
  obtain ⟨V, h⟩ := h
  exact ⟨V, h.keep fun _ _ _ => rfl⟩
/-- blocks of other types may turn -/
theorem RZ.other (h : RZ B w r g d n gc Gr A) {S : Nat → Prop} (ht : Trn S w w') (hS : ∀ k, S k → ∀ cs t, w.heap[k]? = some (.cells cs t (0, 0)) → t ≠ 55 ∧ t ≠ 3 ∧ t ≠ 52 ∧ t ≠ 46) : RZ B w' r g d n gc Gr A := by
  obtain ⟨V, h⟩ := h
  refine ⟨V, h.keep fun k hk hs => ht.block k hk fun hk' => ?_⟩
  rcases hs with rfl | hs
  · exact (hS _ hk' _ _ h.ob).1 rfl
  · obtain ⟨cs, t, hc, h3⟩ := h.typ hs
    obtain ⟨_, q1, q2, q3⟩ := hS k hk' cs t hc
    rcases h3 with e | e | e
    · exact q1 e
    · exact q2 e
    · exact q3 e
theorem xrput (h : RZ B w r g d n gc Gr A) {i : Nat} (hi : i < n) (fr : Int) (a : Option Addr) (m c : Nat) (bs : List Int) (hs : SL w a m bs) :
    Calls Try.prog 23 #[.pointer (some ⟨r, 0, none⟩), .int .i64 i, .int .i64 fr, .slice a m c] w fun e w' => e = .returned (.bool (decide ((A i).length < 16))) ∧ RZ B w' r g d n gc Gr (upd A i (addA (A i) (fr, bs))) ∧ RT B w w' := by
  obtain ⟨V, h⟩ := h
  by_cases hq : (A i).length < 16
  · rw [decide_eq_true hq, addA, if_pos hq]
    exact (rput_room h hi fr a m c bs hs hq).mono fun e w' ⟨he, ⟨V', hw, _⟩, ht⟩ => ⟨he, ⟨V', hw⟩, h.rt ht⟩
  · rw [decide_eq_false hq, addA, if_neg hq, upd_same]
    exact (rput_full h hi fr _ (by omega)).mono fun e w' ⟨he, hw⟩ => ⟨he, hw ▸ ⟨V, h⟩, hw ▸ RT.refl _ _⟩
theorem xhas_ok (h : RZ B w r g d n gc Gr A) {i : Nat} (hi : i < n) : IsHas r i w := by
  obtain ⟨V, h⟩ := h
  exact has_ok h hi
theorem xhas_bad (h : RZ B w r g d n gc Gr A) {port : Int} (hi : port < 0 ∨ (n : Int) ≤ port) : NoHas r port w := by
  obtain ⟨V, h⟩ := h
  exact has_bad h hi
theorem RZ.cs (h : RZ B w r g d n gc Gr A) : w.cell? ⟨r, 0, none⟩ = some (.slice (some ⟨g, 0, none⟩) n gc) ∧ r < w.heap.size ∧ g < w.heap.size ∧ 1 ≤ n ∧ n ≤ 32 ∧ ∀ i, i < n → w.cell? ⟨g, i, none⟩ = some (.int .i64 (Gr i)) := by
  obtain ⟨V, h⟩ := h
  exact ⟨h.cc.1, h.lt, h.glt, h.n1, h.n32, fun i hi => h.gi hi⟩
theorem rinject_any (h : RZ B w r g d n gc Gr A) (to : Int) (a : Option Addr) (m c : Nat) (bs : List Int) (hs : SL w a m bs) :
    Calls Try.prog 13 #[.pointer (some ⟨r, 0, none⟩), .int .i64 to, .slice a m c] w fun e w' => e = .returned (.int .i64 (injR n A to bs.length)) ∧ RZ B w' r g d n gc Gr (injA n A to bs) ∧ RT B w w' := by
  have em := hs.1
  by_cases hf : to < 0 ∨ (n : Int) ≤ to
  · rw [injR, if_pos hf, injA, if_pos hf]
    have H : Hid (NoHas r to w) := xhas_bad h hf
    have HX : Hid (RZ B w r g d n gc Gr A) := h
    clear h hs hf em
    go_enter Try.func13, Try.ntmps13
    go_wp2_with fail
    refine Calls.mono H.out ?_
    rintro e w ⟨rfl, rfl⟩
    go_wp2_with fail
    go_ret
    exact ⟨rfl, HX.out, RT.refl _ _⟩
  · obtain ⟨i, rfl⟩ := Int.eq_ofNat_of_zero_le (show 0 ≤ to by omega)
    have hi : i < n := by omega
    simp only [injR, injA, if_neg hf, Int.toNat_natCast]
    have H : Hid (IsHas r i w) := xhas_ok h hi
    rw [em]
    by_cases hm : 2048 < m
    · rw [if_pos hm, if_pos hm]
      have hm' : (2048 : Int) < (m : Int) := by omega
      have HX : Hid (RZ B w r g d n gc Gr A) := h
      clear h hs hf em
      go_enter Try.func13, Try.ntmps13
      go_wp2_with fail
      refine Calls.mono H.out ?_
      rintro e w ⟨rfl, rfl⟩
      go_wp2_with fail
      go_ret
      exact ⟨rfl, HX.out, RT.refl _ _⟩
    · rw [if_neg hm, if_neg hm]
      have hm' : ¬ (2048 : Int) < (m : Int) := by omega
      have PT := xrput h hi (-1) a m c bs hs
      clear h hs hf em
      by_cases hq : (A i).length < 16
      all_goals
        first
          | rw [if_pos hq]
          | rw [if_neg hq]
        first
          | rw [decide_eq_true hq] at PT
          | rw [decide_eq_false hq] at PT
        go_enter Try.func13, Try.ntmps13
        go_wp2_with fail
        refine Calls.mono H.out ?_
        rintro e w ⟨rfl, rfl⟩
        go_wp2_with fail
        refine PT.mono ?_
        rintro e w2 ⟨rfl, x2, t2⟩
        have HF : Hid (RZ B w2 r g d n gc Gr (upd A i (addA (A i) (-1, bs))) ∧ RT B w w2) := ⟨x2, t2⟩
        clear PT x2 t2
        go_wp2_with fail
        go_ret
        exact ⟨rfl, HF.out⟩
theorem xrjoin (h : RZ B w r g d n gc Gr A) {i : Nat} (hi : i < n) (x : Int) : Calls Try.prog 17 #[.pointer (some ⟨r, 0, none⟩), .int .i64 i, .int .i64 x] w fun e w' => e = .returned (.int .i64 0) ∧ RZ B w' r g d n gc (upd Gr i x) A ∧ RT B w w' := by
  obtain ⟨V, h⟩ := h
  exact (rjoin_ok h hi x).mono fun e w' ⟨he, hw, ht⟩ => ⟨he, ⟨V, hw⟩, h.rt ht⟩
theorem xrjoin_bad (h : RZ B w r g d n gc Gr A) {port : Int} (hi : port < 0 ∨ (n : Int) ≤ port) (x : Int) : Calls Try.prog 17 #[.pointer (some ⟨r, 0, none⟩), .int .i64 port, .int .i64 x] w fun e w' => e = .returned (.int .i64 2) ∧ w' = w := by
  obtain ⟨V, h⟩ := h
  exact rjoin_bad h hi x
theorem xrreceive_bad (h : RZ B w r g d n gc Gr A) {port : Int} (hi : port < 0 ∨ (n : Int) ≤ port) : Calls Try.prog 15 #[.pointer (some ⟨r, 0, none⟩), .int .i64 port] w fun e w' => e = .returned (.tuple #[.agg #[.int .i64 0, .string ByteArray.empty], .bool false]) ∧ Below w.heap.size w w' := by
  obtain ⟨V, h⟩ := h
  exact rreceive_bad h hi
theorem xrreceive_none (h : RZ B w r g d n gc Gr A) {i : Nat} (hi : i < n) (hq : A i = []) : Calls Try.prog 15 #[.pointer (some ⟨r, 0, none⟩), .int .i64 i] w fun e w' => e = .returned (.tuple #[.agg #[.int .i64 0, .string ByteArray.empty], .bool false]) ∧ Below w.heap.size w w' := by
  obtain ⟨V, h⟩ := h
  exact rreceive_none h hi hq
theorem xrreceive_some (h : RZ B w r g d n gc Gr A) {i : Nat} (hi : i < n) (fr : Int) (bs : List Int) (q : List (Int × List Int)) (hq : A i = (fr, bs) :: q) : Calls Try.prog 15 #[.pointer (some ⟨r, 0, none⟩), .int .i64 i] w fun e w' => e = .returned (.tuple #[.agg #[.int .i64 fr, .string (strOfNums bs)], .bool true]) ∧ RZ B w' r g d n gc Gr (upd A i q) ∧ RT B w w' := by
  obtain ⟨V, h⟩ := h
  exact (rreceive_some h hi fr bs q hq).mono fun e w' ⟨he, ⟨V', hw, _⟩, ht⟩ => ⟨he, ⟨V', hw⟩, h.rt ht⟩
end
end Go.Proofs.Ytnjkbpjkaignbaa
