/-
  What the program reads of a word: numbers, registers, names.
-/
import Derived.Test.YtopankjjlapfbaaGreatDoorFmt
import Derived.Test.YtopankjjlapfbaaGreatDoorAsm
import Derived.Deep.QuietTactic
import Derived.BigQuiet
import Derived.Lib.AtoiErrMem
namespace Go.Proofs.YtopankjjlapfbaaGreatDoor
open Go.RowKit
set_option linter.unusedVariables false
set_option maxRecDepth 100000

/-- what the variables of the program and the library hold -/
structure Errs (w : World) : Prop where
  esyn : ∃ t p, w.var? Tryz.prog "strconv.ErrSyntax" = some #[.iface t p]
  erng : ∃ t p, w.var? Tryz.prog "strconv.ErrRange" = some #[.iface t p]
  mx : ∃ m, w.cell? ⟨3, 0, none⟩ = some (.int .i64 m)
  big : 10 ≤ w.heap.size

theorem below_drewN {B : Nat} {w w' : World} (h : Below B w w') (k : Nat) : Below B w (w'.drewN k) := ⟨h.os, h.tape, h.output, h.size, h.block⟩

theorem isDigit_any (z : Int) (w : World) :
    Calls Tryz.prog 100 #[.int .u8 z] w fun e w' => e = .returned (.bool (digB z)) ∧ w' = w := by
  go_enter Tryz.func100, Tryz.ntmps100
  by_cases h : 48 ≤ z
  · go_wp2
    go_ret
    exact ⟨by unfold digB; simp [h], rfl⟩
  · go_wp2
    go_ret
    exact ⟨by unfold digB; simp; omega, rfl⟩

theorem atoi_any (s : ByteArray) (hs : s.size ≤ 65536) (w : World) (he : Errs w) :
    Calls Tryz.prog 115 #[.string s] w fun e w' => Below w.heap.size w w' ∧ ∃ v, (∃ x, Lib.atoiAll s.data.toList = .ok x ∧ v = x ∧ e = .returned (.tuple #[.int .i64 v, .nilIface])) ∨
      ((∀ x, Lib.atoiAll s.data.toList ≠ .ok x) ∧ ∃ N, e = .returned (.tuple #[.int .i64 v, .iface 197 (.pointer (some ⟨N, 0, none⟩))])) := by
  cases ha : Lib.atoiAll s.data.toList with
  | ok v =>
    refine (Tryz.strconv_Atoi_ok s (by omega) v ha w).mono ?_
    rintro e w' ⟨rfl, h⟩
    refine ⟨?_, v, Or.inl ⟨v, rfl, rfl, rfl⟩⟩
    rcases h with rfl | ⟨t, rfl⟩
    · exact Below.refl _ _
    · exact Lib.bytesWorld_below w _ t
  | «syntax» =>
    obtain ⟨t, p, hv⟩ := he.esyn
    refine (Tryz.strconv_Atoi_syntax_var s (by omega) ha t p w hv).mono ?_
    rintro e w' ⟨N, rfl, _, _, hb⟩
    exact ⟨hb, 0, Or.inr ⟨fun x h => (by cases h), N, rfl⟩⟩
  | range =>
    obtain ⟨t, p, hv⟩ := he.erng
    refine (Tryz.strconv_Atoi_range_var s (by omega) ha t p w hv).mono ?_
    rintro e w' ⟨N, rfl, _, _, hb⟩
    exact ⟨hb, _, Or.inr ⟨fun x h => (by cases h), N, rfl⟩⟩

theorem number_any (s : ByteArray) (hs : s.size ≤ 65536) (w : World) (he : Errs w) :
    Calls Tryz.prog 102 #[.string s] w fun e w' => (∃ v, e = .returned (.tuple #[.int .i64 v, .bool (numO s).isSome]) ∧ ∀ x, numO s = some x → v = x) ∧ Below w.heap.size w w' := by
  by_cases h1 : s = ⟨#[48]⟩
  · subst h1
    go_enter Tryz.func102, Tryz.ntmps102
    go_wp2_with fail
    go_ret2
    exact ⟨⟨0, rfl, fun x hx => by cases hx; rfl⟩, Below.refl _ _⟩
  have hn : numO s = if Lib.trimPrefix s.data.toList [45] = [] ∨ 15 < (Lib.trimPrefix s.data.toList [45]).length ∨ ((Lib.trimPrefix s.data.toList [45]).headD 0).toNat < 49 then none
      else match Lib.atoiAll s.data.toList with
        | .ok v => some v
        | _ => none := by unfold numO; rw [if_neg h1]; rfl
  have CT := Tryz.strings_TrimPrefix s ⟨#[45]⟩
  have CA := atoi_any s hs
  have h1' : (s.toList == [48]) = false := by
    rw [beq_eq_false_iff_ne]
    intro h
    exact h1 (ByteArray.ext (Array.toList_inj.1 ((Go.ByteArray.toList_eq s).symm.trans h)))
  rw [show (⟨#[45]⟩ : ByteArray).data.toList = [45] from rfl] at CT
  generalize Lib.trimPrefix s.data.toList [45] = d at *
  cases d with
  | nil =>
    rw [if_pos (Or.inl rfl)] at hn
    rw [hn]
    clear hn
    go_enter Tryz.func102, Tryz.ntmps102
    go_wp2_with fail
    refine (CT _).mono ?_
    rintro e w1 ⟨rfl, rfl⟩
    go_wp2_with fail
    go_ret2
    refine ⟨?_, Below.refl _ _⟩
    first
      | exact ⟨0, rfl, fun x hx => by cases hx⟩
      | exact ⟨0, rfl⟩
  | cons c r =>
    have hd' : ((⟨(c :: r).toArray⟩ : ByteArray).toList == []) = false := by
      rw [beq_eq_false_iff_ne, Go.ByteArray.toList_eq]
      simp
    have hsz : (⟨(c :: r).toArray⟩ : ByteArray).size = r.length + 1 := by show (c :: r).toArray.size = _; simp
    have hc0 : ∀ h : 0 < (⟨(c :: r).toArray⟩ : ByteArray).size, ((⟨(c :: r).toArray⟩ : ByteArray)[0]'h) = c := fun h => rfl
    generalize hdd : (⟨(c :: r).toArray⟩ : ByteArray) = dd at *
    clear hdd
    by_cases hbad : 15 < r.length + 1 ∨ c.toNat < 49
    · rw [if_pos (Or.inr (by simpa using hbad))] at hn
      rw [hn]
      clear hn CA
      by_cases hb1 : 15 < r.length + 1
      · go_enter Tryz.func102, Tryz.ntmps102
        go_wp2_with fail
        refine (CT _).mono ?_
        rintro e w1 ⟨rfl, rfl⟩
        go_wp2_with fail
        go_ret2
        refine ⟨?_, Below.refl _ _⟩
        first
          | exact ⟨0, rfl, fun x hx => by cases hx⟩
          | exact ⟨0, rfl⟩
      · have hb2 : c.toNat < 49 := by omega
        go_enter Tryz.func102, Tryz.ntmps102
        go_wp2_with fail
        refine (CT _).mono ?_
        rintro e w1 ⟨rfl, rfl⟩
        go_wp2_with fail
        go_ret2
        refine ⟨?_, Below.refl _ _⟩
        first
          | exact ⟨0, rfl, fun x hx => by cases hx⟩
          | exact ⟨0, rfl⟩
    · rw [if_neg (by simpa using hbad)] at hn
      have HO0 : ((∀ x, Lib.atoiAll s.data.toList = .ok x → numO s = some x) ∧ ((∀ x, Lib.atoiAll s.data.toList ≠ .ok x) → numO s = none)) := by
        refine ⟨fun x hx => by rw [hn, hx], fun hx => ?_⟩
        rw [hn]
        cases ha : Lib.atoiAll s.data.toList with
        | ok v => exact absurd ha (hx v)
        | «syntax» => rfl
        | range => rfl
      have HO : Hid ((∀ x, Lib.atoiAll s.data.toList = .ok x → numO s = some x) ∧ ((∀ x, Lib.atoiAll s.data.toList ≠ .ok x) → numO s = none)) := HO0
      clear HO0
      have hb1 : ¬ 15 < r.length + 1 := by omega
      have hb2 : ¬ c.toNat < 49 := by omega
      clear hn hbad
      generalize numO s = O at *
      go_enter Tryz.func102, Tryz.ntmps102
      go_wp2_with fail
      refine (CT _).mono ?_
      rintro e w1 ⟨rfl, rfl⟩
      go_wp2_with fail
      refine (CA _ he).mono ?_
      rintro e w2 ⟨hb, v, h⟩
      rcases h with ⟨x, hx, rfl, rfl⟩ | ⟨hx, N, rfl⟩
      · have hOO := HO.out.1 _ hx
        subst hOO
        go_wp2_with fail
        go_quiet (fail)
        go_wp2_with fail
        go_ret2
        exact ⟨⟨_, rfl, fun x hx => by cases hx; rfl⟩, below_drewN hb _⟩
      · have hOO := HO.out.2 hx
        subst hOO
        go_wp2_with fail
        go_quiet (fail)
        go_wp2_with fail
        go_ret2
        exact ⟨⟨_, rfl, fun x hx => by cases hx⟩, below_drewN hb _⟩

theorem register_any (s : ByteArray) (hs : s.size ≤ 65536) (w : World) (he : Errs w) :
    Calls Tryz.prog 101 #[.string s] w fun e w' => (∃ v, e = .returned (.tuple #[.int .i64 v, .bool (regO s).isSome]) ∧ ∀ x, regO s = some x → v = x) ∧ Below w.heap.size w w' := by
  have C1 := Tryz.strings_CutPrefix s ⟨#[120]⟩
  have hsz : (⟨(Lib.trimPrefix s.data.toList [120]).toArray⟩ : ByteArray).size ≤ 65536 := by
    show (Lib.trimPrefix s.data.toList [120]).toArray.size ≤ _
    have h2 : s.data.toList.length = s.size := by rw [Array.length_toList]; rfl
    unfold Lib.trimPrefix
    split <;> simp <;> omega
  have C2 := fun w => number_any _ hsz w
  rw [show (⟨#[120]⟩ : ByteArray).data.toList = [120] from rfl] at C1
  have hr : regO s = if Lib.hasPrefix s.data.toList [120] = true then
      match numO ⟨(Lib.trimPrefix s.data.toList [120]).toArray⟩ with
      | some v => if 0 ≤ v ∧ v ≤ 15 then some v else none
      | none => none
    else none := by unfold regO; rfl
  generalize (⟨(Lib.trimPrefix s.data.toList [120]).toArray⟩ : ByteArray) = d at *
  generalize Lib.hasPrefix s.data.toList [120] = named at *
  generalize regO s = R at *
  generalize numO d = O at *
  go_enter Tryz.func101, Tryz.ntmps101
  go_wp2_with fail
  refine (C1 _).mono ?_
  rintro e w1 ⟨rfl, rfl⟩
  go_wp2_with fail
  refine (C2 _ he).mono ?_
  rintro e w2 ⟨⟨v, rfl, hv⟩, hb⟩
  cases named with
  | false =>
    simp at hr
    subst hr
    go_wp2_with fail
    go_ret2
    refine ⟨?_, hb⟩
    first
      | exact ⟨_, rfl, fun x hx => by cases hx⟩
      | exact ⟨_, rfl⟩
  | true =>
    cases O with
    | none =>
      simp at hr
      subst hr
      go_wp2_with fail
      go_ret2
      refine ⟨?_, hb⟩
      first
        | exact ⟨_, rfl, fun x hx => by cases hx⟩
        | exact ⟨_, rfl⟩
    | some x =>
      obtain rfl := hv x rfl
      simp at hr
      by_cases h0 : 0 ≤ v
      · by_cases h1 : v ≤ 15
        · rw [if_pos ⟨h0, h1⟩] at hr
          subst hr
          go_wp2_with fail
          go_ret2
          exact ⟨⟨v, by simp, fun x hx => by cases hx; rfl⟩, hb⟩
        · rw [if_neg (by omega)] at hr
          subst hr
          go_wp2_with fail
          go_ret2
          refine ⟨?_, hb⟩
          first
            | exact ⟨v, by simp [h1], fun x hx => by cases hx⟩
            | exact ⟨v, by simp [h1]⟩
      · rw [if_neg (by omega)] at hr
        subst hr
        go_wp2_with fail
        go_ret2
        refine ⟨?_, hb⟩
        first
          | exact ⟨_, rfl, fun x hx => by cases hx⟩
          | exact ⟨_, rfl⟩

theorem Errs.below {w w' : World} (h : Errs w) (hb : Below w.heap.size w w') : Errs w' := by
  have hv : ∀ n a, w.var? Tryz.prog n = some a → w'.var? Tryz.prog n = some a := by
    intro n a ha
    unfold World.var? at *
    cases hg : Tryz.prog.globalNamed n with
    | none => simp [hg] at ha
    | some g =>
      simp only [hg, Option.bind_some] at ha ⊢
      have hlt : g < w.heap.size := by
        rcases Nat.lt_or_ge g w.heap.size with h' | h'
        · exact h'
        · rw [Array.getElem?_eq_none h'] at ha; simp at ha
      rw [hb.block g hlt]
      exact ha
  obtain ⟨t1, p1, e1⟩ := h.esyn
  obtain ⟨t2, p2, e2⟩ := h.erng
  obtain ⟨m, e3⟩ := h.mx
  have hbig := h.big
  exact ⟨⟨t1, p1, hv _ _ e1⟩, ⟨t2, p2, hv _ _ e2⟩, ⟨m, by rw [hb.cell (p := ⟨3, 0, none⟩) (by show 3 < _; omega)]; exact e3⟩, Nat.le_trans hbig hb.size⟩

end Go.Proofs.YtopankjjlapfbaaGreatDoor
