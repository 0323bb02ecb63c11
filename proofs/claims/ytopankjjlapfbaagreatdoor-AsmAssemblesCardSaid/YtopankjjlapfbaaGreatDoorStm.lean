/-
  What a line's words ask for, its mark left out.
-/
import Derived.Test.YtopankjjlapfbaaGreatDoorInstrD
import Derived.Test.YtopankjjlapfbaaGreatDoorMp
namespace Go.Proofs.YtopankjjlapfbaaGreatDoor
open Go.RowKit
set_option linter.unusedVariables false
set_option maxRecDepth 100000

def wordSt (v : Int) : St := ⟨0, 0, 0, 0, 0, 0, ⟨#[]⟩, v % 4294967296, 1⟩
def fillSt (n : Int) : St := ⟨0, 0, 0, 0, 0, 0, ⟨#[]⟩, 0, n⟩
/-- a statement -/
def stmtO (M : ByteArray → Option Int) (head : ByteArray) (os : List ByteArray) : Option St :=
  if head = ⟨#[46, 119, 111, 114, 100]⟩ then (withinO os (-2147483648) 4294967295).map wordSt
  else if head = ⟨#[46, 102, 105, 108, 108]⟩ then (withinO os 0 4096).map fillSt
  else match M head with
    | some op => instrO op os
    | none => none

theorem nine_zero (w : World) : Nine (w.alloc (Obj.cells #[Value.int .i64 0, .int .i64 0, .int .i64 0, .int .i64 0, .int .i64 0, .int .i64 0, .string ⟨#[]⟩, .int .u32 0, .int .i64 0] 95)) w.heap.size :=
  ⟨⟨_, by simp; rfl⟩, ⟨_, by simp; rfl⟩, ⟨_, by simp; rfl⟩, ⟨_, by simp; rfl⟩, ⟨_, by simp; rfl⟩, ⟨_, by simp; rfl⟩, ⟨_, by simp; rfl⟩, ⟨_, by simp; rfl⟩, ⟨_, by simp; rfl⟩, fun i => World.frozen?_alloc_new _ _ _ _, by simp⟩

theorem str_ne {s : ByteArray} {l : List UInt8} (h : s ≠ ⟨l.toArray⟩) : (s.toList == l) = false := by
  rw [beq_eq_false_iff_ne, Go.ByteArray.toList_eq]
  intro e
  exact h (ByteArray.ext (by rw [← e]))

set_option maxHeartbeats 1600000 in
theorem statement_any (PB mo n : Nat) (M : ByteArray → Option Int) (head : ByteArray) (os : List ByteArray) (v : Value) (w : World)
    (hp : w.cell? ⟨PB, 0, none⟩ = some (.map (some mo))) (hM : MapIs w mo n M) (hh : head.size ≤ 65536) (hv : SlS w v os) (hsz : ∀ o ∈ os, o.size ≤ 65536) (he : Errs w) :
    Calls Tryz.prog 41 #[.pointer (some ⟨PB, 0, none⟩), .string head, v] w fun e w' => (∃ s', e = .returned (.tuple #[stV s', .bool (stmtO M head os).isSome]) ∧ ∀ s, stmtO M head os = some s → s' = s) ∧ Below w.heap.size w w' := by
  have hb0 : Below w.heap.size w (w.alloc (Obj.cells #[Value.int .i64 0, .int .i64 0, .int .i64 0, .int .i64 0, .int .i64 0, .int .i64 0, .string ⟨#[]⟩, .int .u32 0, .int .i64 0] 95)) := (Below.refl _ _).alloc (Nat.le_refl _) _
  have he1 := he.below hb0
  have hv1 := hv.below hb0
  have hpl : PB < w.heap.size := World.block_lt_of_cell? w ⟨PB, 0, none⟩ hp
  have hml := hM.lt
  by_cases h1 : head = ⟨#[46, 119, 111, 114, 100]⟩
  · subst h1
    have hst : stmtO M ⟨#[46, 119, 111, 114, 100]⟩ os = (withinO os (-2147483648) 4294967295).map wordSt := by unfold stmtO; rw [if_pos rfl]
    rw [hst]
    have C1 := numberWithin_any v os (-2147483648) 4294967295 _ hv1 hsz he1
    generalize withinO os (-2147483648) 4294967295 = O at *
    clear hst hv hv1 he he1
    go_enter Tryz.func41, Tryz.ntmps41
    go_wp2_with fail
    refine C1.mono ?_
    rintro e w1 ⟨⟨x, rfl, hx⟩, hb⟩
    have hN := (nine_zero w).keep (w' := w1) (hb.block _ (by simp)) (by have := hb.size; simp at this; omega)
    have HB : Hid (Below w.heap.size w w1) := hb0.trans (hb.mono hb0.size)
    have HX : Hid (∀ y, O = some y → x = y) := hx
    clear hb hx hb0 C1
    generalize hos : O.isSome = ob at *
    have HOS : Hid (O.isSome = ob) := hos
    clear hos
    obtain ⟨r0, hr0⟩ := hN.c0
    obtain ⟨r1, hr1⟩ := hN.c1
    obtain ⟨r2, hr2⟩ := hN.c2
    obtain ⟨r3, hr3⟩ := hN.c3
    obtain ⟨r4, hr4⟩ := hN.c4
    obtain ⟨r5, hr5⟩ := hN.c5
    obtain ⟨r6, hr6⟩ := hN.c6
    obtain ⟨r7, hr7⟩ := hN.c7
    obtain ⟨r8, hr8⟩ := hN.c8
    have hrf := hN.fz
    clear hN
    go_wp2_with fail
    refine bodyPost_ret (v := .tuple #[stV (wordSt x), .bool ob]) (by unfold wordSt; simp [results, Tryz.results41, go_sem, hr0, hr1, hr2, hr3, hr4, hr5, hr6, hr7, hr8, stV, stC]) rfl
      ⟨⟨_, by rw [Option.isSome_map, HOS.out], fun s hs => ?_⟩, below_set9 HB.out (Nat.le_refl _) _ _ _ _ _ _ _ _ _⟩
    obtain ⟨y, hy, rfl⟩ := Option.map_eq_some_iff.1 hs
    rw [HX.out y hy]
  by_cases h2 : head = ⟨#[46, 102, 105, 108, 108]⟩
  · subst h2
    have hst : stmtO M ⟨#[46, 102, 105, 108, 108]⟩ os = (withinO os 0 4096).map fillSt := by unfold stmtO; rw [if_neg h1, if_pos rfl]
    rw [hst]
    have C1 := numberWithin_any v os 0 4096 _ hv1 hsz he1
    generalize withinO os 0 4096 = O at *
    clear hst hv hv1 he he1
    go_enter Tryz.func41, Tryz.ntmps41
    go_wp2_with fail
    refine C1.mono ?_
    rintro e w1 ⟨⟨x, rfl, hx⟩, hb⟩
    have hN := (nine_zero w).keep (w' := w1) (hb.block _ (by simp)) (by have := hb.size; simp at this; omega)
    have HB : Hid (Below w.heap.size w w1) := hb0.trans (hb.mono hb0.size)
    have HX : Hid (∀ y, O = some y → x = y) := hx
    clear hb hx hb0 C1
    generalize hos : O.isSome = ob at *
    have HOS : Hid (O.isSome = ob) := hos
    clear hos
    obtain ⟨r0, hr0⟩ := hN.c0
    obtain ⟨r1, hr1⟩ := hN.c1
    obtain ⟨r2, hr2⟩ := hN.c2
    obtain ⟨r3, hr3⟩ := hN.c3
    obtain ⟨r4, hr4⟩ := hN.c4
    obtain ⟨r5, hr5⟩ := hN.c5
    obtain ⟨r6, hr6⟩ := hN.c6
    obtain ⟨r7, hr7⟩ := hN.c7
    obtain ⟨r8, hr8⟩ := hN.c8
    have hrf := hN.fz
    clear hN
    go_wp2_with fail
    refine bodyPost_ret (v := .tuple #[stV (fillSt x), .bool ob]) (by unfold fillSt; simp [results, Tryz.results41, go_sem, hr0, hr1, hr2, hr3, hr4, hr5, hr6, hr7, hr8, stV, stC]) rfl
      ⟨⟨_, by rw [Option.isSome_map, HOS.out], fun s hs => ?_⟩, below_set9 HB.out (Nat.le_refl _) _ _ _ _ _ _ _ _ _⟩
    obtain ⟨y, hy, rfl⟩ := Option.map_eq_some_iff.1 hs
    rw [HX.out y hy]
  have hst : stmtO M head os = match M head with
    | some op => instrO op os
    | none => none := by unfold stmtO; rw [if_neg h1, if_neg h2]
  have e1 := str_ne (l := [46, 119, 111, 114, 100]) h1
  have e2 := str_ne (l := [46, 102, 105, 108, 108]) h2
  have hlook := (hM.keep (w' := (w.alloc (Obj.cells #[Value.int .i64 0, .int .i64 0, .int .i64 0, .int .i64 0, .int .i64 0, .int .i64 0, .string ⟨#[]⟩, .int .u32 0, .int .i64 0] 95))) (hb0.block _ hml)).look head hh
  cases hop : M head with
  | none =>
    rw [hop] at hst hlook
    rw [hst]
    simp only [Option.isSome_none, Option.getD_none] at hlook
    clear hst hv hv1 he he1 hM
    go_enter Tryz.func41, Tryz.ntmps41
    go_wp2_with fail
    exact bodyPost_ret (v := .tuple #[stV ⟨0, 0, 0, 0, 0, 0, ⟨#[]⟩, 0, 0⟩, .bool false]) (by simp [results, Tryz.results41, go_sem, stV, stC]) rfl
      ⟨⟨_, rfl, fun s hs => by cases hs⟩, hb0⟩
  | some op =>
    rw [hop] at hst hlook
    replace hst : stmtO M head os = instrO op os := hst
    rw [hst]
    simp only [Option.isSome_some, Option.getD_some] at hlook
    have C1 := instr_any op v os _ hv1 hsz he1
    generalize instrO op os = O at *
    clear hst hv hv1 he he1 hM
    go_enter Tryz.func41, Tryz.ntmps41
    go_wp2_with fail
    refine C1.mono ?_
    rintro e w1 ⟨⟨x, rfl, hx⟩, hb⟩
    have hN := (nine_zero w).keep (w' := w1) (hb.block _ (by simp)) (by have := hb.size; simp at this; omega)
    have HB : Hid (Below w.heap.size w w1) := hb0.trans (hb.mono hb0.size)
    have HX : Hid (∀ s, O = some s → x = s) := hx
    clear hb hx hb0 C1 hlook
    generalize hos : O.isSome = ob at *
    have HOS : Hid (O.isSome = ob) := hos
    clear hos
    obtain ⟨r0, hr0⟩ := hN.c0
    obtain ⟨r1, hr1⟩ := hN.c1
    obtain ⟨r2, hr2⟩ := hN.c2
    obtain ⟨r3, hr3⟩ := hN.c3
    obtain ⟨r4, hr4⟩ := hN.c4
    obtain ⟨r5, hr5⟩ := hN.c5
    obtain ⟨r6, hr6⟩ := hN.c6
    obtain ⟨r7, hr7⟩ := hN.c7
    obtain ⟨r8, hr8⟩ := hN.c8
    have hrf := hN.fz
    clear hN
    unfold stV stC
    go_wp2_with fail
    exact bodyPost_ret (v := .tuple #[stV x, .bool ob]) (by simp [results, Tryz.results41, go_sem, hr0, hr1, hr2, hr3, hr4, hr5, hr6, hr7, hr8, stV, stC]) rfl
      ⟨⟨_, by rw [HOS.out], HX.out⟩, below_set9 HB.out (Nat.le_refl _) _ _ _ _ _ _ _ _ _⟩
end Go.Proofs.YtopankjjlapfbaaGreatDoor
