/-
  A program while its lines are read; a mark.
-/
import Derived.Test.YtopankjjlapfbaaGreatDoorStm
import Derived.RegionTactic
import Derived.BigRegion
namespace Go.Proofs.YtopankjjlapfbaaGreatDoor
open Go.RowKit
set_option linter.unusedVariables false
set_option maxRecDepth 100000

/-- a program as it lies in memory while its lines are read -/
structure PW (w0 w : World) (PB mo mk nm : Nat) (OM M : ByteArray → Option Int) (sv : Value) (sts : List St) (len : Int) : Prop where
  p0 : w.cell? ⟨PB, 0, none⟩ = some (.map (some mo))
  p1 : w.cell? ⟨PB, 1, none⟩ = some (.map (some mk))
  p2 : w.cell? ⟨PB, 2, none⟩ = some sv
  p3 : w.cell? ⟨PB, 3, none⟩ = some (.int .i64 len)
  fz : ∀ i, w.frozen? ⟨PB, i, none⟩ = false
  row : w.ownsRow w0.heap.size 95 9 sv sts.length (sts.flatMap stC)
  mO : MapIs w mo 48 OM
  mM : MapIs w mk nm M
  d1 : PB ≠ mo
  d2 : PB ≠ mk
  d3 : mo ≠ mk
  s1 : sv.ownBlock ≠ some PB
  s2 : sv.ownBlock ≠ some mo
  s3 : sv.ownBlock ≠ some mk
  h1 : w0.heap.size ≤ PB
  h2 : w0.heap.size ≤ mo
  h3 : w0.heap.size ≤ mk
  bel : Below w0.heap.size w0 w

theorem row_keep {w w' : World} {base e z n : Nat} {v : Value} {xs : List Value} (h : w.ownsRow base e z v n xs) (hk : ∀ b, v.ownBlock = some b → w'.heap[b]? = w.heap[b]?) : w'.ownsRow base e z v n xs := by
  obtain ⟨hl, h | ⟨g, c, cur, rfl, h1, h2, h3⟩⟩ := h
  · exact ⟨hl, Or.inl h⟩
  · exact ⟨hl, Or.inr ⟨g, c, cur, rfl, h1, (hk g rfl).trans h2, h3⟩⟩
theorem row_lt {w : World} {base e z n : Nat} {v : Value} {xs : List Value} (h : w.ownsRow base e z v n xs) (b : Nat) (hb : v.ownBlock = some b) : b < w.heap.size := by
  obtain ⟨hl, h | ⟨g, c, cur, rfl, h1, h2, h3⟩⟩ := h
  · rw [h.1] at hb; cases hb
  · cases hb
    rcases Nat.lt_or_ge g w.heap.size with h' | h'
    · exact h'
    · rw [Array.getElem?_eq_none h'] at h2; cases h2

theorem PW.lt {w0 w : World} {PB mo mk nm : Nat} {OM M : ByteArray → Option Int} {sv : Value} {sts : List St} {len : Int} (h : PW w0 w PB mo mk nm OM M sv sts len) : PB < w.heap.size :=
  World.block_lt_of_cell? w ⟨PB, 0, none⟩ h.p0

theorem PW.below {w0 w w' : World} {PB mo mk nm : Nat} {OM M : ByteArray → Option Int} {sv : Value} {sts : List St} {len : Int} (h : PW w0 w PB mo mk nm OM M sv sts len) (hb : Below w.heap.size w w') : PW w0 w' PB mo mk nm OM M sv sts len := by
  have e : ∀ i, w'.cell? ⟨PB, i, none⟩ = w.cell? ⟨PB, i, none⟩ := fun i => hb.cell (p := ⟨PB, i, none⟩) h.lt
  have f : ∀ i, w'.frozen? ⟨PB, i, none⟩ = w.frozen? ⟨PB, i, none⟩ := fun i => hb.frozen (p := ⟨PB, i, none⟩) h.lt
  exact ⟨by rw [e]; exact h.p0, by rw [e]; exact h.p1, by rw [e]; exact h.p2, by rw [e]; exact h.p3, fun i => by rw [f]; exact h.fz i, row_keep h.row (fun b hbk => hb.block b (row_lt h.row b hbk)), h.mO.keep (hb.block _ h.mO.lt), h.mM.keep (hb.block _ h.mM.lt), h.d1, h.d2, h.d3, h.s1, h.s2, h.s3, h.h1, h.h2, h.h3, h.bel.trans (hb.mono h.bel.size)⟩

theorem mark_any (w0 w : World) (PB mo mk nm : Nat) (OM M : ByteArray → Option Int) (sv : Value) (sts : List St) (len : Int) (name : ByteArray) (hs : name.size ≤ 65536) (he : Errs w0) (hn : nm < 1000000)
    (h : PW w0 w PB mo mk nm OM M sv sts len) :
    Calls Tryz.prog 39 #[.pointer (some ⟨PB, 0, none⟩), .string name] w fun e w' => e = .returned (.bool ((M name).isNone && nameB name)) ∧
      PW w0 w' PB mo mk (nm + 1) OM (if ((M name).isNone && nameB name) = true then putM M name len else M) sv sts len ∧ w.grownBy w' (some mk) := by
  have hlook := h.mM.look name hs
  have k0 := h.p0
  have k1 := h.p1
  have k3 := h.p3
  have hmw : MapIs w mk (nm + 1) M := by
    obtain ⟨D, ⟨es, cl, q1, q2, q3, q4⟩, hD⟩ := h.mM
    exact ⟨D, ⟨es, cl, q1, q2, by omega, q4⟩, hD⟩
  have hwk : PW w0 w PB mo mk (nm + 1) OM M sv sts len := { h with mM := hmw }
  cases hM : M name with
  | some x =>
    rw [hM] at hlook
    simp only [Option.isSome_some, Option.getD_some] at hlook
    simp only [Option.isNone_some, Bool.false_and, Bool.false_eq_true, if_false]
    have HW : Hid (PW w0 w PB mo mk (nm + 1) OM M sv sts len) := hwk
    clear h hwk hmw
    go_enter Tryz.func39, Tryz.ntmps39
    go_wp2_with fail
    go_ret
    exact ⟨rfl, HW.out, ⟨rfl, rfl, rfl, Nat.le_refl _, fun _ _ _ => rfl⟩⟩
  | none =>
    rw [hM] at hlook
    simp only [Option.isSome_none, Option.getD_none] at hlook
    simp only [Option.isNone_none, Bool.true_and]
    have CN := isName_any name hs w (he.below h.bel)
    cases hnb : nameB name with
    | false =>
      rw [hnb] at CN
      simp only [Bool.false_eq_true, if_false]
      have HW : Hid (PW w0 w PB mo mk (nm + 1) OM M sv sts len) := hwk
      clear h hwk hmw
      go_enter Tryz.func39, Tryz.ntmps39
      go_wp2_with fail
      refine CN.mono ?_
      rintro e w1 ⟨rfl, hb⟩
      go_wp2_with fail
      go_ret
      exact ⟨rfl, HW.out.below hb, ⟨hb.os, hb.tape, hb.output, hb.size, fun k hk _ => hb.block k hk⟩⟩
    | true =>
      rw [hnb] at CN
      simp only [if_true]
      have HW : Hid (PW w0 w PB mo mk nm OM M sv sts len) := h
      clear h hwk hmw
      go_enter Tryz.func39, Tryz.ntmps39
      go_wp2_with fail
      refine CN.mono ?_
      rintro e w1 ⟨rfl, hb⟩
      have h1 := HW.out.below hb
      have hd : (w1.drew).heap = w1.heap := rfl
      obtain ⟨w', hrun, hM', hg⟩ := (h1.mM.keep (w' := w1.drew) rfl).put name hs len hn
      have j0 := h1.p0
      have j1 := h1.p1
      have j3 := h1.p3
      have HF : Hid (PW w0 w' PB mo mk (nm + 1) OM (putM M name len) sv sts len) := by
        have hb2 : ∀ b, b < w1.heap.size → b ≠ mk → w'.heap[b]? = w1.heap[b]? := fun b hlt hne => hg.block b hlt (by simpa using hne)
        have e : ∀ i, w'.cell? ⟨PB, i, none⟩ = w1.cell? ⟨PB, i, none⟩ := fun i => World.cell?_of_block (a := ⟨PB, i, none⟩) (hb2 PB h1.lt h1.d2)
        have f : ∀ i, w'.frozen? ⟨PB, i, none⟩ = w1.frozen? ⟨PB, i, none⟩ := fun i => World.frozen?_of_block (a := ⟨PB, i, none⟩) (hb2 PB h1.lt h1.d2)
        exact ⟨by rw [e]; exact h1.p0, by rw [e]; exact h1.p1, by rw [e]; exact h1.p2, by rw [e]; exact h1.p3, fun i => by rw [f]; exact h1.fz i, row_keep h1.row (fun b hbk => hb2 b (row_lt h1.row b hbk) (fun hbm => h1.s3 (by rw [hbk, hbm]))), h1.mO.keep (hb2 _ h1.mO.lt h1.d3), hM', h1.d1, h1.d2, h1.d3, h1.s1, h1.s2, h1.s3, h1.h1, h1.h2, h1.h3, (h1.bel.drew).grown hg h1.bel.size (fun k hk => by cases hk; exact h1.h3)⟩
      have HG : Hid (w.grownBy w' (some mk)) := ⟨hg.os.trans hb.os, hg.tape.trans hb.tape, hg.output.trans hb.output, Nat.le_trans hb.size hg.size, fun k hk hr => (hg.block k (Nat.lt_of_lt_of_le hk hb.size) hr).trans (hb.block k hk)⟩
      clear h1 hM' hg hb
      go_wp2_with fail
      go_region
      all_goals
        go_wp2_with fail
        go_ret
        exact ⟨rfl, HF.out, HG.out⟩
end Go.Proofs.YtopankjjlapfbaaGreatDoor
