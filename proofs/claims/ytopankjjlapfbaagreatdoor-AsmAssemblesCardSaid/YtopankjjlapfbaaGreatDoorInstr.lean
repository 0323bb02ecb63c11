/-
  An operation and its operands, read.
-/
import Derived.Test.YtopankjjlapfbaaGreatDoorOpd
namespace Go.Proofs.YtopankjjlapfbaaGreatDoor
open Go.RowKit
set_option linter.unusedVariables false
set_option maxRecDepth 100000

theorem opdsO_snoc (p : Int) (o : ByteArray) : ∀ (s : St) (ps : List Int) (os : List ByteArray), ps.length = os.length →
    opdsO s (ps ++ [p]) (os ++ [o]) = match opdsO s ps os with
      | some s' => opdO s' p o
      | none => none
  | s, [], [], _ => by
    simp only [List.nil_append, opdsO]
    cases opdO s p o <;> rfl
  | s, q :: ps, r :: os, h => by
    simp only [List.cons_append, opdsO]
    cases opdO s q r with
    | none => rfl
    | some s' => exact opdsO_snoc p o s' ps os (by simpa using h)

/-- nothing comes of operands of which the first ones are none -/
theorem opdsO_none : ∀ (s : St) (ps : List Int) (os : List ByteArray) (k : Nat), opdsO s (ps.take k) (os.take k) = none → opdsO s ps os = none
  | s, [], os, k, h => by cases k <;> simp [opdsO] at h
  | s, p :: ps, [], k, h => by cases k <;> simp [opdsO] at h
  | s, p :: ps, o :: os, 0, h => by simp [opdsO] at h
  | s, p :: ps, o :: os, k + 1, h => by
    simp only [List.take_succ_cons, opdsO] at h ⊢
    cases hs : opdO s p o with
    | none => rfl
    | some s' =>
      rw [hs] at h
      exact opdsO_none s' ps os k h

/-- a statement as it lies in memory -/
structure StAt (w : World) (B : Nat) (s : St) : Prop where
  c0 : w.cell? ⟨B, 0, none⟩ = some (.int .i64 s.line)
  c1 : w.cell? ⟨B, 1, none⟩ = some (.int .i64 s.op)
  c2 : w.cell? ⟨B, 2, none⟩ = some (.int .i64 s.rd)
  c3 : w.cell? ⟨B, 3, none⟩ = some (.int .i64 s.rs1)
  c4 : w.cell? ⟨B, 4, none⟩ = some (.int .i64 s.rs2)
  c5 : w.cell? ⟨B, 5, none⟩ = some (.int .i64 s.imm)
  c6 : w.cell? ⟨B, 6, none⟩ = some (.string s.target)
  c7 : w.cell? ⟨B, 7, none⟩ = some (.int .u32 s.value)
  c8 : w.cell? ⟨B, 8, none⟩ = some (.int .i64 s.count)
  fz : ∀ i, w.frozen? ⟨B, i, none⟩ = false
  lt : B < w.heap.size
theorem StAt.below {w w' : World} {B : Nat} {s : St} (h : StAt w B s) (hb : Below w.heap.size w w') : StAt w' B s := by
  have e : ∀ i, w'.cell? ⟨B, i, none⟩ = w.cell? ⟨B, i, none⟩ := fun i => hb.cell (p := ⟨B, i, none⟩) h.lt
  have f : ∀ i, w'.frozen? ⟨B, i, none⟩ = w.frozen? ⟨B, i, none⟩ := fun i => hb.frozen (p := ⟨B, i, none⟩) h.lt
  exact ⟨by rw [e]; exact h.c0, by rw [e]; exact h.c1, by rw [e]; exact h.c2, by rw [e]; exact h.c3, by rw [e]; exact h.c4, by rw [e]; exact h.c5, by rw [e]; exact h.c6, by rw [e]; exact h.c7, by rw [e]; exact h.c8, fun i => by rw [f]; exact h.fz i, Nat.lt_of_lt_of_le h.lt hb.size⟩
end Go.Proofs.YtopankjjlapfbaaGreatDoor
