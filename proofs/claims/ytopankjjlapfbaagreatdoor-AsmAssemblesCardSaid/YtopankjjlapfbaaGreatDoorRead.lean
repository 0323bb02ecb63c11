/-
  A line of a program, in plain terms; what is sliced off its words; what is appended.
-/
import Derived.Test.YtopankjjlapfbaaGreatDoorMark
import Derived.Test.YtopankjjlapfbaaGreatDoorSplit
import Derived.Maps.AppendAt
import Derived.Laws.Slices
namespace Go.Proofs.YtopankjjlapfbaaGreatDoor
open Go.RowKit
set_option linter.unusedVariables false
set_option maxRecDepth 100000

/-- a program while its lines are read: its marks, its statements, its length -/
structure PSt where
  M : ByteArray → Option Int
  sts : List St
  len : Int
def markN (h : ByteArray) : ByteArray := ⟨(Lib.trimSuffix h.data.toList [58]).toArray⟩
/-- the mark of a line -/
def markP (S : PSt) (ws : List ByteArray) : Option (PSt × List ByteArray) :=
  match ws with
  | [] => some (S, [])
  | h :: r =>
    if Lib.hasSuffix h.data.toList [58] = true then
      (if ((S.M (markN h)).isNone && nameB (markN h)) = true then some ({ S with M := putM S.M (markN h) S.len }, r) else none)
    else some (S, h :: r)
/-- what stands behind it -/
def stmtP (OM : ByteArray → Option Int) (n : Int) (S : PSt) (ws : List ByteArray) : Option PSt :=
  match ws with
  | [] => some S
  | h :: os => match stmtO OM h os with
    | some s => some { S with sts := S.sts ++ [{ s with line := n }], len := S.len + s.count }
    | none => none
def readP (OM : ByteArray → Option Int) (n : Int) (S : PSt) (ws : List ByteArray) : Option PSt :=
  match markP S ws with
  | some (S', r) => stmtP OM n S' r
  | none => none

theorem tail_slice (A L : Nat) (hL : 1 ≤ L) (w : World) (ws : List ByteArray) (h : ByteArray) (hw : ws.length + 1 = L) (hA : A < w.heap.size)
    (hc : ∀ i, i < L → w.cell? ⟨A, i, none⟩ = some (.string ((h :: ws).getD i ⟨#[]⟩))) :
    ∃ sv, (∀ W, (Instr.sliceAt 71 (.slice (some ⟨A, 0, none⟩) L L) (some (.int .i64 1)) none none).run Tryz.prog W = .ok sv W) ∧ SlS w sv ws := by
  refine ⟨.slice (if L = 1 then some ⟨A, 0, none⟩ else some ⟨A, 1, none⟩) ws.length ws.length, fun W => ?_, ⟨_, _, rfl, fun hne => ?_⟩⟩
  · have hsz : (sizeOf 9).run Tryz.prog W = .ok 1 W := Tryz.sizeOf9 W
    have e1 : ws.length = L - 1 := by omega
    rw [e1]
    simp [go_sem, Tryz.underlying71]
    intro hlt
    omega
  · have : ws.length ≠ 0 := fun e => hne (List.length_eq_zero_iff.1 e)
    refine ⟨A, 1, by rw [if_neg (by omega)], hA, fun i hi => ?_⟩
    rw [Nat.add_comm]
    exact hc (i + 1) (by omega)

theorem info95 : (Tryz.prog.info? 95).map (fun i => (i.zero, i.size, i.bytes)) = some (some (.agg #[.int .i64 0, .int .i64 0, .int .i64 0, .int .i64 0, .int .i64 0, .int .i64 0, .string ⟨#[]⟩, .int .u32 0, .int .i64 0]), 9, 80) := by kernel_rfl
theorem u68 : Tryz.prog.underlying 68 = some (.slice 95) := by kernel_rfl

theorem append_st (w : World) (base : Nat) (sv : Value) (sts : List St) (s : St) (ty : TypeId) (B : Nat) (hown : w.ownsRow base 95 9 sv sts.length (sts.flatMap stC)) (hbase : base ≤ w.heap.size) (hl : sts.length < 100000)
    (hs : ∀ j u, (stC s)[j]? = some u → w.cell? ⟨B, j, none⟩ = some u) :
    ∃ sv' w', (Builtin.append_ #[68, 68] ty #[sv, .slice (some ⟨B, 0, none⟩) 1 1]).run Tryz.prog w = .ok sv' w' ∧ w'.ownsRow base 95 9 sv' (sts ++ [s]).length ((sts ++ [s]).flatMap stC) ∧ w.grownBy w' sv.ownBlock ∧
      (sv'.ownBlock = sv.ownBlock ∨ sv'.ownBlock = some w.heap.size) := by
  obtain ⟨i0, hi, hz0, hz1, hz2⟩ := info_parts info95
  obtain ⟨v', w', hrun, h1, h2, _, h4⟩ := run_append_own_at (P := Tryz.prog) w base 68 ty 95 i0 _ 9 80 u68 hi hz0 hz1 hz2 rfl (by decide) sv sts.length (sts.flatMap stC) hown ⟨B, 0, none⟩ 1 1 (stC s) rfl
    (fun j u hu => by rw [Lib.add_plain, Nat.zero_add]; exact hs j u hu) (fun u hu => by
      simp [stC] at hu
      rcases hu with rfl | rfl | rfl | rfl | rfl | rfl | rfl | rfl | rfl <;> rfl) (by unfold maxLen; omega) (by omega) hbase
  refine ⟨v', w', hrun, ?_, h2, h4⟩
  rw [List.length_append, List.flatMap_append]
  simpa using h1
end Go.Proofs.YtopankjjlapfbaaGreatDoor
