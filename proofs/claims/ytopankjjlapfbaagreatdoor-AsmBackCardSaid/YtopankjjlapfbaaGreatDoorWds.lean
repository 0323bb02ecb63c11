/-
  The words of a program, in plain terms; what a slice of words comes to when one is appended.
-/
import Derived.Test.YtopankjjlapfbaaGreatDoorReadD
import Derived.Test.YtopankjjlapfbaaGreatDoorWalks11
namespace Go.Proofs.YtopankjjlapfbaaGreatDoor
open Go.RowKit
set_option linter.unusedVariables false
set_option maxRecDepth 100000

/-- where an instruction's number leads to: its mark, or the number itself -/
def immO (M : ByteArray → Option Int) (out : List Int) (s : St) : Option Int :=
  if s.target = ⟨#[]⟩ then some s.imm else (M s.target).map fun a => a - (out.length : Int)
/-- a statement's words behind those that are there -/
def stepW (M : ByteArray → Option Int) (out : List Int) (s : St) : Option (List Int) :=
  if s.op = 0 then some (out ++ List.replicate s.count.toNat s.value)
  else match immO M out s with
    | some i => if validP s.op s.rd s.rs1 s.rs2 i = true then some (out ++ [wordP s.op s.rd s.rs1 s.rs2 i]) else none
    | none => none
/-- all words, or the line of the first statement that has none -/
def wordsP (M : ByteArray → Option Int) : List Int → List St → Except Int (List Int)
  | out, [] => .ok out
  | out, s :: r => match stepW M out s with
    | some out' => wordsP M out' r
    | none => .error s.line

theorem info31 : (Tryz.prog.info? 31).map (fun i => (i.zero, i.size, i.bytes)) = some (some (.int .u32 0), 1, 4) := by kernel_rfl
theorem u23 : Tryz.prog.underlying 23 = some (.slice 31) := by kernel_rfl

/-- a slice of words, the program's own -/
structure WR (wS w : World) (v : Value) (out : List Int) : Prop where
  form : ∃ a cap, v = .slice a out.length cap
  row : w.ownsRow wS.heap.size 31 1 v out.length (out.map (Value.int .u32))
  bel : Below wS.heap.size wS w

theorem WR.push {wS w : World} {v : Value} {out : List Int} (h : WR wS w v out) (x : Int) (hl : out.length < 1000000000) :
    ∃ v' w', (Builtin.append_ #[23, 23] 23 #[v, .slice (some ⟨w.heap.size, 0, none⟩) 1 1]).run Tryz.prog (w.alloc (.cells #[.int .u32 x] 31)) = .ok v' w' ∧ WR wS w' v' (out ++ [x]) ∧
      (w.alloc (.cells #[.int .u32 x] 31)).grownBy w' v.ownBlock ∧ (v'.ownBlock = v.ownBlock ∨ v'.ownBlock = some (w.heap.size + 1)) := by
  obtain ⟨i0, hi, hz0, hz1, hz2⟩ := info_parts info31
  have hbs := h.bel.size
  obtain ⟨v', w', hrun, h1, h2, _, h4⟩ := run_append_own_at (P := Tryz.prog) (w.alloc (.cells #[.int .u32 x] 31)) wS.heap.size 23 23 31 i0 _ 1 4 u23 hi hz0 hz1 hz2 rfl (by decide) v out.length (out.map (Value.int .u32)) (h.row.alloc _) ⟨w.heap.size, 0, none⟩ 1 1 [.int .u32 x] rfl
    (cell_one_new w (.int .u32 x) 31) (fun u hu => by simp at hu; subst hu; rfl) (by unfold maxLen; omega) (by omega) (by simp; omega)
  have hrow : w'.ownsRow wS.heap.size 31 1 v' (out ++ [x]).length ((out ++ [x]).map (Value.int .u32)) := by
    rw [List.length_append, List.map_append]
    exact h1
  refine ⟨v', w', hrun, ⟨?_, hrow, ?_⟩, h2, by simpa using h4⟩
  · obtain ⟨_, hq | ⟨g, c, cur, hq, _⟩⟩ := hrow
    · simp at hq
    · exact ⟨_, _, hq⟩
  · exact (h.bel.alloc hbs _).grown h2 (by simp; omega) (fun k hk => (h.row.lt k hk).1)

theorem WR.below {wS w w' : World} {v : Value} {out : List Int} (h : WR wS w v out) (hb : Below w.heap.size w w') : WR wS w' v out :=
  ⟨h.form, row_keep h.row (fun b hbk => hb.block b (row_lt h.row b hbk)), h.bel.trans (hb.mono h.bel.size)⟩

theorem wpList_append_run {P : Program} {w : World} {ops : Array Oper} {rest : List Oper} {o : Oper} {a : Act} {Q : Exit → Act → World → Prop} (hgd : o.guard = none) (s x : Operand) (t : TypeId)
    (ho : o.op = .call { callee := .builtin .append, args := #[s, x], argTypes := #[t, t] }) (vs vx v' : Value) (w' : World) (hs : a.eval s = vs) (hx : a.eval x = vx)
    (hrun : (Builtin.append_ #[t, t] o.type #[vs, vx]).run P w = .ok v' w') (h : wpList P ops Q rest (a.put o.dst v') w') : wpList P ops Q (o :: rest) a w :=
  wpList_plain hgd fun _ hK => by
    unfold Oper.wp
    simp [execOp, ho, resolve, invoke, builtin, hs, hx, hrun, Result.andThen]
    exact hK _ _ h

theorem flat9 : ∀ (sts : List St) (k j : Nat) (hk : k < sts.length), j < 9 → (sts.flatMap stC)[k * 9 + j]? = (stC sts[k])[j]?
  | s :: r, 0, j, hk, hj => by
    simp only [List.flatMap_cons, Nat.zero_mul, Nat.zero_add, List.getElem_cons_zero]
    exact List.getElem?_append_left hj
  | s :: r, k + 1, j, hk, hj => by
    simp only [List.flatMap_cons, List.getElem_cons_succ]
    have h9 : (stC s).length = 9 := rfl
    rw [List.getElem?_append_right (by omega), h9, show (k + 1) * 9 + j - 9 = k * 9 + j by omega]
    exact flat9 r k j (by simpa using hk) hj
end Go.Proofs.YtopankjjlapfbaaGreatDoor
