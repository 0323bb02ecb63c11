/-
  What an operation has (fieldsOf): its contract; what is looked up in the tables.
-/
import Derived.Test.YtkckobbedpccfaaDoorIWalks8
namespace Go.Proofs.YtkckobbedpccfaaDoor.I
open Go.RowKit Go.Maps
set_option linter.unusedVariables false
set_option maxRecDepth 100000

theorem wpList_lookup_ok_RV {P : Program} (w : World) {ops : Array Oper} {rest : List Oper} {o : Oper} {a : Act} {Q : Exit → Act → World → Prop}
    (hg : o.guard = none) (m x : Operand) (t : TypeId) (hop : o.op = Op.lookup t m x true)
    (k e : TypeId) (K : Keyed P k) (ht : P.underlying t = some (.map k e)) {z : Value} (hz : (zeroValue e).run P w = .ok z w) (b n : Nat) (D : DataW Value)
    (hm : a.eval m = .map (some b)) (hown : w.ownsMap P k RV b n D) (key : Value) (kl : Lit) (hx : a.eval x = key) (hkey : keyOf P k key = some kl)
    (val : Value) (has : Bool) (hat : D.atKey kl (.held z) = .held val) (hhas : Maps.has D kl = has)
    (hK : wpList P ops Q rest (a.put o.dst (.tuple #[val, .bool has])) w) :
    wpList P ops Q (o :: rest) a w :=
  wpList_lookup_own_ok w hg m x t hop k e K ht RV hz (.held z) [] rfl b n D hm hown key kl hx hkey (fun v ps hv => by
    rw [hat] at hv
    obtain rfl : v = val := by simpa [RV] using (congrArg (Option.map Prod.fst) hv)
    rw [hhas]
    exact hK)

theorem wpList_lookup_RV {P : Program} (w : World) {ops : Array Oper} {rest : List Oper} {o : Oper} {a : Act} {Q : Exit → Act → World → Prop}
    (hg : o.guard = none) (m x : Operand) (t : TypeId) (hop : o.op = Op.lookup t m x false)
    (k e : TypeId) (K : Keyed P k) (ht : P.underlying t = some (.map k e)) {z : Value} (hz : (zeroValue e).run P w = .ok z w) (b n : Nat) (D : DataW Value)
    (hm : a.eval m = .map (some b)) (hown : w.ownsMap P k RV b n D) (key : Value) (kl : Lit) (hx : a.eval x = key) (hkey : keyOf P k key = some kl)
    (val : Value) (hat : D.atKey kl (.held z) = .held val)
    (hK : wpList P ops Q rest (a.put o.dst val) w) :
    wpList P ops Q (o :: rest) a w := by
  refine wpList_plain hg fun K' hK' => ?_
  obtain ⟨v, ps, hrun, hv⟩ := hown.lookup K ht hz (show RV z = some (.held z, []) from rfl) hkey
  rw [hat] at hv
  obtain rfl : v = val := by simpa [RV] using (congrArg (Option.map Prod.fst) hv)
  unfold Oper.wp
  simp [execOp, hop, hm, hx, hrun, Result.andThen]
  exact hK' _ _ hK

theorem zero47 (w : World) : (zeroValue 77).run Tryd.prog w = .ok (fld false false false 0 0) w := by kernel_rfl

/-- what an operation has, as it lies in the program -/
def fldOf (op : Int) : Value := fld (rdP op) (rs1P op) (rs2P op) (loP op) (hiP op)
def Special (op : Int) : Prop := op = 37 ∨ (18 ≤ op ∧ op ≤ 20) ∨ (46 ≤ op ∧ op ≤ 48)

theorem op_yes (op : Int) (h : Special op) : Maps.has opD (.int .i64 op) = true ∧ (∀ z, opD.atKey (.int .i64 op) z = .held (fldOf op)) ∧ shapeB op = true := by
  have hc : op = 37 ∨ op = 18 ∨ op = 19 ∨ op = 20 ∨ op = 46 ∨ op = 47 ∨ op = 48 := by unfold Special at h; omega
  rcases hc with rfl | rfl | rfl | rfl | rfl | rfl | rfl
  all_goals exact ⟨by rfl, fun z => by rfl, by rfl⟩

theorem op_no (op : Int) (h : ¬ Special op) : Maps.has opD (.int .i64 op) = false := by
  unfold Special at h
  have hne : ∀ k : Int, op ≠ k → (Lit.int .i64 op) ≠ (Lit.int .i64 k) := fun k hk e => hk (by injection e)
  unfold opD
  rw [has_put_other (hne _ (by omega)), has_put_other (hne _ (by omega)), has_put_other (hne _ (by omega)), has_put_other (hne _ (by omega)), has_put_other (hne _ (by omega)), has_put_other (hne _ (by omega)), has_put_other (hne _ (by omega))]
  rfl

theorem sh_at (op : Int) (h : ¬ Special op) (z : DataW Value) : shD.atKey (.int .i64 (shapeN op)) z = .held (fldOf op) := by
  unfold Special at h
  have hc := shape_cases op
  have e1 : ¬ (18 ≤ op ∧ op ≤ 20 ∨ 46 ≤ op ∧ op ≤ 48) := by omega
  have e2 : ¬ (18 ≤ op ∧ op ≤ 20) := by omega
  have e3 : ¬ (46 ≤ op ∧ op ≤ 48) := by omega
  have e4 : op ≠ 37 := by omega
  unfold fldOf rdP rs1P rs2P loP hiP shapeN
  rw [if_neg e1, if_neg e2, if_neg e3]
  clear e1 e2 e3 h
  rcases hc with ⟨hs, _⟩ | ⟨hs, _⟩ | ⟨hs, _⟩ | ⟨hs, _⟩ | ⟨hs, _⟩ | ⟨hs, _⟩ | ⟨hs, _⟩ | ⟨hs, _⟩
  all_goals
    rw [hs]
    simp only [e4, ne_eq, not_false_eq_true, and_true]
    rfl

theorem shN_wf (op : Int) : (Lit.int .i64 (shapeN op)).wf = true := by
  unfold shapeN
  have hc := shape_cases op
  rcases hc with ⟨hs, _⟩ | ⟨hs, _⟩ | ⟨hs, _⟩ | ⟨hs, _⟩ | ⟨hs, _⟩ | ⟨hs, _⟩ | ⟨hs, _⟩ | ⟨hs, _⟩
  all_goals rw [hs]; rfl

theorem fieldsOf_special (op : Int) (h : Special op) (hw : (Lit.int .i64 op).wf = true) (w : World) :
    Calls Tryd.prog 36 #[.int .i64 op] w fun e w' => e = .returned (.tuple #[fldOf op, .bool (shapeB op)]) ∧ Below w.heap.size w w' := by
  obtain ⟨h1, h2, h3⟩ := op_yes op h
  rw [h3]
  have H2 := h2 (.held (fld false false false 0 0))
  clear h2 h3 h
  unfold fldOf fld at *
  generalize rdP op = f1 at *
  generalize rs1P op = f2 at *
  generalize rs2P op = f3 at *
  generalize loP op = f4 at *
  generalize hiP op = f5 at *
  go_enter Tryd.func36, Tryd.ntmps36
  go_wp2_with fail
  refine (opFields_any _).mono ?_
  rintro e w1 ⟨b, rfl, hown, hb1⟩
  have hb : Below w.heap.size w w1 := ((Below.refl _ _).alloc (Nat.le_refl _) _).trans (hb1.mono (by simp))
  obtain ⟨hcc, hff⟩ := bcell hb1
  have hs1 : w.heap.size < w1.heap.size := by have := hb1.size; simp at this; omega
  have HB : Hid (Below w.heap.size w w1) := hb
  simp only [World.size_alloc] at hcc hff
  clear hb1 hb
  go_wp2_with (first
    | (refine wpList_lookup_ok_RV _ rfl _ _ 89 rfl 3 77 law3 u58 (zero47 _) _ _ _ rfl hown _ _ rfl (keyOf_int_mk u3 hw) _ _ H2 h1 ?_; clear H2 h1 hown)
    | fail)
  exact bodyPost_ret (v := .tuple #[.agg #[.bool f1, .bool f2, .bool f3, .int .i64 f4, .int .i64 f5], .bool true]) (by simp [results, Tryd.results36, go_sem, hcc, hs1]) rfl
    ⟨rfl, (((((HB.out.setCell (by simp) _).setCell (by simp) _).setCell (by simp) _).setCell (by simp) _).setCell (by simp) _).alloc (by simp; omega) _⟩

theorem fieldsOf_plain (op : Int) (h : ¬ Special op) (hw : (Lit.int .i64 op).wf = true) (w : World) :
    Calls Tryd.prog 36 #[.int .i64 op] w fun e w' => e = .returned (.tuple #[fldOf op, .bool (shapeB op)]) ∧ Below w.heap.size w w' := by
  have h1 := op_no op h
  have H2 : opD.atKey (.int .i64 op) (.held (fld false false false 0 0)) = .held (fld false false false 0 0) := atKey_of_not_has h1 _
  have H3 := sh_at op h (.held (fld false false false 0 0))
  have H4 := shN_wf op
  have H5 := shape_any op
  clear h
  unfold fldOf fld at *
  generalize rdP op = f1 at *
  generalize rs1P op = f2 at *
  generalize rs2P op = f3 at *
  generalize loP op = f4 at *
  generalize hiP op = f5 at *
  generalize shapeN op = sn at *
  generalize shapeB op = sb at *
  go_enter Tryd.func36, Tryd.ntmps36
  go_wp2_with fail
  refine (opFields_any _).mono ?_
  rintro e w1 ⟨b, rfl, hown, hb1⟩
  have hb : Below w.heap.size w w1 := ((Below.refl _ _).alloc (Nat.le_refl _) _).trans (hb1.mono (by simp))
  obtain ⟨hcc, hff⟩ := bcell hb1
  have hs1 : w.heap.size < w1.heap.size := by have := hb1.size; simp at this; omega
  have HB : Hid (Below w.heap.size w w1) := hb
  simp only [World.size_alloc] at hcc hff
  clear hb1 hb
  go_wp2_with (first
    | (refine wpList_lookup_ok_RV _ rfl _ _ 89 rfl 3 77 law3 u58 (zero47 _) _ _ _ rfl hown _ _ rfl (keyOf_int_mk u3 hw) _ _ H2 h1 ?_; clear H2 h1 hown)
    | fail)
  refine (H5 _).mono ?_
  rintro e w2 ⟨rfl, rfl⟩
  go_wp2_with fail
  refine (shFields_any _).mono ?_
  rintro e w3 ⟨b3, rfl, hown3, hb3⟩
  obtain ⟨hcc3, hff3⟩ := bcell hb3
  have hs3 : w.heap.size < w3.heap.size := by have := hb3.size; simp at this; omega
  have HB3 : Hid (Below w.heap.size w w3) := (HB.out.alloc (by omega) _).trans (hb3.mono (by simp; omega))
  simp only [World.size_alloc] at hcc3 hff3
  clear hb3
  have hlt : w.heap.size < w1.heap.size + 1 := by omega
  go_wp2_with (first
    | (refine wpList_lookup_RV _ rfl _ _ 92 rfl 94 77 law63 u61 (zero47 _) _ _ _ rfl hown3 _ _ rfl (keyOf_int_mk u63 H4) _ H3 ?_; clear H3 hown3)
    | fail)
  exact bodyPost_ret (v := .tuple #[.agg #[.bool f1, .bool f2, .bool f3, .int .i64 f4, .int .i64 f5], .bool sb]) (by simp [results, Tryd.results36, go_sem, hcc, hs1, hcc3, hlt]) rfl
    ⟨rfl, ((((HB3.out.setCell (by simp) _).setCell (by simp) _).setCell (by simp) _).setCell (by simp) _).setCell (by simp) _⟩

theorem fieldsOf_any (op : Int) (hw : (Lit.int .i64 op).wf = true) (w : World) :
    Calls Tryd.prog 36 #[.int .i64 op] w fun e w' => e = .returned (.tuple #[fldOf op, .bool (shapeB op)]) ∧ Below w.heap.size w w' := by
  by_cases h : Special op
  · exact fieldsOf_special op h hw w
  · exact fieldsOf_plain op h hw w
end Go.Proofs.YtkckobbedpccfaaDoor.I
