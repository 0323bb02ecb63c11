/-
  An entry of a map literal, at the operation: a law for walks. Elements are read as themselves.
  The tables of what operations have: maps that functions fill, and what is looked up in them.
  The table by shapes, and what an operation has: its contract.
  What an operation has (fieldsOf): its contract; what is looked up in the tables.
-/
import Derived.Test.YtopankjjlapfbaaGreatDoorWalks5
import Derived.Maps.OwnSet
import Derived.Test.YtopankjjlapfbaaGreatDoorWalks6
namespace Go.Proofs.YtopankjjlapfbaaGreatDoor
open Go.RowKit Go.Maps
set_option linter.unusedVariables false

/-- an element reads as itself -/
def RV (v : Value) : Option (DataW Value × List MemPlace) := some (.held v, [])

theorem wpList_insert_own {P : Program} (w : World) {ops : Array Oper} {rest : List Oper} {o : Oper} {a : Act} {Q : Exit → Act → World → Prop}
    (hg : o.guard = none) (m x v : Operand) (t : TypeId) (hop : o.op = Op.insert t m x v)
    (k e : TypeId) (K : Keyed P k) (ht : P.underlying t = some (.map k e)) (b n : Nat) (D : DataW Value)
    (hm : a.eval m = .map (some b)) (hown : w.ownsMap P k RV b n D) (hn : n < maxLen) (key val : Value) (kl : Lit) (hx : a.eval x = key) (hv : a.eval v = val) (hkey : keyOf P k key = some kl)
    (hK : ∀ w', w'.ownsMap P k RV b (n + 1) (D.put kl (.held val)) → w.grownBy w' (some b) → wpList P ops Q rest (a.put o.dst undef) w') :
    wpList P ops Q (o :: rest) a w := by
  refine wpList_plain hg fun K' hK' => ?_
  obtain ⟨w', hrun, r1, r2⟩ := hown.update K ht hn hkey (show RV val = some (.held val, []) from rfl)
  unfold Oper.wp
  simp [execOp, hop, hm, hx, hv, hrun, Result.andThen]
  exact hK' _ _ (hK w' r1 r2)

theorem keep_cell {w w1 : World} {m : Nat} (hg : w.grownBy w1 (some m)) {B i : Nat} {v : Value} (h : w.cell? ⟨B, i, none⟩ = some v) (hlt : B < w.heap.size) (hne : B ≠ m) : w1.cell? ⟨B, i, none⟩ = some v :=
  (World.cell?_of_block (hg.block B hlt (by simpa using hne))).trans h

end Go.Proofs.YtopankjjlapfbaaGreatDoor
namespace Go.Proofs.YtopankjjlapfbaaGreatDoor
open Go.RowKit Go.Maps
set_option linter.unusedVariables false
set_option maxRecDepth 100000
theorem u3 : Tryz.prog.underlying 3 = some (.int .i64) := by kernel_rfl
theorem u58 : Tryz.prog.underlying 158 = some (.map 3 123) := by kernel_rfl
theorem law3 : Keyed Tryz.prog 3 := int_keyed u3

/-- what instructions have, as it lies in the program -/
def fld (a b c : Bool) (lo hi : Int) : Value := .agg #[.bool a, .bool b, .bool c, .int .i64 lo, .int .i64 hi]
def shiftF : Value := fld true true false 0 63
def ctrlF : Value := fld true true false 0 4095
def opD : DataW Value := (((((((DataW.map [] : DataW Value).put (.int .i64 37) (.held (fld true true false 0 0))).put (.int .i64 18) (.held shiftF)).put (.int .i64 19) (.held shiftF)).put (.int .i64 20) (.held shiftF)).put (.int .i64 46) (.held ctrlF)).put (.int .i64 47) (.held ctrlF)).put (.int .i64 48) (.held ctrlF)

/-- the blocks that lie beside the map while it is filled -/
structure OpW (w w1 : World) : Prop where
  a0 : w1.cell? ⟨w.heap.size, 0, none⟩ = some (.bool true)
  a1 : w1.cell? ⟨w.heap.size, 1, none⟩ = some (.bool true)
  a2 : w1.cell? ⟨w.heap.size, 2, none⟩ = some (.bool false)
  a3 : w1.cell? ⟨w.heap.size, 3, none⟩ = some (.int .i64 0)
  a4 : w1.cell? ⟨w.heap.size, 4, none⟩ = some (.int .i64 63)
  b0 : w1.cell? ⟨w.heap.size + 1, 0, none⟩ = some (.bool true)
  b1 : w1.cell? ⟨w.heap.size + 1, 1, none⟩ = some (.bool true)
  b2 : w1.cell? ⟨w.heap.size + 1, 2, none⟩ = some (.bool false)
  b3 : w1.cell? ⟨w.heap.size + 1, 3, none⟩ = some (.int .i64 0)
  b4 : w1.cell? ⟨w.heap.size + 1, 4, none⟩ = some (.int .i64 4095)
  size : w.heap.size + 3 ≤ w1.heap.size
  below : Below w.heap.size w w1

theorem OpW.grown {w w1 w2 : World} (h : OpW w w1) (hg : w1.grownBy w2 (some (w.heap.size + 1 + 1))) : OpW w w2 := by
  have hs := h.size
  have e0 : w.heap.size < w1.heap.size := by omega
  have e1 : w.heap.size + 1 < w1.heap.size := by omega
  have n0 : w.heap.size ≠ w.heap.size + 1 + 1 := by omega
  have n1 : w.heap.size + 1 ≠ w.heap.size + 1 + 1 := by omega
  exact ⟨keep_cell hg h.a0 e0 n0, keep_cell hg h.a1 e0 n0, keep_cell hg h.a2 e0 n0, keep_cell hg h.a3 e0 n0, keep_cell hg h.a4 e0 n0,
    keep_cell hg h.b0 e1 n1, keep_cell hg h.b1 e1 n1, keep_cell hg h.b2 e1 n1, keep_cell hg h.b3 e1 n1, keep_cell hg h.b4 e1 n1,
    Nat.le_trans hs hg.size, h.below.grown hg h.below.size (fun j hj => by cases hj; omega)⟩

theorem OpW_start (w : World) : OpW w (((w.alloc (.cells #[.bool true, .bool true, .bool false, .int .i64 0, .int .i64 63] 123)).alloc (.cells #[.bool true, .bool true, .bool false, .int .i64 0, .int .i64 4095] 123)).alloc (.map #[] 0)) := by
  have hb : Below w.heap.size w (((w.alloc (.cells #[.bool true, .bool true, .bool false, .int .i64 0, .int .i64 63] 123)).alloc (.cells #[.bool true, .bool true, .bool false, .int .i64 0, .int .i64 4095] 123)).alloc (.map #[] 0)) :=
    (((Below.refl _ _).alloc (by simp) _).alloc (by simp) _).alloc (by simp; omega) _
  constructor
  case below => exact hb
  all_goals simp [go_sem]

theorem bcell {B : Nat} {W w1 : World} (hb : Below B W w1) : (∀ b o, b < B → w1.cell? ⟨b, o, none⟩ = W.cell? ⟨b, o, none⟩) ∧ (∀ b o, b < B → w1.frozen? ⟨b, o, none⟩ = W.frozen? ⟨b, o, none⟩) :=
  ⟨fun b o h => hb.cell (p := ⟨b, o, none⟩) h, fun b o h => hb.frozen (p := ⟨b, o, none⟩) h⟩

theorem ownsMap_new {w : World} {n : Nat} (h : w.heap.size = n) (P : Program) (k : TypeId) : (w.alloc (.map #[] 0)).ownsMap P k RV n 0 (.map []) := h ▸ World.ownsMap_made w P k RV

theorem opFields_any (w : World) :
    Calls Tryz.prog 87 #[] w fun e w' => ∃ b, e = .returned (.map (some b)) ∧ w'.ownsMap Tryz.prog 3 RV b 7 opD ∧ Below w.heap.size w w' := by
  have hmm := @run_makeMap Tryz.prog
  go_enter Tryz.func87, Tryz.ntmps87
  go_wp2_with (first
    | (refine wpList_insert_own _ rfl _ _ _ 158 rfl 3 123 law3 u58 _ _ _ rfl (by assumption) (by decide) _ _ _ rfl rfl (keyOf_int_mk u3 (by decide)) ?_; intro w1 hown1 hg1; have ho := OpW.grown (by assumption) hg1; have a0 := ho.a0; have a1 := ho.a1; have a2 := ho.a2; have a3 := ho.a3; have a4 := ho.a4; have b0 := ho.b0; have b1 := ho.b1; have b2 := ho.b2; have b3 := ho.b3; have b4 := ho.b4; clear hg1)
    | (refine wpList_insert_own _ rfl _ _ _ 158 rfl 3 123 law3 u58 _ _ _ rfl (ownsMap_new (by simp) _ _) (by decide) _ _ _ rfl rfl (keyOf_int_mk u3 (by decide)) ?_; intro w1 hown1 hg1; have ho := OpW.grown (OpW_start w) hg1; have a0 := ho.a0; have a1 := ho.a1; have a2 := ho.a2; have a3 := ho.a3; have a4 := ho.a4; have b0 := ho.b0; have b1 := ho.b1; have b2 := ho.b2; have b3 := ho.b3; have b4 := ho.b4; clear hg1)
    | fail)
  go_ret
  exact ⟨_, rfl, by assumption, OpW.below (by assumption)⟩

theorem span14 (w : World) :
    Calls Tryz.prog 105 #[.int .i64 14] w fun e w' => e = .returned (.agg #[.int .i64 (-8192), .int .i64 8191]) ∧ Below w.heap.size w w' := by
  go_enter Tryz.func105, Tryz.ntmps105
  go_wp2
  exact bodyPost_ret (v := .agg #[.int .i64 (-8192), .int .i64 8191]) (by simp [results, Tryz.results105, go_sem]) rfl ⟨rfl, (Below.refl _ _).alloc (Nat.le_refl _) _⟩
theorem span18 (w : World) :
    Calls Tryz.prog 105 #[.int .i64 18] w fun e w' => e = .returned (.agg #[.int .i64 (-131072), .int .i64 131071]) ∧ Below w.heap.size w w' := by
  go_enter Tryz.func105, Tryz.ntmps105
  go_wp2
  exact bodyPost_ret (v := .agg #[.int .i64 (-131072), .int .i64 131071]) (by simp [results, Tryz.results105, go_sem]) rfl ⟨rfl, (Below.refl _ _).alloc (Nat.le_refl _) _⟩
end Go.Proofs.YtopankjjlapfbaaGreatDoor
namespace Go.Proofs.YtopankjjlapfbaaGreatDoor
open Go.RowKit Go.Maps
set_option linter.unusedVariables false
set_option maxRecDepth 100000
theorem u63 : Tryz.prog.underlying 163 = some (.int .i64) := by kernel_rfl
theorem u61 : Tryz.prog.underlying 161 = some (.map 163 123) := by kernel_rfl
theorem law63 : Keyed Tryz.prog 163 := int_keyed u63

def shD : DataW Value := (((((((DataW.map [] : DataW Value).put (.int .i64 0) (.held (fld false false false 0 0))).put (.int .i64 1) (.held (fld true true true 0 0))).put (.int .i64 2) (.held (fld true true false (-8192) 8191))).put (.int .i64 3) (.held (fld false true true (-8192) 8191))).put (.int .i64 4) (.held (fld false true true (-8192) 8191))).put (.int .i64 5) (.held (fld true false false (-131072) 131071))).put (.int .i64 6) (.held (fld false true false 0 0))

/-- the blocks that lie beside the map while it is filled -/
structure ShW (w w1 : World) : Prop where
  a0 : w1.cell? ⟨w.heap.size, 0, none⟩ = some (.int .i64 (-8192))
  a1 : w1.cell? ⟨w.heap.size, 1, none⟩ = some (.int .i64 8191)
  b0 : w1.cell? ⟨w.heap.size + 1, 0, none⟩ = some (.int .i64 (-131072))
  b1 : w1.cell? ⟨w.heap.size + 1, 1, none⟩ = some (.int .i64 131071)
  size : w.heap.size + 3 ≤ w1.heap.size
  below : Below w.heap.size w w1

theorem ShW.grown {w w1 w2 : World} (h : ShW w w1) (hg : w1.grownBy w2 (some (w.heap.size + 1 + 1))) : ShW w w2 := by
  have hs := h.size
  have e0 : w.heap.size < w1.heap.size := by omega
  have e1 : w.heap.size + 1 < w1.heap.size := by omega
  have n0 : w.heap.size ≠ w.heap.size + 1 + 1 := by omega
  have n1 : w.heap.size + 1 ≠ w.heap.size + 1 + 1 := by omega
  exact ⟨keep_cell hg h.a0 e0 n0, keep_cell hg h.a1 e0 n0, keep_cell hg h.b0 e1 n1, keep_cell hg h.b1 e1 n1,
    Nat.le_trans hs hg.size, h.below.grown hg h.below.size (fun j hj => by cases hj; omega)⟩

theorem ShW_start (w : World) : ShW w (((w.alloc (.cells #[.int .i64 (-8192), .int .i64 8191] 121)).alloc (.cells #[.int .i64 (-131072), .int .i64 131071] 121)).alloc (.map #[] 0)) := by
  have hb : Below w.heap.size w (((w.alloc (.cells #[.int .i64 (-8192), .int .i64 8191] 121)).alloc (.cells #[.int .i64 (-131072), .int .i64 131071] 121)).alloc (.map #[] 0)) :=
    (((Below.refl _ _).alloc (by simp) _).alloc (by simp) _).alloc (by simp; omega) _
  constructor
  case below => exact hb
  all_goals simp [go_sem]

theorem shFields_any (w : World) :
    Calls Tryz.prog 88 #[] w fun e w' => ∃ b, e = .returned (.map (some b)) ∧ w'.ownsMap Tryz.prog 163 RV b 7 shD ∧ Below w.heap.size w w' := by
  have hmm := @run_makeMap Tryz.prog
  go_enter Tryz.func88, Tryz.ntmps88
  go_wp2_with fail
  refine (span14 _).mono ?_
  rintro e w1 ⟨rfl, hb1⟩
  go_wp2_with fail
  refine (span18 _).mono ?_
  rintro e w2 ⟨rfl, hb2⟩
  have hb : Below w.heap.size w w2 := hb1.trans (hb2.mono hb1.size)
  clear hb1 hb2
  go_wp2_with (first
    | (refine wpList_insert_own _ rfl _ _ _ 161 rfl 163 123 law63 u61 _ _ _ rfl (by assumption) (by decide) _ _ _ rfl rfl (keyOf_int_mk u63 (by decide)) ?_; intro w3 hown1 hg1; have ho := ShW.grown (by assumption) hg1; have a0 := ho.a0; have a1 := ho.a1; have b0 := ho.b0; have b1 := ho.b1; clear hg1)
    | (refine wpList_insert_own _ rfl _ _ _ 161 rfl 163 123 law63 u61 _ _ _ rfl (ownsMap_new (by simp) _ _) (by decide) _ _ _ rfl rfl (keyOf_int_mk u63 (by decide)) ?_; intro w3 hown1 hg1; have ho := ShW.grown (ShW_start w2) hg1; have a0 := ho.a0; have a1 := ho.a1; have b0 := ho.b0; have b1 := ho.b1; clear hg1)
    | fail)
  go_ret
  exact ⟨_, rfl, by assumption, hb.trans ((ShW.below (by assumption)).mono hb.size)⟩
end Go.Proofs.YtopankjjlapfbaaGreatDoor
namespace Go.Proofs.YtopankjjlapfbaaGreatDoor
open Go.RowKit Go.Maps
set_option linter.unusedVariables false
set_option maxRecDepth 100000

theorem wpList_lookup_ok_RV {P : Program} (w : World) {ops : Array Oper} {rest : List Oper} {o : Oper} {a : Act} {Q : Exit → Act → World → Prop}
    (hg : o.guard = none) (m x : Operand) (t : TypeId) (hop : o.op = Op.lookup t m x true)
    (k e : TypeId) (K : Keyed P k) (ht : P.underlying t = some (.map k e)) {z : Value} (hz : (zeroValue e).run P w = .ok z w) (b n : Nat) (D : DataW Value)
    (hm : a.eval m = .map (some b)) (hown : w.ownsMap P k RV b n D) (key : Value) (kl : Lit) (hx : a.eval x = key) (hkey : keyOf P k key = some kl)
    (val : Value) (has : Bool) (hat : D.atKey kl (.held z) = .held val) (hhas : Maps.has D kl = has)
    (hK : wpList P ops Q rest (a.put o.dst (.tuple #[val, .bool has])) w) :
    wpList P ops Q (o :: rest) a w :=
  wpList_lookup_own_ok w hg m x t hop k e K ht RV hz (.held z) [] rfl b n D hm hown key kl hx hkey (fun v ps hv => by
    rw [hat] at hv
    obtain rfl : v = val := by simpa [RV] using (congrArg (Option.map Prod.fst) hv)
    rw [hhas]
    exact hK)

theorem wpList_lookup_RV {P : Program} (w : World) {ops : Array Oper} {rest : List Oper} {o : Oper} {a : Act} {Q : Exit → Act → World → Prop}
    (hg : o.guard = none) (m x : Operand) (t : TypeId) (hop : o.op = Op.lookup t m x false)
    (k e : TypeId) (K : Keyed P k) (ht : P.underlying t = some (.map k e)) {z : Value} (hz : (zeroValue e).run P w = .ok z w) (b n : Nat) (D : DataW Value)
    (hm : a.eval m = .map (some b)) (hown : w.ownsMap P k RV b n D) (key : Value) (kl : Lit) (hx : a.eval x = key) (hkey : keyOf P k key = some kl)
    (val : Value) (hat : D.atKey kl (.held z) = .held val)
    (hK : wpList P ops Q rest (a.put o.dst val) w) :
    wpList P ops Q (o :: rest) a w := by
  refine wpList_plain hg fun K' hK' => ?_
  obtain ⟨v, ps, hrun, hv⟩ := hown.lookup K ht hz (show RV z = some (.held z, []) from rfl) hkey
  rw [hat] at hv
  obtain rfl : v = val := by simpa [RV] using (congrArg (Option.map Prod.fst) hv)
  unfold Oper.wp
  simp [execOp, hop, hm, hx, hrun, Result.andThen]
  exact hK' _ _ hK

theorem zero47 (w : World) : (zeroValue 123).run Tryz.prog w = .ok (fld false false false 0 0) w := by kernel_rfl

/-- what an operation has, as it lies in the program -/
def fldOf (op : Int) : Value := fld (rdP op) (rs1P op) (rs2P op) (loP op) (hiP op)
def Special (op : Int) : Prop := op = 37 ∨ (18 ≤ op ∧ op ≤ 20) ∨ (46 ≤ op ∧ op ≤ 48)

theorem op_yes (op : Int) (h : Special op) : Maps.has opD (.int .i64 op) = true ∧ (∀ z, opD.atKey (.int .i64 op) z = .held (fldOf op)) ∧ shapeB op = true := by
  have hc : op = 37 ∨ op = 18 ∨ op = 19 ∨ op = 20 ∨ op = 46 ∨ op = 47 ∨ op = 48 := by unfold Special at h; omega
  rcases hc with rfl | rfl | rfl | rfl | rfl | rfl | rfl
  all_goals exact ⟨by rfl, fun z => by rfl, by rfl⟩

theorem op_no (op : Int) (h : ¬ Special op) : Maps.has opD (.int .i64 op) = false := by
  unfold Special at h
  have hne : ∀ k : Int, op ≠ k → (Lit.int .i64 op) ≠ (Lit.int .i64 k) := fun k hk e => hk (by injection e)
  unfold opD
  rw [has_put_other (hne _ (by omega)), has_put_other (hne _ (by omega)), has_put_other (hne _ (by omega)), has_put_other (hne _ (by omega)), has_put_other (hne _ (by omega)), has_put_other (hne _ (by omega)), has_put_other (hne _ (by omega))]
  rfl

theorem sh_at (op : Int) (h : ¬ Special op) (z : DataW Value) : shD.atKey (.int .i64 (shapeN op)) z = .held (fldOf op) := by
  unfold Special at h
  have hc := shape_cases op
  have e1 : ¬ (18 ≤ op ∧ op ≤ 20 ∨ 46 ≤ op ∧ op ≤ 48) := by omega
  have e2 : ¬ (18 ≤ op ∧ op ≤ 20) := by omega
  have e3 : ¬ (46 ≤ op ∧ op ≤ 48) := by omega
  have e4 : op ≠ 37 := by omega
  unfold fldOf rdP rs1P rs2P loP hiP shapeN
  rw [if_neg e1, if_neg e2, if_neg e3]
  clear e1 e2 e3 h
  rcases hc with ⟨hs, _⟩ | ⟨hs, _⟩ | ⟨hs, _⟩ | ⟨hs, _⟩ | ⟨hs, _⟩ | ⟨hs, _⟩ | ⟨hs, _⟩ | ⟨hs, _⟩
  all_goals
    rw [hs]
    simp only [e4, ne_eq, not_false_eq_true, and_true]
    rfl

theorem shN_wf (op : Int) : (Lit.int .i64 (shapeN op)).wf = true := by
  unfold shapeN
  have hc := shape_cases op
  rcases hc with ⟨hs, _⟩ | ⟨hs, _⟩ | ⟨hs, _⟩ | ⟨hs, _⟩ | ⟨hs, _⟩ | ⟨hs, _⟩ | ⟨hs, _⟩ | ⟨hs, _⟩
  all_goals rw [hs]; rfl

theorem fieldsOf_special (op : Int) (h : Special op) (hw : (Lit.int .i64 op).wf = true) (w : World) :
    Calls Tryz.prog 57 #[.int .i64 op] w fun e w' => e = .returned (.tuple #[fldOf op, .bool (shapeB op)]) ∧ Below w.heap.size w w' := by
  obtain ⟨h1, h2, h3⟩ := op_yes op h
  rw [h3]
  have H2 := h2 (.held (fld false false false 0 0))
  clear h2 h3 h
  unfold fldOf fld at *
  generalize rdP op = f1 at *
  generalize rs1P op = f2 at *
  generalize rs2P op = f3 at *
  generalize loP op = f4 at *
  generalize hiP op = f5 at *
  go_enter Tryz.func57, Tryz.ntmps57
  go_wp2_with fail
  refine (opFields_any _).mono ?_
  rintro e w1 ⟨b, rfl, hown, hb1⟩
  have hb : Below w.heap.size w w1 := ((Below.refl _ _).alloc (Nat.le_refl _) _).trans (hb1.mono (by simp))
  obtain ⟨hcc, hff⟩ := bcell hb1
  have hs1 : w.heap.size < w1.heap.size := by have := hb1.size; simp at this; omega
  have HB : Hid (Below w.heap.size w w1) := hb
  simp only [World.size_alloc] at hcc hff
  clear hb1 hb
  go_wp2_with (first
    | (refine wpList_lookup_ok_RV _ rfl _ _ 158 rfl 3 123 law3 u58 (zero47 _) _ _ _ rfl hown _ _ rfl (keyOf_int_mk u3 hw) _ _ H2 h1 ?_; clear H2 h1 hown)
    | fail)
  exact bodyPost_ret (v := .tuple #[.agg #[.bool f1, .bool f2, .bool f3, .int .i64 f4, .int .i64 f5], .bool true]) (by simp [results, Tryz.results57, go_sem, hcc, hs1]) rfl
    ⟨rfl, (((((HB.out.setCell (by simp) _).setCell (by simp) _).setCell (by simp) _).setCell (by simp) _).setCell (by simp) _).alloc (by simp; omega) _⟩

theorem fieldsOf_plain (op : Int) (h : ¬ Special op) (hw : (Lit.int .i64 op).wf = true) (w : World) :
    Calls Tryz.prog 57 #[.int .i64 op] w fun e w' => e = .returned (.tuple #[fldOf op, .bool (shapeB op)]) ∧ Below w.heap.size w w' := by
  have h1 := op_no op h
  have H2 : opD.atKey (.int .i64 op) (.held (fld false false false 0 0)) = .held (fld false false false 0 0) := atKey_of_not_has h1 _
  have H3 := sh_at op h (.held (fld false false false 0 0))
  have H4 := shN_wf op
  have H5 := shape_any op
  clear h
  unfold fldOf fld at *
  generalize rdP op = f1 at *
  generalize rs1P op = f2 at *
  generalize rs2P op = f3 at *
  generalize loP op = f4 at *
  generalize hiP op = f5 at *
  generalize shapeN op = sn at *
  generalize shapeB op = sb at *
  go_enter Tryz.func57, Tryz.ntmps57
  go_wp2_with fail
  refine (opFields_any _).mono ?_
  rintro e w1 ⟨b, rfl, hown, hb1⟩
  have hb : Below w.heap.size w w1 := ((Below.refl _ _).alloc (Nat.le_refl _) _).trans (hb1.mono (by simp))
  obtain ⟨hcc, hff⟩ := bcell hb1
  have hs1 : w.heap.size < w1.heap.size := by have := hb1.size; simp at this; omega
  have HB : Hid (Below w.heap.size w w1) := hb
  simp only [World.size_alloc] at hcc hff
  clear hb1 hb
  go_wp2_with (first
    | (refine wpList_lookup_ok_RV _ rfl _ _ 158 rfl 3 123 law3 u58 (zero47 _) _ _ _ rfl hown _ _ rfl (keyOf_int_mk u3 hw) _ _ H2 h1 ?_; clear H2 h1 hown)
    | fail)
  refine (H5 _).mono ?_
  rintro e w2 ⟨rfl, rfl⟩
  go_wp2_with fail
  refine (shFields_any _).mono ?_
  rintro e w3 ⟨b3, rfl, hown3, hb3⟩
  obtain ⟨hcc3, hff3⟩ := bcell hb3
  have hs3 : w.heap.size < w3.heap.size := by have := hb3.size; simp at this; omega
  have HB3 : Hid (Below w.heap.size w w3) := (HB.out.alloc (by omega) _).trans (hb3.mono (by simp; omega))
  simp only [World.size_alloc] at hcc3 hff3
  clear hb3
  have hlt : w.heap.size < w1.heap.size + 1 := by omega
  go_wp2_with (first
    | (refine wpList_lookup_RV _ rfl _ _ 161 rfl 163 123 law63 u61 (zero47 _) _ _ _ rfl hown3 _ _ rfl (keyOf_int_mk u63 H4) _ H3 ?_; clear H3 hown3)
    | fail)
  exact bodyPost_ret (v := .tuple #[.agg #[.bool f1, .bool f2, .bool f3, .int .i64 f4, .int .i64 f5], .bool sb]) (by simp [results, Tryz.results57, go_sem, hcc, hs1, hcc3, hlt]) rfl
    ⟨rfl, ((((HB3.out.setCell (by simp) _).setCell (by simp) _).setCell (by simp) _).setCell (by simp) _).setCell (by simp) _⟩

theorem fieldsOf_any (op : Int) (hw : (Lit.int .i64 op).wf = true) (w : World) :
    Calls Tryz.prog 57 #[.int .i64 op] w fun e w' => e = .returned (.tuple #[fldOf op, .bool (shapeB op)]) ∧ Below w.heap.size w w' := by
  by_cases h : Special op
  · exact fieldsOf_special op h hw w
  · exact fieldsOf_plain op h hw w
end Go.Proofs.YtopankjjlapfbaaGreatDoor
