/-
  What an operation has (fieldsOf): its contract; what is looked up in the tables.
  Valid and Encode of package insn: their contracts.
  Encode of package insn: its contract.
  What is read out of a word (takeApart), and Decode of package insn: their contracts.
-/
import Derived.Test.YtkckobbedpccfaaGreatDoorQI3
import Derived.Test.YtkckobbedpccfaaGreatDoorQI2
namespace Go.Proofs.YtkckobbedpccfaaGreatDoor.I
open Go.RowKit Go.Maps
set_option linter.unusedVariables false
set_option maxRecDepth 100000

theorem wpList_lookup_ok_RV {P : Program} (w : World) {ops : Array Oper} {rest : List Oper} {o : Oper} {a : Act} {Q : Exit → Act → World → Prop}
    (hg : o.guard = none) (m x : Operand) (t : TypeId) (hop : o.op = Op.lookup t m x true)
    (k e : TypeId) (K : Keyed P k) (ht : P.underlying t = some (.map k e)) {z : Value} (hz : (zeroValue e).run P w = .ok z w) (b n : Nat) (D : DataW Value)
    (hm : a.eval m = .map (some b)) (hown : w.ownsMap P k RV b n D) (key : Value) (kl : Lit) (hx : a.eval x = key) (hkey : keyOf P k key = some kl)
    (val : Value) (has : Bool) (hat : D.atKey kl (.held z) = .held val) (hhas : Maps.has D kl = has)
    (hK : wpList P ops Q rest (a.put o.dst (.tuple #[val, .bool has])) w) :
    wpList P ops Q (o :: rest) a w :=
  wpList_lookup_own_ok w hg m x t hop k e K ht RV hz (.held z) [] rfl b n D hm hown key kl hx hkey (fun v ps hv => by
    rw [hat] at hv
    obtain rfl : v = val := by simpa [RV] using (congrArg (Option.map Prod.fst) hv)
    rw [hhas]
    exact hK)

theorem wpList_lookup_RV {P : Program} (w : World) {ops : Array Oper} {rest : List Oper} {o : Oper} {a : Act} {Q : Exit → Act → World → Prop}
    (hg : o.guard = none) (m x : Operand) (t : TypeId) (hop : o.op = Op.lookup t m x false)
    (k e : TypeId) (K : Keyed P k) (ht : P.underlying t = some (.map k e)) {z : Value} (hz : (zeroValue e).run P w = .ok z w) (b n : Nat) (D : DataW Value)
    (hm : a.eval m = .map (some b)) (hown : w.ownsMap P k RV b n D) (key : Value) (kl : Lit) (hx : a.eval x = key) (hkey : keyOf P k key = some kl)
    (val : Value) (hat : D.atKey kl (.held z) = .held val)
    (hK : wpList P ops Q rest (a.put o.dst val) w) :
    wpList P ops Q (o :: rest) a w := by
  refine wpList_plain hg fun K' hK' => ?_
  obtain ⟨v, ps, hrun, hv⟩ := hown.lookup K ht hz (show RV z = some (.held z, []) from rfl) hkey
  rw [hat] at hv
  obtain rfl : v = val := by simpa [RV] using (congrArg (Option.map Prod.fst) hv)
  unfold Oper.wp
  simp [execOp, hop, hm, hx, hrun, Result.andThen]
  exact hK' _ _ hK

theorem zero47 (w : World) : (zeroValue 142).run Tryz.prog w = .ok (fld false false false 0 0) w := by kernel_rfl

/-- what an operation has, as it lies in the program -/
def fldOf (op : Int) : Value := fld (rdP op) (rs1P op) (rs2P op) (loP op) (hiP op)
def Special (op : Int) : Prop := op = 37 ∨ (18 ≤ op ∧ op ≤ 20) ∨ (46 ≤ op ∧ op ≤ 48)

theorem op_yes (op : Int) (h : Special op) : Maps.has opD (.int .i64 op) = true ∧ (∀ z, opD.atKey (.int .i64 op) z = .held (fldOf op)) ∧ shapeB op = true := by
  have hc : op = 37 ∨ op = 18 ∨ op = 19 ∨ op = 20 ∨ op = 46 ∨ op = 47 ∨ op = 48 := by unfold Special at h; omega
  rcases hc with rfl | rfl | rfl | rfl | rfl | rfl | rfl
  all_goals exact ⟨by rfl, fun z => by rfl, by rfl⟩

theorem op_no (op : Int) (h : ¬ Special op) : Maps.has opD (.int .i64 op) = false := by
  unfold Special at h
  have hne : ∀ k : Int, op ≠ k → (Lit.int .i64 op) ≠ (Lit.int .i64 k) := fun k hk e => hk (by injection e)
  unfold opD
  rw [has_put_other (hne _ (by omega)), has_put_other (hne _ (by omega)), has_put_other (hne _ (by omega)), has_put_other (hne _ (by omega)), has_put_other (hne _ (by omega)), has_put_other (hne _ (by omega)), has_put_other (hne _ (by omega))]
  rfl

theorem sh_at (op : Int) (h : ¬ Special op) (z : DataW Value) : shD.atKey (.int .i64 (shapeN op)) z = .held (fldOf op) := by
  unfold Special at h
  have hc := shape_cases op
  have e1 : ¬ (18 ≤ op ∧ op ≤ 20 ∨ 46 ≤ op ∧ op ≤ 48) := by omega
  have e2 : ¬ (18 ≤ op ∧ op ≤ 20) := by omega
  have e3 : ¬ (46 ≤ op ∧ op ≤ 48) := by omega
  have e4 : op ≠ 37 := by omega
  unfold fldOf rdP rs1P rs2P loP hiP shapeN
  rw [if_neg e1, if_neg e2, if_neg e3]
  clear e1 e2 e3 h
  rcases hc with ⟨hs, _⟩ | ⟨hs, _⟩ | ⟨hs, _⟩ | ⟨hs, _⟩ | ⟨hs, _⟩ | ⟨hs, _⟩ | ⟨hs, _⟩ | ⟨hs, _⟩
  all_goals
    rw [hs]
    simp only [e4, ne_eq, not_false_eq_true, and_true]
    rfl

theorem shN_wf (op : Int) : (Lit.int .i64 (shapeN op)).wf = true := by
  unfold shapeN
  have hc := shape_cases op
  rcases hc with ⟨hs, _⟩ | ⟨hs, _⟩ | ⟨hs, _⟩ | ⟨hs, _⟩ | ⟨hs, _⟩ | ⟨hs, _⟩ | ⟨hs, _⟩ | ⟨hs, _⟩
  all_goals rw [hs]; rfl

theorem fieldsOf_special (op : Int) (h : Special op) (hw : (Lit.int .i64 op).wf = true) (w : World) :
    Calls Tryz.prog 63 #[.int .i64 op] w fun e w' => e = .returned (.tuple #[fldOf op, .bool (shapeB op)]) ∧ Below w.heap.size w w' := by
  obtain ⟨h1, h2, h3⟩ := op_yes op h
  rw [h3]
  have H2 := h2 (.held (fld false false false 0 0))
  clear h2 h3 h
  unfold fldOf fld at *
  generalize rdP op = f1 at *
  generalize rs1P op = f2 at *
  generalize rs2P op = f3 at *
  generalize loP op = f4 at *
  generalize hiP op = f5 at *
  go_enter Tryz.func63, Tryz.ntmps63
  go_wp2_with fail
  refine (opFields_any _).mono ?_
  rintro e w1 ⟨b, rfl, hown, hb1⟩
  have hb : Below w.heap.size w w1 := ((Below.refl _ _).alloc (Nat.le_refl _) _).trans (hb1.mono (by simp))
  obtain ⟨hcc, hff⟩ := bcell hb1
  have hs1 : w.heap.size < w1.heap.size := by have := hb1.size; simp at this; omega
  have HB : Hid (Below w.heap.size w w1) := hb
  simp only [World.size_alloc] at hcc hff
  clear hb1 hb
  go_wp2_with (first
    | (refine wpList_lookup_ok_RV _ rfl _ _ 176 rfl 3 142 law3 u58 (zero47 _) _ _ _ rfl hown _ _ rfl (keyOf_int_mk u3 hw) _ _ H2 h1 ?_; clear H2 h1 hown)
    | fail)
  exact bodyPost_ret (v := .tuple #[.agg #[.bool f1, .bool f2, .bool f3, .int .i64 f4, .int .i64 f5], .bool true]) (by simp [results, Tryz.results63, go_sem, hcc, hs1]) rfl
    ⟨rfl, (((((HB.out.setCell (by simp) _).setCell (by simp) _).setCell (by simp) _).setCell (by simp) _).setCell (by simp) _).alloc (by simp; omega) _⟩

theorem fieldsOf_plain (op : Int) (h : ¬ Special op) (hw : (Lit.int .i64 op).wf = true) (w : World) :
    Calls Tryz.prog 63 #[.int .i64 op] w fun e w' => e = .returned (.tuple #[fldOf op, .bool (shapeB op)]) ∧ Below w.heap.size w w' := by
  have h1 := op_no op h
  have H2 : opD.atKey (.int .i64 op) (.held (fld false false false 0 0)) = .held (fld false false false 0 0) := atKey_of_not_has h1 _
  have H3 := sh_at op h (.held (fld false false false 0 0))
  have H4 := shN_wf op
  have H5 := shape_any op
  clear h
  unfold fldOf fld at *
  generalize rdP op = f1 at *
  generalize rs1P op = f2 at *
  generalize rs2P op = f3 at *
  generalize loP op = f4 at *
  generalize hiP op = f5 at *
  generalize shapeN op = sn at *
  generalize shapeB op = sb at *
  go_enter Tryz.func63, Tryz.ntmps63
  go_wp2_with fail
  refine (opFields_any _).mono ?_
  rintro e w1 ⟨b, rfl, hown, hb1⟩
  have hb : Below w.heap.size w w1 := ((Below.refl _ _).alloc (Nat.le_refl _) _).trans (hb1.mono (by simp))
  obtain ⟨hcc, hff⟩ := bcell hb1
  have hs1 : w.heap.size < w1.heap.size := by have := hb1.size; simp at this; omega
  have HB : Hid (Below w.heap.size w w1) := hb
  simp only [World.size_alloc] at hcc hff
  clear hb1 hb
  go_wp2_with (first
    | (refine wpList_lookup_ok_RV _ rfl _ _ 176 rfl 3 142 law3 u58 (zero47 _) _ _ _ rfl hown _ _ rfl (keyOf_int_mk u3 hw) _ _ H2 h1 ?_; clear H2 h1 hown)
    | fail)
  refine (H5 _).mono ?_
  rintro e w2 ⟨rfl, rfl⟩
  go_wp2_with fail
  refine (shFields_any _).mono ?_
  rintro e w3 ⟨b3, rfl, hown3, hb3⟩
  obtain ⟨hcc3, hff3⟩ := bcell hb3
  have hs3 : w.heap.size < w3.heap.size := by have := hb3.size; simp at this; omega
  have HB3 : Hid (Below w.heap.size w w3) := (HB.out.alloc (by omega) _).trans (hb3.mono (by simp; omega))
  simp only [World.size_alloc] at hcc3 hff3
  clear hb3
  have hlt : w.heap.size < w1.heap.size + 1 := by omega
  go_wp2_with (first
    | (refine wpList_lookup_RV _ rfl _ _ 179 rfl 181 142 law63 u61 (zero47 _) _ _ _ rfl hown3 _ _ rfl (keyOf_int_mk u63 H4) _ H3 ?_; clear H3 hown3)
    | fail)
  exact bodyPost_ret (v := .tuple #[.agg #[.bool f1, .bool f2, .bool f3, .int .i64 f4, .int .i64 f5], .bool sb]) (by simp [results, Tryz.results63, go_sem, hcc, hs1, hcc3, hlt]) rfl
    ⟨rfl, ((((HB3.out.setCell (by simp) _).setCell (by simp) _).setCell (by simp) _).setCell (by simp) _).setCell (by simp) _⟩

theorem fieldsOf_any (op : Int) (hw : (Lit.int .i64 op).wf = true) (w : World) :
    Calls Tryz.prog 63 #[.int .i64 op] w fun e w' => e = .returned (.tuple #[fldOf op, .bool (shapeB op)]) ∧ Below w.heap.size w w' := by
  by_cases h : Special op
  · exact fieldsOf_special op h hw w
  · exact fieldsOf_plain op h hw w
end Go.Proofs.YtkckobbedpccfaaGreatDoor.I
namespace Go.Proofs.YtkckobbedpccfaaGreatDoor.I
open Go.RowKit
set_option linter.unusedVariables false
set_option maxRecDepth 100000

/-- an instruction as it lies in the program -/
def ins (op rd rs1 rs2 imm : Int) : Value := .agg #[.int .i64 op, .int .i64 rd, .int .i64 rs1, .int .i64 rs2, .int .i64 imm]

theorem valid_any (op rd rs1 rs2 imm : Int) (hw : (Lit.int .i64 op).wf = true) (w : World) :
    Calls Tryz.prog 41 #[ins op rd rs1 rs2 imm] w fun e w' => e = .returned (.bool (validP op rd rs1 rs2 imm)) ∧ Below w.heap.size w w' := by
  have C0 := fieldsOf_any op hw
  have C1 := isRegister_any rd (rdP op)
  have C2 := isRegister_any rs1 (rs1P op)
  have C3 := isRegister_any rs2 (rs2P op)
  have C4 := has_any (loP op) (hiP op) imm
  unfold fldOf fld at C0
  unfold validP ins
  generalize regP rd (rdP op) = r1 at *
  generalize regP rs1 (rs1P op) = r2 at *
  generalize regP rs2 (rs2P op) = r3 at *
  generalize hasP (loP op) (hiP op) imm = r4 at *
  generalize shapeB op = sb at *
  generalize rdP op = f1 at *
  generalize rs1P op = f2 at *
  generalize rs2P op = f3 at *
  generalize loP op = f4 at *
  generalize hiP op = f5 at *
  go_enter Tryz.func41, Tryz.ntmps41
  go_wp2_with fail
  refine (C0 _).mono ?_
  rintro e w1 ⟨rfl, hb1⟩
  have HB : Hid (Below w.heap.size w w1) := ((Below.refl _ _).alloc (Nat.le_refl _) _).trans (hb1.mono (by simp))
  obtain ⟨hcc, hff⟩ := bcell hb1
  have hs1 : w.heap.size < w1.heap.size := by have := hb1.size; simp at this; omega
  simp only [World.size_alloc] at hcc hff
  clear hb1 C0
  cases sb
  · go_wp2_with fail
    go_ret
    exact ⟨rfl, HB.out.alloc (by omega) _⟩
  go_wp2_with fail
  refine (C1 _).mono ?_
  rintro e w2 ⟨rfl, rfl⟩
  clear C1
  cases r1
  · go_wp2_with fail
    go_ret
    exact ⟨rfl, HB.out.alloc (by omega) _⟩
  go_wp2_with fail
  refine (C2 _).mono ?_
  rintro e w2 ⟨rfl, rfl⟩
  clear C2
  cases r2
  · go_wp2_with fail
    go_ret
    exact ⟨rfl, HB.out.alloc (by omega) _⟩
  go_wp2_with fail
  refine (C3 _).mono ?_
  rintro e w2 ⟨rfl, rfl⟩
  clear C3
  cases r3
  · go_wp2_with fail
    go_ret
    exact ⟨rfl, HB.out.alloc (by omega) _⟩
  go_wp2_with fail
  refine (C4 _).mono ?_
  rintro e w3 ⟨rfl, hb3⟩
  clear C4
  go_wp2_with fail
  go_ret
  exact ⟨rfl, (HB.out.alloc (by omega) _).trans (hb3.mono (by simp; omega))⟩
end Go.Proofs.YtkckobbedpccfaaGreatDoor.I
namespace Go.Proofs.YtkckobbedpccfaaGreatDoor.I
open Go.RowKit
set_option linter.unusedVariables false
set_option maxRecDepth 100000

theorem rpl26 (v : Int) (h0 : 0 ≤ v) (h1 : v ≤ 63) (w : World) :
    Calls Tryz.prog 14 #[.int .u32 0, .int .i64 v, .int .i64 26, .int .i64 6] w fun e w' => e = .returned (.int .u32 (v * 67108864)) ∧ w' = w := by
  have := rplace_any 0 v 26 6 (by decide) (by decide) (by decide) (by decide) w
  rwa [p26, Int.emod_eq_of_lt h0 (by omega)] at this
theorem rpl22 (a v : Int) (ha : 0 ≤ a) (ha' : a ≤ 4294967295) (hm : a % 67108864 = 0) (h0 : 0 ≤ v) (h1 : v ≤ 15) (w : World) :
    Calls Tryz.prog 14 #[.int .u32 a, .int .i64 v, .int .i64 22, .int .i64 4] w fun e w' => e = .returned (.int .u32 (a + v * 4194304)) ∧ w' = w := by
  have := rplace_any a v 22 4 ha ha' (by decide) (by decide) w
  rwa [p22 a v ha ha' hm, Int.emod_eq_of_lt h0 (by omega)] at this
theorem rpl18 (a v : Int) (ha : 0 ≤ a) (ha' : a ≤ 4294967295) (hm : a % 4194304 = 0) (h0 : 0 ≤ v) (h1 : v ≤ 15) (w : World) :
    Calls Tryz.prog 14 #[.int .u32 a, .int .i64 v, .int .i64 18, .int .i64 4] w fun e w' => e = .returned (.int .u32 (a + v * 262144)) ∧ w' = w := by
  have := rplace_any a v 18 4 ha ha' (by decide) (by decide) w
  rwa [p18 a v ha ha' hm, Int.emod_eq_of_lt h0 (by omega)] at this
theorem rpl14 (a v : Int) (ha : 0 ≤ a) (ha' : a ≤ 4294967295) (hm : a % 262144 = 0) (h0 : 0 ≤ v) (h1 : v ≤ 15) (w : World) :
    Calls Tryz.prog 14 #[.int .u32 a, .int .i64 v, .int .i64 14, .int .i64 4] w fun e w' => e = .returned (.int .u32 (a + v * 16384)) ∧ w' = w := by
  have := rplace_any a v 14 4 ha ha' (by decide) (by decide) w
  rwa [p14 a v ha ha' hm, Int.emod_eq_of_lt h0 (by omega)] at this
theorem rpl0s (a v : Int) (ha : 0 ≤ a) (ha' : a ≤ 4294967295) (hm : a % 16384 = 0) (w : World) :
    Calls Tryz.prog 14 #[.int .u32 a, .int .i64 v, .int .i64 0, .int .i64 14] w fun e w' => e = .returned (.int .u32 (a + v % 16384)) ∧ w' = w := by
  have := rplace_any a v 0 14 ha ha' (by decide) (by decide) w
  rwa [p0s a v ha ha' hm] at this
theorem rpl0l (a v : Int) (ha : 0 ≤ a) (ha' : a ≤ 4294967295) (hm : a % 262144 = 0) (w : World) :
    Calls Tryz.prog 14 #[.int .u32 a, .int .i64 v, .int .i64 0, .int .i64 18] w fun e w' => e = .returned (.int .u32 (a + v % 262144)) ∧ w' = w := by
  have := rplace_any a v 0 18 ha ha' (by decide) (by decide) w
  rwa [p0l a v ha ha' hm] at this

theorem ret_ii {k l : IntKind} {a b c d : Int} (h : a = b) (g : c = d) : Ending.returned (.tuple #[.int k a, .int l c]) = .returned (.tuple #[.int k b, .int l d]) := by rw [h, g]

def encW (op rd rs1 rs2 imm : Int) : Int := if validP op rd rs1 rs2 imm then wordP op rd rs1 rs2 imm else 0
def encE (op rd rs1 rs2 imm : Int) : Int := if validP op rd rs1 rs2 imm then 0 else 10

end Go.Proofs.YtkckobbedpccfaaGreatDoor.I
namespace Go.Proofs.YtkckobbedpccfaaGreatDoor.I
open Go.RowKit
set_option linter.unusedVariables false
set_option maxRecDepth 100000

theorem fw26 (w : Int) : fieldW w 26 6 = opW w := by unfold fieldW opW; rw [if_pos (by decide)]; rfl
theorem fw22 (w : Int) : fieldW w 22 4 = rdW w := by unfold fieldW rdW; rw [if_pos (by decide)]; rfl
theorem fw18 (w : Int) : fieldW w 18 4 = rs1W w := by unfold fieldW rs1W; rw [if_pos (by decide)]; rfl
theorem fw14 (w : Int) : fieldW w 14 4 = w / 16384 % 16 := by unfold fieldW; rw [if_pos (by decide)]; rfl
theorem fw0s (w : Int) : fieldW w 0 14 = w % 16384 := by
  unfold fieldW
  rw [if_pos (by decide)]
  show w / 1 % 16384 = _
  rw [Int.ediv_one]
theorem fw0l (w : Int) : fieldW w 0 18 = w % 262144 := by
  unfold fieldW
  rw [if_pos (by decide)]
  show w / 1 % 262144 = _
  rw [Int.ediv_one]
theorem sw14 (v : Int) : signWI v 14 = (v + 8192) % 16384 - 8192 := by unfold signWI; rw [if_pos (by decide)]; rfl
theorem sw18 (v : Int) : signWI v 18 = (v + 131072) % 262144 - 131072 := by unfold signWI; rw [if_pos (by decide)]; rfl

theorem wf_small (x : Int) (h0 : -4294967296 ≤ x) (h1 : x ≤ 4294967296) : (Lit.int .i64 x).wf = true := WalkArith.wf_i64 (by omega)

theorem signed14 (a : Int) (ha : 0 ≤ a) (ha' : a ≤ 4294967295) (w : World) :
    Calls Tryz.prog 62 #[.int .u32 a, .int .i64 14] w fun e w' => e = .returned (.int .i64 ((a % 16384 + 8192) % 16384 - 8192)) ∧ w' = w := by
  have C1 := field_any a 0 14 ha ha'
  have C2 := sign_any (fieldW a 0 14) 14
  rw [sw14] at C2
  rw [fw0s] at C1 C2
  generalize a % 16384 = f at *
  generalize (f + 8192) % 16384 - 8192 = g at *
  go_enter Tryz.func62, Tryz.ntmps62
  go_wp2_with fail
  refine (C1 _).mono ?_
  rintro e w1 ⟨rfl, rfl⟩
  go_wp2_with fail
  refine (C2 _).mono ?_
  rintro e w1 ⟨rfl, rfl⟩
  go_wp2_with fail
  go_ret
  exact ⟨rfl, rfl⟩
theorem signed18 (a : Int) (ha : 0 ≤ a) (ha' : a ≤ 4294967295) (w : World) :
    Calls Tryz.prog 62 #[.int .u32 a, .int .i64 18] w fun e w' => e = .returned (.int .i64 ((a % 262144 + 131072) % 262144 - 131072)) ∧ w' = w := by
  have C1 := field_any a 0 18 ha ha'
  have C2 := sign_any (fieldW a 0 18) 18
  rw [sw18] at C2
  rw [fw0l] at C1 C2
  generalize a % 262144 = f at *
  generalize (f + 131072) % 262144 - 131072 = g at *
  go_enter Tryz.func62, Tryz.ntmps62
  go_wp2_with fail
  refine (C1 _).mono ?_
  rintro e w1 ⟨rfl, rfl⟩
  go_wp2_with fail
  refine (C2 _).mono ?_
  rintro e w1 ⟨rfl, rfl⟩
  go_wp2_with fail
  go_ret
  exact ⟨rfl, rfl⟩

theorem apart_is (a : Int) (ha : 0 ≤ a) (ha' : a ≤ 4294967295) (w : World) :
    Calls Tryz.prog 40 #[.int .u32 a] w fun e w' => e = .returned (ins (opW a) (rdW a) (rs1W a) (rs2W a) (immW a)) ∧ Below w.heap.size w w' := by
  have C1 := field_any a 26 6 ha ha'
  have C2 := field_any a 22 4 ha ha'
  have C3 := field_any a 18 4 ha ha'
  have C4 := field_any a 14 4 ha ha'
  have C5 := signed14 a ha ha'
  have C6 := signed18 a ha ha'
  have C7 := isLong_any (opW a)
  rw [fw26] at C1
  rw [fw22] at C2
  rw [fw18] at C3
  rw [fw14] at C4
  unfold rs2W immW ins
  by_cases h5 : shapeR (opW a) = 5
  · have e5 : decide (shapeR (opW a) = 5) = true := by simp [h5]
    rw [if_pos h5, if_pos h5]
    rw [e5] at C7
    clear h5 e5 C4 C5
    generalize opW a = x0 at *
    generalize rdW a = x1 at *
    generalize rs1W a = x2 at *
    generalize (a % 262144 + 131072) % 262144 - 131072 = x4 at *
    go_enter Tryz.func40, Tryz.ntmps40
    go_wp2_with fail
    refine (C1 _).mono ?_
    rintro e w1 ⟨rfl, rfl⟩
    go_wp2_with fail
    refine (C2 _).mono ?_
    rintro e w1 ⟨rfl, rfl⟩
    go_wp2_with fail
    refine (C3 _).mono ?_
    rintro e w1 ⟨rfl, rfl⟩
    go_wp2_with fail
    refine (C7 _).mono ?_
    rintro e w1 ⟨rfl, rfl⟩
    go_wp2_with fail
    refine (C6 _).mono ?_
    rintro e w1 ⟨rfl, rfl⟩
    go_wp2_with fail
    exact bodyPost_ret (v := .agg #[.int .i64 x0, .int .i64 x1, .int .i64 x2, .int .i64 0, .int .i64 x4]) (by simp [results, Tryz.results40, go_sem]) rfl
      ⟨rfl, ((Below.refl _ _).alloc (Nat.le_refl _) _).alloc (by simp) _⟩
  · have e5 : decide (shapeR (opW a) = 5) = false := by simp [h5]
    rw [if_neg h5, if_neg h5]
    rw [e5] at C7
    clear h5 e5 C6
    generalize opW a = x0 at *
    generalize rdW a = x1 at *
    generalize rs1W a = x2 at *
    generalize a / 16384 % 16 = x3 at *
    generalize (a % 16384 + 8192) % 16384 - 8192 = x4 at *
    go_enter Tryz.func40, Tryz.ntmps40
    go_wp2_with fail
    refine (C1 _).mono ?_
    rintro e w1 ⟨rfl, rfl⟩
    go_wp2_with fail
    refine (C2 _).mono ?_
    rintro e w1 ⟨rfl, rfl⟩
    go_wp2_with fail
    refine (C3 _).mono ?_
    rintro e w1 ⟨rfl, rfl⟩
    go_wp2_with fail
    refine (C7 _).mono ?_
    rintro e w1 ⟨rfl, rfl⟩
    go_wp2_with fail
    refine (C4 _).mono ?_
    rintro e w1 ⟨rfl, rfl⟩
    go_wp2_with fail
    refine (C5 _).mono ?_
    rintro e w1 ⟨rfl, rfl⟩
    go_wp2_with fail
    exact bodyPost_ret (v := .agg #[.int .i64 x0, .int .i64 x1, .int .i64 x2, .int .i64 x3, .int .i64 x4]) (by simp [results, Tryz.results40, go_sem]) rfl
      ⟨rfl, ((Below.refl _ _).alloc (Nat.le_refl _) _).alloc (by simp) _⟩

theorem opW_wf (a : Int) : (Lit.int .i64 (opW a)).wf = true := wf_small _ (by unfold opW; omega) (by unfold opW; omega)

theorem decode_no (a : Int) (ha : 0 ≤ a) (ha' : a ≤ 4294967295) (hv : validW a = false) (w : World) :
    Calls Tryz.prog 19 #[.int .u32 a] w fun e w' => e = .returned (.tuple #[ins 0 0 0 0 0, .int .i64 10]) ∧ Below w.heap.size w w' := by
  have C1 := apart_is a ha ha'
  have C2 := valid_any (opW a) (rdW a) (rs1W a) (rs2W a) (immW a) (opW_wf a)
  unfold validW at hv
  rw [hv] at C2
  clear hv
  unfold ins at *
  generalize opW a = x0 at *
  generalize rdW a = x1 at *
  generalize rs1W a = x2 at *
  generalize rs2W a = x3 at *
  generalize immW a = x4 at *
  go_enter Tryz.func19, Tryz.ntmps19
  go_wp2_with fail
  refine (C1 _).mono ?_
  rintro e w1 ⟨rfl, hb1⟩
  have HB1 : Hid (Below w.heap.size w w1) := ((Below.refl _ _).alloc (Nat.le_refl _) _).trans (hb1.mono (by simp))
  obtain ⟨hcc1, hff1⟩ := bcell hb1
  simp only [World.size_alloc] at hcc1 hff1
  have hs1 : w.heap.size < w1.heap.size := by have := hb1.size; simp at this; omega
  clear hb1 C1
  go_wp2_with fail
  refine (C2 _).mono ?_
  rintro e w2 ⟨rfl, hb2⟩
  have HB2 : Hid (Below w.heap.size w w2) := (HB1.out.alloc (by omega) _).trans (hb2.mono (by simp; omega))
  obtain ⟨hcc2, hff2⟩ := bcell hb2
  simp only [World.size_alloc] at hcc2 hff2
  have hs2 : w.heap.size < w1.heap.size + 1 := by omega
  clear hb2 C2
  go_wp2_with fail
  exact bodyPost_ret (v := .tuple #[.agg #[.int .i64 0, .int .i64 0, .int .i64 0, .int .i64 0, .int .i64 0], .int .i64 10]) (by simp [results, Tryz.results19, go_sem, hcc2, hcc1, hs1, hs2]) rfl
    ⟨rfl, ((((HB2.out.setCell (by simp) _).setCell (by simp) _).setCell (by simp) _).setCell (by simp) _).setCell (by simp) _⟩

theorem decode_yes (a : Int) (ha : 0 ≤ a) (ha' : a ≤ 4294967295) (hv : validW a = true) (w : World) :
    Calls Tryz.prog 19 #[.int .u32 a] w fun e w' => e = .returned (.tuple #[ins (opW a) (rdW a) (rs1W a) (rs2W a) (immW a), .int .i64 0]) ∧ Below w.heap.size w w' := by
  have C1 := apart_is a ha ha'
  have C2 := valid_any (opW a) (rdW a) (rs1W a) (rs2W a) (immW a) (opW_wf a)
  unfold validW at hv
  rw [hv] at C2
  clear hv
  unfold ins at *
  generalize opW a = x0 at *
  generalize rdW a = x1 at *
  generalize rs1W a = x2 at *
  generalize rs2W a = x3 at *
  generalize immW a = x4 at *
  go_enter Tryz.func19, Tryz.ntmps19
  go_wp2_with fail
  refine (C1 _).mono ?_
  rintro e w1 ⟨rfl, hb1⟩
  have HB1 : Hid (Below w.heap.size w w1) := ((Below.refl _ _).alloc (Nat.le_refl _) _).trans (hb1.mono (by simp))
  obtain ⟨hcc1, hff1⟩ := bcell hb1
  simp only [World.size_alloc] at hcc1 hff1
  have hs1 : w.heap.size < w1.heap.size := by have := hb1.size; simp at this; omega
  clear hb1 C1
  go_wp2_with fail
  refine (C2 _).mono ?_
  rintro e w2 ⟨rfl, hb2⟩
  have HB2 : Hid (Below w.heap.size w w2) := (HB1.out.alloc (by omega) _).trans (hb2.mono (by simp; omega))
  obtain ⟨hcc2, hff2⟩ := bcell hb2
  simp only [World.size_alloc] at hcc2 hff2
  have hs2 : w.heap.size < w1.heap.size + 1 := by omega
  clear hb2 C2
  go_wp2_with fail
  exact bodyPost_ret (v := .tuple #[.agg #[.int .i64 x0, .int .i64 x1, .int .i64 x2, .int .i64 x3, .int .i64 x4], .int .i64 0]) (by simp [results, Tryz.results19, go_sem, hcc2, hcc1, hs1, hs2]) rfl
    ⟨rfl, ((((HB2.out.setCell (by simp) _).setCell (by simp) _).setCell (by simp) _).setCell (by simp) _).setCell (by simp) _⟩
end Go.Proofs.YtkckobbedpccfaaGreatDoor.I
