/-
  The law HartMath: each operation on numbers leaves the document's number in its register, and nothing else.
-/
import Derived.Test.YtkckobbedpccfaaGreatDoorQTr
import Derived.BigQuiet
import Derived.Deep.CutRange
namespace Go.Proofs.YtkckobbedpccfaaGreatDoor
open Go.RowKit
set_option linter.unusedVariables false
set_option maxRecDepth 100000

/-- what the law makes of its state -/
def mathC (X : Nat → Int) (k : Nat) : Array Value := #[.int .u64 0, .int .u64 (X 1), .int .u64 (X 2), .int .u64 (X 3), .int .u64 (X 4), .int .u64 (X 5), .int .u64 (X 6), .int .u64 (X 7), .int .u64 (X 8), .int .u64 (X 9), .int .u64 (X 10), .int .u64 (X 11), .int .u64 (X 12), .int .u64 (X 13), .int .u64 (X 14), .int .u64 (X 15), .int .u64 0, .int .i64 1, .int .u64 0, .int .u64 0, .int .u64 0, .int .u64 0, .int .u64 0, .int .u64 0, .int .u64 0, .int .u64 0, .int .u64 0, .int .u64 0, .int .u64 0, .int .u64 0, .slice (some ⟨k, 0, none⟩) 1 1, .slice none 0 0, .slice none 0 0, .int .i64 (-1)]
def insC (o : Int) : Array Value := #[.int .i64 o, .int .i64 3, .int .i64 1, .int .i64 2, .int .i64 0]
def zeroR : Nat → Int := fun _ => 0
theorem enc_op : ∀ m : Fin 13, I.validW (I.encW ((m.val : Int) + 1) 3 1 2 0) = true ∧ I.opW (I.encW ((m.val : Int) + 1) 3 1 2 0) = (m.val : Int) + 1 ∧ I.rdW (I.encW ((m.val : Int) + 1) 3 1 2 0) = 3 ∧ I.rs1W (I.encW ((m.val : Int) + 1) 3 1 2 0) = 1 ∧ I.rs2W (I.encW ((m.val : Int) + 1) 3 1 2 0) = 2 ∧ I.shapeN ((m.val : Int) + 1) = 1 ∧ 0 ≤ I.encW ((m.val : Int) + 1) 3 1 2 0 ∧ I.encW ((m.val : Int) + 1) 3 1 2 0 ≤ 4294967295 := by decide +kernel
theorem enc_at {o : Int} (h0 : 1 ≤ o) (h1 : o ≤ 13) : I.validW (I.encW o 3 1 2 0) = true ∧ I.opW (I.encW o 3 1 2 0) = o ∧ I.rdW (I.encW o 3 1 2 0) = 3 ∧ I.rs1W (I.encW o 3 1 2 0) = 1 ∧ I.rs2W (I.encW o 3 1 2 0) = 2 ∧ I.shapeN o = 1 ∧ 0 ≤ I.encW o 3 1 2 0 ∧ I.encW o 3 1 2 0 ≤ 4294967295 := by
  have := enc_op ⟨(o - 1).toNat, by omega⟩
  simp only at this
  rwa [show (((o - 1).toNat : Int) + 1) = o by omega] at this
theorem math_mem (o : Int) (h0 : 1 ≤ o) (h1 : o ≤ 13) : (memW 0 ([] ++ ([⟨o, 3, 1, 2, 0⟩] : List I5).map I5.enc) (memP [] (List.replicate 3072 0) 0) (0 + 1)).length = 3072 ∧ IntKind.u32.wrap (loadV (memW 0 ([] ++ ([⟨o, 3, 1, 2, 0⟩] : List I5).map I5.enc) (memP [] (List.replicate 3072 0) 0) (0 + 1)) 0 4) = I.encW o 3 1 2 0 := by
  have hl : (memP [] (List.replicate 3072 0) 0).length = 3072 := by rw [memP_len]; simp
  have e : memW 0 ([] ++ ([⟨o, 3, 1, 2, 0⟩] : List I5).map I5.enc) (memP [] (List.replicate 3072 0) 0) (0 + 1) = storeV (memP [] (List.replicate 3072 0) 0) 0 4 (I.encW o 3 1 2 0) := by
    rw [memW_next]
    rfl
  obtain ⟨_, _, _, _, _, _, a, b⟩ := enc_at h0 h1
  rw [e]
  refine ⟨by rw [storeV_len _ _ _ _ (by decide), hl], word_at _ 0 _ (by decide) ?_ a b⟩
  rw [hl]
  decide
/-- the hart behind the step -/
def mathS (zs : List Int) (X : Nat → Int) (o : Int) : Hs := ⟨C.upd X 3 (reckP o (X 1) (X 2)), 4, 1, zeroR, zs, -1, false, 0, I.encW o 3 1 2 0, o, 3, 1, 2, I.immW (I.encW o 3 1 2 0)⟩
theorem math_one [E.Bits] (zs : List Int) (X : Nat → Int) (o : Int) (h0 : 1 ≤ o) (h1 : o ≤ 13) (zl : zs.length = 3072) (zw : IntKind.u32.wrap (loadV zs 0 4) = I.encW o 3 1 2 0) : (⟨X, 0, 1, zeroR, zs, -1, false, 0, 0, 0, 0, 0, 0, 0⟩ : Hs).fresh.doP TB = (Rs.ok, mathS zs X o) := by
  obtain ⟨e1, e2, e3, e4, e5, e6, _, _⟩ := enc_at h0 h1
  rw [do_plain _ (by show (-1 : Int) < 0; decide) (due_none rfl rfl) (by show (0 : Int) % 4 = 0; decide) (by show numE zs.length 0 4 = 0; rw [zl]; decide)]
  unfold Hs.fresh
  dsimp only
  rw [zw]
  unfold Hs.insP
  dsimp only
  rw [if_pos ⟨e1, fun h => by omega⟩]
  unfold Hs.laid Hs.perP
  dsimp only
  rw [e2, e3, e4, e5, if_neg (by omega), if_pos (by omega)]
  unfold Hs.told mathS Hs.b Hs.puts Hs.went Hs.next Hs.reg
  dsimp only
  rw [e6]
  rfl
theorem math_both (W : World) (hz : SZ W) (X : Nat → Int) (o : Int) (t : TypeId) : Calls Tryz.prog 16 #[.agg (mathC X (W.heap.size + 1))] ((W.alloc (.cells (mathC X (W.heap.size + 1)) 31)).alloc (.cells (insC o) t)) fun e W' => ∃ b g c h F G B Q, e = .returned (.tuple #[.pointer (some ⟨F, 0, none⟩), .pointer (some ⟨G, 0, none⟩), .pointer (some ⟨B, 0, none⟩), .pointer (some ⟨Q, 0, none⟩), .bool true]) ∧
      Made ((W.alloc (.cells (mathC X (W.heap.size + 1)) 31)).alloc (.cells (insC o) t)) W' b g c h F G B Q (memW 0 ([] ++ ([⟨o, 3, 1, 2, 0⟩] : List I5).map I5.enc) (memP [] (List.replicate 3072 0) 0) (0 + 1)) zeroR (-1) := by
  obtain ⟨hb, n0, n1⟩ := two_at W (.cells (mathC X (W.heap.size + 1)) 31) (.cells (insC o) t)
  refine both_any (mathC X (W.heap.size + 1)) zeroR 0 (-1) (some ⟨W.heap.size + 1, 0, none⟩) none none 1 1 0 0 0 0 [⟨o, 3, 1, 2, 0⟩] [] [] _ rfl rfl rfl rfl rfl (fun n hn => ?_) (hz.below hb) ⟨by decide, by decide⟩ (fun n hn => ?_) rfl ⟨rfl, .inr ⟨W.heap.size + 1, 0, rfl, lt_of_heap n1, fun i hi => ?_⟩⟩ (Nat.le_refl _) (by decide) ⟨rfl, .inl rfl, fun i => ?_⟩ (Nat.le_refl _) (by decide) (fun h => ⟨rfl, rfl⟩) ⟨rfl, .inl rfl, fun i => ?_⟩ (Nat.le_refl _) (by decide) (by decide)
  · match n, hn with
    | 0, _ | 1, _ | 2, _ | 3, _ | 4, _ | 5, _ | 6, _ | 7, _ | 8, _ | 9, _ | 10, _ | 11, _ => rfl
  · exact ⟨by show (0 : Int) ≤ 0; decide, by show (0 : Int) < 18446744073709551616; decide⟩
  · obtain rfl : i = 0 := by omega
    refine ⟨?_, ?_, ?_, ?_, ?_⟩ <;> (rw [C.cell_at n1]; rfl)
  · exact ⟨by simp, by simp⟩
  · exact ⟨⟨by simp, by simp⟩, ⟨by simp, by simp⟩⟩
theorem math_regs {w : World} {A k : Nat} {X : Nat → Int} (h : w.heap[A]? = some (.cells (mathC X k) 31 (0, 0))) : w.rangeAt A 0 (regC (zeroX X) 0 1).toList := by
  intro j v hv
  rw [Nat.zero_add, C.cell_at h]
  have hv' : (regC (zeroX X) 0 1)[j]? = some v := by simpa using hv
  have hj : j < 18 := (Array.getElem?_eq_some_iff.1 hv').1
  rw [← hv']
  match j, hj with
  | 0, _ | 1, _ | 2, _ | 3, _ | 4, _ | 5, _ | 6, _ | 7, _ | 8, _ | 9, _ | 10, _ | 11, _ | 12, _ | 13, _ | 14, _ | 15, _ | 16, _ | 17, _ => rfl
  | k + 18, h => omega
theorem and63' (b : Int) (h0 : 0 ≤ b) (h1 : b < 18446744073709551616) : bits .and .u64 b 63 = b % 64 := W.and63 b h0 h1
theorem want_at (o a c l b q r : Int) (h0 : 1 ≤ o) (h1 : o ≤ 13) (hl : l = if wrap64 a < wrap64 c then 1 else 0) (hb : b = if a < c then 1 else 0) (hq : q = quoP a c) (hr : r = remP a c) :
    [Value.int .u64 (IntKind.u64.wrap (a + c)), .int .u64 (IntKind.u64.wrap (a - c)), .int .u64 (bits .and .u64 a c), .int .u64 (bits .or .u64 a c), .int .u64 (bits .xor .u64 a c), .int .u64 (IntKind.u64.wrap (a * 2 ^ (c % 64).toNat)), .int .u64 (a / 2 ^ (c % 64).toNat), .int .u64 (IntKind.u64.wrap (wrap64 a / 2 ^ (c % 64).toNat)), .int .u64 l, .int .u64 b, .int .u64 (IntKind.u64.wrap (a * c)), .int .u64 q, .int .u64 r][o.toNat - 1]? = some (.int .u64 (reckP o a c)) := by
  subst hl hb hq hr
  have hc : o = 1 ∨ o = 2 ∨ o = 3 ∨ o = 4 ∨ o = 5 ∨ o = 6 ∨ o = 7 ∨ o = 8 ∨ o = 9 ∨ o = 10 ∨ o = 11 ∨ o = 12 ∨ o = 13 := by omega
  rcases hc with rfl | rfl | rfl | rfl | rfl | rfl | rfl | rfl | rfl | rfl | rfl | rfl | rfl
  all_goals simp [reckP, W.shiftW, W.lessW]
theorem tdiv_wrap (a c : Int) (ha : C.U a) (hc : C.U c) (h : c ≠ 0) : IntKind.u64.wrap (a.tdiv c) = quoP a c := by
  unfold quoP
  rw [if_neg h, Int.tdiv_eq_ediv_of_nonneg ha.1]
  have h1 := Int.ediv_nonneg ha.1 hc.1
  have h2 := Int.ediv_le_self c ha.1
  have h3 := ha.2
  rw [IntKind.wrap_u64]
  omega
theorem tmod_rem (a c : Int) (ha : C.U a) (h : c ≠ 0) : a.tmod c = remP a c := by
  unfold remP
  rw [if_neg h, Int.tmod_eq_emod_of_nonneg ha.1]
def okObj : Obj := .cells #[.int .i64 0, .int .i64 0, .int .u64 0, .int .u64 0, .bool false, .bool false] 57
theorem math_tail (W w3 : World) (r k : Nat) (X : Nat → Int) (v : Int) (rc : Array Value) (hW : Below W.heap.size W w3) (hA : w3.heap[W.heap.size]? = some (.cells (mathC X k) 31 (0, 0))) (hr : w3.heap[r]? = some (.cells rc 25 (0, 0))) (hAr : r ≠ W.heap.size) (n : Nat) (sl : Obj) :
    (((((w3.alloc okObj).drewN n).alloc sl).setCell ⟨W.heap.size, 3, none⟩ (.int .u64 v)).setCell ⟨W.heap.size, 16, none⟩ (.int .u64 4)).rangeAt r 0 rc.toList ∧
    (((((w3.alloc okObj).drewN n).alloc sl).setCell ⟨W.heap.size, 3, none⟩ (.int .u64 v)).setCell ⟨W.heap.size, 16, none⟩ (.int .u64 4)).rangeAt W.heap.size 0 (regC (C.upd (zeroX X) 3 v) 4 1).toList ∧
    (((((w3.alloc okObj).drewN n).alloc sl).setCell ⟨W.heap.size, 3, none⟩ (.int .u64 v)).setCell ⟨W.heap.size, 16, none⟩ (.int .u64 4)).rangeAt w3.heap.size 0 (#[.int .i64 0, .int .i64 0, .int .u64 0, .int .u64 0, .bool false, .bool false] : Array Value).toList ∧
    Below W.heap.size W (((((w3.alloc okObj).drewN n).alloc sl).setCell ⟨W.heap.size, 3, none⟩ (.int .u64 v)).setCell ⟨W.heap.size, 16, none⟩ (.int .u64 4)) := by
  have lA := lt_of_heap hA
  have B1 : Below w3.heap.size w3 (((w3.alloc okObj).drewN n).alloc sl) := (((Below.refl _ _).alloc (Nat.le_refl _) okObj).trans (⟨rfl, rfl, rfl, Nat.le_refl _, fun _ _ => rfl⟩ : Below w3.heap.size (w3.alloc okObj) ((w3.alloc okObj).drewN n))).alloc (by simp) sl
  have k1 := keepB hr B1
  have k2 := keepB hA B1
  have k3 : (((w3.alloc okObj).drewN n).alloc sl).heap[w3.heap.size]? = some okObj := by
    rw [C.heap_alloc_past _ _ (by simp)]
    exact C.heap_alloc_at w3 okObj
  have B0 : Below W.heap.size W (((w3.alloc okObj).drewN n).alloc sl) := hW.trans (B1.mono hW.size)
  generalize ((w3.alloc okObj).drewN n).alloc sl = z at *
  have ot : ∀ j, j ≠ W.heap.size → ((z.setCell ⟨W.heap.size, 3, none⟩ (.int .u64 v)).setCell ⟨W.heap.size, 16, none⟩ (.int .u64 4)).heap[j]? = z.heap[j]? := fun j hj =>
    (Below.heap_setCell _ ⟨W.heap.size, 16, none⟩ _ j hj).trans (Below.heap_setCell _ ⟨W.heap.size, 3, none⟩ _ j hj)
  refine ⟨range_of ((ot r hAr).trans k1), ?_, range_of ((ot _ (by omega)).trans k3), (B0.setCell (Nat.le_refl _) _).setCell (Nat.le_refl _) _⟩
  have h1 := (set_bus (o := 3) (v := .int .u64 v) k2).1
  have h2 := (set_bus (o := 16) (v := .int .u64 4) h1).1
  intro j u hu
  rw [Nat.zero_add, C.cell_at h2]
  have hu' : (regC (C.upd (zeroX X) 3 v) 4 1)[j]? = some u := by simpa using hu
  have hj : j < 18 := (Array.getElem?_eq_some_iff.1 hu').1
  rw [← hu']
  match j, hj with
  | 0, _ | 1, _ | 2, _ | 3, _ | 4, _ | 5, _ | 6, _ | 7, _ | 8, _ | 9, _ | 10, _ | 11, _ | 12, _ | 13, _ | 14, _ | 15, _ | 16, _ | 17, _ => rfl
  | k + 18, h => omega
theorem op_at (op : Int) (h0 : -9223372036854775808 ≤ op) (h1 : op ≤ 9223372036854775807) : ∃ o : Int, wrap64 (1 + (wrap64 (op.tmod 13 + 13)).tmod 13) = o ∧ 1 ≤ o ∧ o ≤ 13 := by
  refine ⟨_, rfl, ?_⟩
  have e : wrap64 (op.tmod 13 + 13) = op.tmod 13 + 13 := by unfold wrap64; have := Int.tmod_lt_of_pos op (show (0 : Int) < 13 by decide); have := Int.lt_tmod_of_pos op (show (0 : Int) < 13 by decide); omega
  have a := Int.tmod_lt_of_pos op (show (0 : Int) < 13 by decide)
  have b := Int.lt_tmod_of_pos op (show (0 : Int) < 13 by decide)
  rw [e, Int.tmod_eq_emod_of_nonneg (by omega)]
  unfold wrap64
  omega
theorem past2 {w : World} {b i j : Nat} (h : b < w.heap.size) (n : Nat) (o oo : Obj) (v u : Value) : ((((w.alloc oo).drewN n).setCell ⟨b, i, none⟩ v).setCell ⟨b, j, none⟩ u).alloc o = ((((w.alloc oo).drewN n).alloc o).setCell ⟨b, i, none⟩ v).setCell ⟨b, j, none⟩ u := by
  have h1 : b < ((w.alloc oo).drewN n).heap.size := by show b < (w.alloc oo).heap.size; simp; omega
  have h2 : b < (((w.alloc oo).drewN n).setCell ⟨b, i, none⟩ v).heap.size := by rw [World.size_setCell]; exact h1
  rw [World.setCell_alloc_past _ _ _ _ h1, World.setCell_alloc_past _ _ _ _ h2]
theorem drewN_add (w : World) (a b : Nat) : (w.drewN a).drewN b = w.drewN (a + b) := by simp [World.drewN, Nat.add_assoc]
end Go.Proofs.YtkckobbedpccfaaGreatDoor
