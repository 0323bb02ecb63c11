/-
  Plain facts of a step without a second stage, and of words that stand in a memory.
  The law HartTraps: a trap that is gone into keeps where it was, and comes back there with Sret.
-/
import Derived.Test.YtkckobbedpccfaaGreatDoorQPm
import Derived.Test.YtkckobbedpccfaaGreatDoorQT
import Derived.Test.YtkckobbedpccfaaGreatDoorQSg
import Derived.Test.YtkckobbedpccfaaGreatDoorQO
namespace Go.Proofs.YtkckobbedpccfaaGreatDoor
open Go.RowKit
set_option linter.unusedVariables false
set_option maxRecDepth 100000

theorem splice_at (zs ys : List Int) (o i : Nat) (ho : o + ys.length ≤ zs.length) : (splice zs o ys).getD i 0 = if o ≤ i ∧ i < o + ys.length then ys.getD (i - o) 0 else zs.getD i 0 := by
  unfold splice
  simp only [List.getD, List.getElem?_append, List.length_take, List.getElem?_take, List.getElem?_drop]
  by_cases h1 : i < o
  · have e : i < min o zs.length := by omega
    have e2 : ¬ (o ≤ i ∧ i < o + ys.length) := by omega
    simp only [e, h1, if_true, e2, if_false]
  · have e1 : ¬ i < min o zs.length := by omega
    have e2 : min o zs.length = o := by omega
    rw [if_neg e1, e2]
    by_cases h2 : i - o < ys.length
    · rw [if_pos h2, if_pos (by omega)]
    · rw [if_neg h2, if_neg (by omega), show o + ys.length + (i - o - ys.length) = i by omega]
theorem leFrom_congr (xs ys : List Int) : ∀ (m k l : Nat), (∀ i, i < m → xs.getD (k + i) 0 = ys.getD (l + i) 0) → leFrom xs k m = leFrom ys l m
  | 0, _, _, _ => rfl
  | m + 1, k, l, h => by
    rw [leFrom, leFrom, leFrom_congr xs ys m (k + 1) (l + 1) (fun i hi => by have := h (i + 1) (by omega); rwa [show k + (i + 1) = k + 1 + i by omega, show l + (i + 1) = l + 1 + i by omega] at this)]
    have := h 0 (by omega)
    simp only [Nat.add_zero] at this
    rw [this]
/-- a word that was stored is what stands there -/
theorem word_at (zs : List Int) (t v : Int) (ht : 0 ≤ t) (h : numE zs.length t 4 = 0) (h0 : 0 ≤ v) (h1 : v ≤ 4294967295) : IntKind.u32.wrap (loadV (storeV zs t 4 v) t 4) = v := by
  obtain ⟨k1, k2, k3⟩ := numE_zero h
  have hl : (storeV zs t 4 v).length = zs.length := storeV_len zs t 4 v ht
  unfold loadV
  rw [hl, if_pos h]
  unfold storeV
  rw [if_pos h]
  have hb : (bytesOf v (4 : Int).toNat).length = 4 := bytesOf_len v 4
  have e : leFrom (splice zs t.toNat (bytesOf v (4 : Int).toNat)) t.toNat (4 : Int).toNat = leFrom (bytesOf v 4) 0 4 := by
    refine leFrom_congr _ _ 4 _ _ (fun i hi => ?_)
    rw [splice_at _ _ _ _ (by rw [hb]; omega), if_pos (by rw [hb]; omega)]
    congr 1
    omega
  rw [e, le_bytes v 4 4 (by omega), IntKind.wrap_u32]
  unfold extW
  split <;> omega
/-- a store elsewhere leaves it -/
theorem load_off (zs : List Int) (t t' v n n' : Int) (ht : 0 ≤ t) (ht' : 0 ≤ t') (hn : 0 ≤ n) (hn' : 0 ≤ n') (hd : t + n ≤ t' ∨ t' + n' ≤ t) : loadV (storeV zs t n v) t' n' = loadV zs t' n' := by
  unfold loadV
  rw [storeV_len zs t n v ht]
  unfold storeV
  by_cases h : numE zs.length t n = 0
  · rw [if_pos h]
    obtain ⟨k1, k2, k3⟩ := numE_zero h
    have hb : (bytesOf v n.toNat).length = n.toNat := bytesOf_len v n.toNat
    split
    · congr 1
      refine leFrom_congr _ _ _ _ _ (fun i hi => ?_)
      rw [splice_at _ _ _ _ (by rw [hb]; omega), if_neg (by rw [hb]; omega)]
    · rfl
  · rw [if_neg h]
theorem due_none {R : Nat → Int} {md : Int} (h1 : R 1 = 0) (h2 : R 2 = 0) : (dueP R md).2 = false := by
  have e : C.dueL (C.waitP R) = (0, false) := by unfold C.waitP; rw [h1, h2]; rfl
  unfold dueP
  rw [e]
  split
  · rfl
  · split <;> rfl
theorem do_plain [E.Bits] (s : Hs) (hs : s.sec < 0) (hd : (dueP s.R s.md).2 = false) (hp : s.pc % 4 = 0) (hn : numE s.zs.length s.pc 4 = 0) : s.doP TB = ({ s with wd := IntKind.u32.wrap (loadV s.zs s.pc 4) } : Hs).insP TB := by
  have et : s.tr TB s.pc 0 = ⟨s.pc, 0, 0, 0⟩ := by unfold Hs.tr TB; rw [if_pos hs]
  unfold Hs.doP
  rw [hd]
  have ef : (s.ft TB).none = true := by
    unfold Hs.ft
    rw [if_pos hp, et]
    simp [Tr.none, hn]
  rw [if_neg (by decide), if_pos ef]
  unfold Hs.word
  rw [et]
/-- a step that goes into the trap of a word that is no instruction -/
theorem ins_ill [E.Bits] (s : Hs) (hw : s.wd = 0) : s.insP TB = (⟨1, 2, 0, 0, false, false⟩, s.trapped 2 0) := by
  unfold Hs.insP Hs.illP
  rw [hw]
  have e : I.validW 0 = false := by decide
  rw [if_neg (by rw [e]; simp)]
/-- a step that comes back from a trap -/
theorem ins_ret [E.Bits] (s : Hs) (hm : s.md = 1) (hw : s.wd = 2885681152) : s.insP TB = (Rs.ok, s.laid.returned) := by
  unfold Hs.insP
  rw [hw]
  have e : I.validW 2885681152 = true := by decide
  have e2 : s.laid.op = 43 := by show I.opW s.wd = 43; rw [hw]; decide
  rw [if_pos ⟨e, fun h => by omega⟩]
  unfold Hs.perP
  simp [e2]
end Go.Proofs.YtkckobbedpccfaaGreatDoor
namespace Go.Proofs.YtkckobbedpccfaaGreatDoor
open Go.RowKit
set_option linter.unusedVariables false
set_option maxRecDepth 100000

theorem given_lit {cs : Array Value} {X R : Nat → Int} {pc mode sec : Int} {vi vw vp : Value} (h : Looks cs X R pc mode sec vi vw vp) : cs = stCells X R pc mode sec vi vw vp := by
  apply Array.ext_getElem?
  intro n
  by_cases hn : n < 34
  · match n, hn with
    | 0, _ => exact h.kX 0 (by decide)
    | 1, _ => exact h.kX 1 (by decide)
    | 2, _ => exact h.kX 2 (by decide)
    | 3, _ => exact h.kX 3 (by decide)
    | 4, _ => exact h.kX 4 (by decide)
    | 5, _ => exact h.kX 5 (by decide)
    | 6, _ => exact h.kX 6 (by decide)
    | 7, _ => exact h.kX 7 (by decide)
    | 8, _ => exact h.kX 8 (by decide)
    | 9, _ => exact h.kX 9 (by decide)
    | 10, _ => exact h.kX 10 (by decide)
    | 11, _ => exact h.kX 11 (by decide)
    | 12, _ => exact h.kX 12 (by decide)
    | 13, _ => exact h.kX 13 (by decide)
    | 14, _ => exact h.kX 14 (by decide)
    | 15, _ => exact h.kX 15 (by decide)
    | 16, _ => exact h.k16
    | 17, _ => exact h.k17
    | 18, _ => exact h.kR 0 (by decide)
    | 19, _ => exact h.kR 1 (by decide)
    | 20, _ => exact h.kR 2 (by decide)
    | 21, _ => exact h.kR 3 (by decide)
    | 22, _ => exact h.kR 4 (by decide)
    | 23, _ => exact h.kR 5 (by decide)
    | 24, _ => exact h.kR 6 (by decide)
    | 25, _ => exact h.kR 7 (by decide)
    | 26, _ => exact h.kR 8 (by decide)
    | 27, _ => exact h.kR 9 (by decide)
    | 28, _ => exact h.kR 10 (by decide)
    | 29, _ => exact h.kR 11 (by decide)
    | 30, _ => exact h.k30
    | 31, _ => exact h.k31
    | 32, _ => exact h.k32
    | 33, _ => exact h.k33
    | k + 34, hk => omega
  · rw [Array.getElem?_eq_none (by rw [h.size]; omega), Array.getElem?_eq_none (by show 34 ≤ n; omega)]
theorem mask255 (v : Int) (h0 : 0 ≤ v) (h1 : v < 18446744073709551616) : bits .and .u64 v 255 = v % 256 := bits_mask .u64 64 (by decide) wraps_u64 8 (by decide) v h0 (by omega)
theorem drop3 : ∀ m : Fin 256, bits .andNot .u64 (m.val : Int) 3 = ((m.val / 4 * 4 : Nat) : Int) := by decide +kernel
theorem vec_at (v : Int) (hv : C.U v) : ∃ ve : Int, IntKind.u64.wrap (128 + bits .andNot .u64 (bits .and .u64 v 255) 3) = ve ∧ 128 ≤ ve ∧ ve ≤ 380 ∧ ve % 4 = 0 := by
  rw [mask255 v hv.1 hv.2]
  obtain ⟨m, hm⟩ : ∃ m : Nat, v % 256 = m := ⟨(v % 256).toNat, by omega⟩
  have hm' : m < 256 := by omega
  have := drop3 ⟨m, hm'⟩
  simp only at this
  rw [hm, this, IntKind.wrap_u64]
  exact ⟨_, rfl, by omega, by omega, by omega⟩
theorem mode_mask (n : Int) : bits .and .i64 n 1 = n % 2 := by
  have h1 : (BitVec.ofInt 64 1).toNat = 2 ^ 1 - 1 := by decide
  have key : (BitVec.ofInt 64 n &&& BitVec.ofInt 64 1).toNat = (n % ((2 ^ 64 : Nat) : Int)).toNat % 2 ^ 1 := by
    rw [BitVec.toNat_and, BitVec.toNat_ofInt, h1, Nat.and_two_pow_sub_one_eq_mod]
  show IntKind.i64.wrap ((BitVec.ofInt 64 n &&& BitVec.ofInt 64 1).toNat : Nat) = n % 2
  rw [key, IntKind.wrap_i64]
  omega
theorem mode_one (m : Int) : bits .and .i64 m 1 = 0 ∨ bits .and .i64 m 1 = 1 := by
  rw [mode_mask]
  omega
/-- a hart's world that the law's both made -/
theorem made_ow {W1 w : World} {b g c h F G B Q : Nat} {zs : List Int} {R : Nat → Int} {sec : Int} (md : Made W1 w b g c h F G B Q zs R sec) (hW : 1 < W1.heap.size) (hz : SZ w) (X : Nat → Int) (hX : ∀ n, n < 16 → C.U (X n)) (hx0 : X 0 = 0) (pc m : Int) (hpc : C.U pc) (hm : m = 0 ∨ m = 1) (hs : sec < 9223372036854775808) :
    Ow w ⟨0, F, B, b, g, w.heap[1]?⟩ ⟨X, pc, m, R, zs, sec, false, 0, 0, 0, 0, 0, 0, 0⟩ := by
  obtain ⟨o1, o2⟩ := md.o0
  obtain ⟨p1, p2, p3, p4⟩ := md.o1
  obtain ⟨q1, q2⟩ := md.o2
  have q3 := md.o3
  obtain ⟨r1, r2, r3⟩ := md.o4
  have hne := md.mm.ne
  refine ⟨md.ff, md.fl, md.mm, hz, rfl, ⟨hX, hpc, ⟨Int.le_refl 0, by show (0 : Int) < 18446744073709551616; decide⟩, hs, by simp [Hs.fresh], by simp [Hs.fresh], by simp [Hs.fresh], by simp [Hs.fresh], by simp [Hs.fresh], hm, hx0⟩, ?_, ?_, ?_, ?_, ?_, ?_, ?_, ?_, ?_⟩
  all_goals (dsimp only; omega)
/-- what the law makes of its state -/
def trapC (X : Nat → Int) (mode ve : Int) (k : Nat) : Array Value := #[.int .u64 0, .int .u64 (X 1), .int .u64 (X 2), .int .u64 (X 3), .int .u64 (X 4), .int .u64 (X 5), .int .u64 (X 6), .int .u64 (X 7), .int .u64 (X 8), .int .u64 (X 9), .int .u64 (X 10), .int .u64 (X 11), .int .u64 (X 12), .int .u64 (X 13), .int .u64 (X 14), .int .u64 (X 15), .int .u64 64, .int .i64 mode, .int .u64 0, .int .u64 0, .int .u64 0, .int .u64 ve, .int .u64 0, .int .u64 0, .int .u64 0, .int .u64 0, .int .u64 0, .int .u64 0, .int .u64 0, .int .u64 0, .slice none 0 0, .slice (some ⟨k, 0, none⟩) 1 1, .slice none 0 0, .int .i64 (-1)]
def trapR (ve : Int) : Nat → Int := fun n => if n = 3 then ve else 0
def zeroX (X : Nat → Int) : Nat → Int := fun n => if n = 0 then 0 else X n
theorem two_at (w : World) (o1 o2 : Obj) : Below w.heap.size w ((w.alloc o1).alloc o2) ∧ ((w.alloc o1).alloc o2).heap[w.heap.size]? = some o1 ∧ ((w.alloc o1).alloc o2).heap[w.heap.size + 1]? = some o2 := by
  have e1 : (w.alloc o1).heap.size = w.heap.size + 1 := by simp
  refine ⟨((Below.refl _ _).alloc (Nat.le_refl _) _).alloc (by simp) _, ?_, ?_⟩
  · rw [C.heap_alloc_past _ _ (by omega)]; exact C.heap_alloc_at w _
  · have := C.heap_alloc_at (w.alloc o1) o2
    rwa [e1] at this
theorem trap_both (W : World) (hz : SZ W) (X : Nat → Int) (mode ve : Int) (hve : C.U ve) : Calls Tryz.prog 16 #[.agg (trapC X mode ve (W.heap.size + 1))] ((W.alloc (.cells (trapC X mode ve (W.heap.size + 1)) 31)).alloc (.cells #[.int .u32 0] 35)) fun e W' => ∃ b g c h F G B Q, e = .returned (.tuple #[.pointer (some ⟨F, 0, none⟩), .pointer (some ⟨G, 0, none⟩), .pointer (some ⟨B, 0, none⟩), .pointer (some ⟨Q, 0, none⟩), .bool true]) ∧
      Made ((W.alloc (.cells (trapC X mode ve (W.heap.size + 1)) 31)).alloc (.cells #[.int .u32 0] 35)) W' b g c h F G B Q (memW 64 ([0] ++ ([] : List I5).map I5.enc) (memP [] (List.replicate 3072 0) 0) (1 + 0)) (trapR ve) (-1) := by
  obtain ⟨hb, n0, n1⟩ := two_at W (.cells (trapC X mode ve (W.heap.size + 1)) 31) (.cells #[.int .u32 0] 35)
  refine both_any (trapC X mode ve (W.heap.size + 1)) (trapR ve) 64 (-1) none (some ⟨W.heap.size + 1, 0, none⟩) none 0 0 1 1 0 0 [] [0] [] _ rfl rfl rfl rfl rfl (fun n hn => ?_) (hz.below hb) ⟨by decide, by decide⟩ (fun n hn => ?_) rfl ⟨rfl, .inl rfl⟩ (Nat.le_refl _) (by decide) ⟨rfl, .inr ⟨W.heap.size + 1, 0, rfl, lt_of_heap n1, fun i hi => ?_⟩, fun i => ?_⟩ (Nat.le_refl _) (by decide) (fun h => by cases h) ⟨rfl, .inl rfl, fun i => ?_⟩ (Nat.le_refl _) (by decide) (by decide)
  · match n, hn with
    | 0, _ | 1, _ | 2, _ | 3, _ | 4, _ | 5, _ | 6, _ | 7, _ | 8, _ | 9, _ | 10, _ | 11, _ => rfl
  · unfold trapR
    split
    · exact hve
    · exact ⟨by decide, by decide⟩
  · obtain rfl : i = 0 := by omega
    rw [C.cell_at n1]
    rfl
  · cases i with
    | zero => exact ⟨by decide, by decide⟩
    | succ k => exact ⟨by simp, by simp⟩
  · exact ⟨⟨by simp, by simp⟩, ⟨by simp, by simp⟩⟩
theorem alloc_set {y : World} {k : Nat} (hk : y.heap.size = k) (a : Addr) (v : Value) (o : Obj) : ((y.setCell a v).alloc o).heap[k]? = some o := by
  have := C.heap_alloc_at (y.setCell a v) o
  rw [World.size_setCell, hk] at this
  exact this
theorem was_row {x y : World} {r : Nat} {rc : Array Value} {v : Value} (h : y.heap[r]? = some (.cells rc 25 (0, 0))) (hb : Below r x y) (hs : y.heap.size = r + 1) (old ds : Array Value) :
    (((y.setCell ⟨r, 17, none⟩ v).alloc (.cells old 25)).setRow (r + 1) ds).heap[r]? = some (.cells (rc.setIfInBounds 17 v) 25 (0, 0)) ∧ (((y.setCell ⟨r, 17, none⟩ v).alloc (.cells old 25)).setRow (r + 1) ds).heap[r + 1]? = some (.cells ds 25 (0, 0)) ∧ Below r x (((y.setCell ⟨r, 17, none⟩ v).alloc (.cells old 25)).setRow (r + 1) ds) ∧ (((y.setCell ⟨r, 17, none⟩ v).alloc (.cells old 25)).setRow (r + 1) ds).heap.size = r + 2 := by
  have e : (y.setCell ⟨r, 17, none⟩ v).heap.size = r + 1 := by rw [World.size_setCell, hs]
  refine ⟨?_, setRow_heap _ _ old ds 25 _ (alloc_set hs _ _ _), ?_, by simp [World.setRow, hs]⟩
  · rw [setRow_other _ _ _ _ (by omega), C.heap_alloc_past _ _ (by omega)]
    exact (set_bus h).1
  · refine ((hb.setCell (Nat.le_refl r) v).alloc (by omega) (.cells old 25)).trans ⟨rfl, rfl, rfl, by simp [World.setRow], fun k hk => setRow_other _ _ k _ (by omega)⟩
theorem trap_mem : (memW 64 ([0] ++ ([] : List I5).map I5.enc) (memP [] (List.replicate 3072 0) 0) (1 + 0)).length = 3072 ∧ IntKind.u32.wrap (loadV (memW 64 ([0] ++ ([] : List I5).map I5.enc) (memP [] (List.replicate 3072 0) 0) (1 + 0)) 64 4) = 0 := by
  have hl : (memP [] (List.replicate 3072 0) 0).length = 3072 := by rw [memP_len]; simp
  have e : memW 64 ([0] ++ ([] : List I5).map I5.enc) (memP [] (List.replicate 3072 0) 0) (1 + 0) = storeV (memP [] (List.replicate 3072 0) 0) 64 4 0 := by
    rw [show (1 + 0 : Nat) = 0 + 1 from rfl, memW_next]
    rfl
  rw [e]
  refine ⟨by rw [storeV_len _ _ _ _ (by decide), hl], word_at _ 64 0 (by decide) ?_ (by decide) (by decide)⟩
  rw [hl]
  decide
theorem zero_U {X : Nat → Int} (h : ∀ n, n < 16 → C.U (X n)) : ∀ n, n < 16 → C.U (zeroX X n) := fun n hn => by
  unfold zeroX
  split
  · exact ⟨by decide, by decide⟩
  · exact h n hn
/-- the hart behind the trap -/
def trapS (zs : List Int) (X : Nat → Int) (m ve : Int) : Hs := ⟨X, ve, 1, C.enterP (trapR ve) (C.causeP 2) 0 64 (m == 1), zs, -1, false, 0, 0, 0, 0, 0, 0, 0⟩
theorem trap_one [E.Bits] (zs : List Int) (zl : zs.length = 3072) (zw : IntKind.u32.wrap (loadV zs 64 4) = 0) (X : Nat → Int) (m ve : Int) : (⟨X, 64, m, trapR ve, zs, -1, false, 0, 0, 0, 0, 0, 0, 0⟩ : Hs).fresh.doP TB = (⟨1, 2, 0, 0, false, false⟩, trapS zs X m ve) := by
  rw [do_plain _ (by show (-1 : Int) < 0; decide) (due_none rfl rfl) (by show (64 : Int) % 4 = 0; decide) (by show numE zs.length 64 4 = 0; rw [zl]; decide)]
  rw [ins_ill _ zw]
  show (_, _) = _
  unfold Hs.trapped trapS Hs.fresh
  dsimp only
  rw [zw]
  rfl
theorem trap_epc (zs : List Int) (X : Nat → Int) (m ve : Int) : (trapS zs X m ve).R 4 = 64 := by
  show bits .andNot .u64 64 3 = 64
  decide
theorem num_four {t : Int} (h4 : t % 4 = 0) (h0 : 0 ≤ t) (h1 : t + 4 ≤ 3072) : numE 3072 t 4 = 0 := by
  unfold numE isW
  rw [if_neg (by simp), if_neg (by omega), if_neg (by omega)]
theorem ts_below {p : Pl} {r : Nat} {W w w' : World} (h : Below W.heap.size W w) (t : Ts p r w w') (h1 : W.heap.size ≤ r) (h2 : W.heap.size ≤ p.F) (h3 : W.heap.size ≤ p.B) (h4 : W.heap.size ≤ p.g) : Below W.heap.size W w' :=
  ⟨t.os.trans h.os, t.tape.trans h.tape, t.output.trans h.output, Nat.le_trans h.size t.size, fun k hk => (t.block k (Nat.lt_of_lt_of_le hk h.size) (by omega) (by omega) (by omega) (by omega)).trans (h.block k hk)⟩
theorem Ow.toM {w w' : World} {p : Pl} {s : Hs} {ys : List Int} (h : Ow w p s) (hm : MM w' p.M p.g ys) (hg : w.grownBy w' (some p.g)) : Ow w' p { s with zs := ys } := by
  have kk : ∀ k, k < w.heap.size → k ≠ p.g → w'.heap[k]? = w.heap[k]? := fun k hk hn => hg.block k hk (fun e => hn (by cases e; rfl))
  have g1 := h.g1
  refine ⟨h.ff.keep (kk _ h.ff.lt h.Fg), (kk _ (lt_of_heap h.fl) h.Bg).trans h.fl, hm, h.sz.block hg.size (kk 0 h.sz.pos (by omega)), (kk 1 (Nat.lt_trans h.F1 h.ff.lt) (by omega)).trans h.b1, ?_, h.FB, h.FM, h.Fg, h.BM, h.Bg, h.F1, h.B1, h.M1, h.g1⟩
  obtain ⟨o1, o2, o3, o4, o5, o6, o7, o8, o9, o10, o11⟩ := h.ok
  exact ⟨o1, o2, o3, o4, o5, o6, o7, o8, o9, o10, o11⟩
theorem reg_at (X : Nat → Int) (pc mode : Int) : ∀ n, n < 16 → (regC X pc mode)[n]? = some (.int .u64 (X n)) := fun n hn => by
  match n, hn with
  | 0, _ | 1, _ | 2, _ | 3, _ | 4, _ | 5, _ | 6, _ | 7, _ | 8, _ | 9, _ | 10, _ | 11, _ | 12, _ | 13, _ | 14, _ | 15, _ => rfl
  | k + 16, h => omega
theorem trap_two [E.Bits] (zs : List Int) (zl : zs.length = 3072) (X : Nat → Int) (m ve : Int) (hm : m = 0 ∨ m = 1) (h0 : 128 ≤ ve) (h1 : ve ≤ 380) (h4 : ve % 4 = 0) :
    ∃ s2, ({ trapS zs X m ve with zs := storeV zs ve 4 2885681152 } : Hs).fresh.doP TB = (Rs.ok, s2) ∧ s2.X = X ∧ s2.pc = 64 ∧ s2.md = m := by
  have hn : numE (storeV zs ve 4 2885681152).length ve 4 = 0 := by rw [storeV_len _ _ _ _ (by omega), zl]; exact num_four h4 (by omega) (by omega)
  rw [do_plain _ (by show (-1 : Int) < 0; decide) (due_none rfl rfl) h4 hn]
  rw [ins_ret _ rfl (word_at zs ve 2885681152 (by omega) (by rw [zl]; exact num_four h4 (by omega) (by omega)) (by decide) (by decide))]
  refine ⟨_, rfl, rfl, ?_, ?_⟩
  · show bits .andNot .u64 64 3 = 64
    decide
  · show (if C.hasP (C.enS 0 (m == 1)) 256 then (1 : Int) else 0) = m
    rcases hm with rfl | rfl
    · decide
    · decide
theorem trap_regs {w : World} {A k : Nat} {X : Nat → Int} {mode ve : Int} (h : w.heap[A]? = some (.cells (trapC X mode ve k) 31 (0, 0))) : w.rangeAt A 0 (regC (zeroX X) 64 mode).toList := by
  intro j v hv
  rw [Nat.zero_add, C.cell_at h]
  have hv' : (regC (zeroX X) 64 mode)[j]? = some v := by simpa using hv
  have hj : j < 18 := (Array.getElem?_eq_some_iff.1 hv').1
  rw [← hv']
  match j, hj with
  | 0, _ | 1, _ | 2, _ | 3, _ | 4, _ | 5, _ | 6, _ | 7, _ | 8, _ | 9, _ | 10, _ | 11, _ | 12, _ | 13, _ | 14, _ | 15, _ | 16, _ | 17, _ => rfl
  | k + 18, h => omega
end Go.Proofs.YtkckobbedpccfaaGreatDoor
