/-
  A hart in the midst of a step: the step's block of twenty-six cells, the file, the bus and its memory, as one structure; how each change carries it on.
-/
import Derived.Test.YtkckobbedpccfaaGreatDoorQE
import Derived.Test.YtkckobbedpccfaaGreatDoorQF
namespace Go.Proofs.YtkckobbedpccfaaGreatDoor
open Go.RowKit
set_option linter.unusedVariables false
set_option maxRecDepth 100000

/-- a hart in the midst of a step -/
structure Hs where
  X : Nat → Int
  pc : Int
  md : Int
  R : Nat → Int
  zs : List Int
  sec : Int
  is : Bool
  at_ : Int
  wd : Int
  op : Int
  rd : Nat
  r1 : Nat
  r2 : Nat
  im : Int

/-- the step's cells -/
def stepC (F B : Nat) (s : Hs) : Nat → Value := fun n =>
  if n < 16 then .int .u64 (s.X n) else if n = 16 then .int .u64 s.pc else if n = 17 then .int .i64 s.md else if n = 18 then .pointer (some ⟨F, 0, none⟩) else if n = 19 then .iface 39 (.pointer (some ⟨B, 0, none⟩))
  else if n = 20 then .int .u32 s.wd else if n = 21 then .int .i64 s.op else if n = 22 then .int .i64 s.rd else if n = 23 then .int .i64 s.r1 else if n = 24 then .int .i64 s.r2 else .int .i64 s.im
def updV (c : Nat → Value) (n : Nat) (v : Value) : Nat → Value := fun k => if k = n then v else c k

/-- a block of twenty-six cells -/
structure SB (w : World) (S : Nat) (c : Nat → Value) : Prop where
  blk : ∃ cs : Array Value, w.heap[S]? = some (.cells cs 86 (0, 0)) ∧ cs.size = 26 ∧ ∀ n, n < 26 → cs[n]? = some (c n)
theorem SB.lt {w : World} {S : Nat} {c : Nat → Value} (h : SB w S c) : S < w.heap.size := by
  obtain ⟨cs, h, _⟩ := h
  exact lt_of_heap h
theorem SB.keep {w w' : World} {S : Nat} {c : Nat → Value} (h : SB w S c) (hk : w'.heap[S]? = w.heap[S]?) : SB w' S c := by
  obtain ⟨cs, h, r⟩ := h
  exact ⟨cs, hk.trans h, r⟩
theorem SB.c {w : World} {S : Nat} {c : Nat → Value} (h : SB w S c) (n : Nat) (hn : n < 26) : w.cell? ⟨S, n, none⟩ = some (c n) := by
  obtain ⟨cs, h, h1, h3⟩ := h
  rw [C.cell_at h, h3 n hn]
theorem SB.f {w : World} {S : Nat} {c : Nat → Value} (h : SB w S c) (o : Nat) : w.frozen? ⟨S, o, none⟩ = false := by
  obtain ⟨cs, h, h1, h3⟩ := h
  simp [World.frozen?, h]
theorem SB.set {w : World} {S : Nat} {c : Nat → Value} (h : SB w S c) (n : Nat) (hn : n < 26) (v : Value) : SB (w.setCell ⟨S, n, none⟩ v) S (updV c n v) ∧ w.grownBy (w.setCell ⟨S, n, none⟩ v) (some S) := by
  obtain ⟨cs, h, h1, h3⟩ := h
  have e := setCell_eq_setRow w S n cs 86 (0, 0) v h
  rw [e]
  have hh : (w.setRow S (cs.setIfInBounds n v)).heap[S]? = _ := setRow_heap w S cs _ 86 _ h
  refine ⟨⟨_, hh, by simpa using h1, fun k hk => ?_⟩, ?_⟩
  · rw [Array.getElem?_setIfInBounds]
    unfold updV
    by_cases e : k = n
    · subst e
      rw [if_pos rfl, if_pos (by omega), if_pos rfl]
    · rw [if_neg (by omega), if_neg e]
      exact h3 k hk
  · exact ⟨rfl, rfl, rfl, by simp [World.setRow], fun k hk hne => setRow_other w S k _ (fun e => hne (by rw [e]))⟩
theorem SB.congr {w : World} {S : Nat} {c c' : Nat → Value} (h : SB w S c) (e : ∀ n, n < 26 → c n = c' n) : SB w S c' := by
  obtain ⟨cs, h, h1, h3⟩ := h
  exact ⟨cs, h, h1, fun n hn => by rw [h3 n hn, e n hn]⟩

/-- what the program's bus is -/
def flatV (b : Nat) (sec : Int) (is : Bool) (at_ : Int) : Array Value := #[.pointer (some ⟨b, 0, none⟩), .int .i64 sec, .bool is, .int .u64 at_]

/-- its numbers are numbers of their kinds -/
structure Hs.Ok (s : Hs) : Prop where
  X : ∀ n, n < 16 → C.U (s.X n)
  pc : C.U s.pc
  at_ : C.U s.at_
  sec : s.sec < 9223372036854775808
  wd : 0 ≤ s.wd ∧ s.wd ≤ 4294967295
  im : -131072 ≤ s.im ∧ s.im ≤ 131071
  rd : s.rd < 16
  r1 : s.r1 < 16
  r2 : s.r2 < 16
  md : s.md = 0 ∨ s.md = 1
  x0 : s.X 0 = 0

/-- where it all lies: the step S, the file F, the bus B, the memory M and its row g -/
structure Pl where
  S : Nat
  F : Nat
  B : Nat
  M : Nat
  g : Nat
  o1 : Option Obj
structure Pl.Apart (p : Pl) : Prop where
  SF : p.S ≠ p.F
  SB : p.S ≠ p.B
  SM : p.S ≠ p.M
  Sg : p.S ≠ p.g
  FB : p.F ≠ p.B
  FM : p.F ≠ p.M
  Fg : p.F ≠ p.g
  BM : p.B ≠ p.M
  Bg : p.B ≠ p.g
  S1 : 1 < p.S
  F1 : 1 < p.F
  B1 : 1 < p.B
  M1 : 1 < p.M
  g1 : 1 < p.g

structure HW (w : World) (p : Pl) (s : Hs) : Prop where
  sb : SB w p.S (stepC p.F p.B s)
  ff : C.FF w p.F s.R
  fl : w.heap[p.B]? = some (.cells (flatV p.M s.sec s.is s.at_) 46 (0, 0))
  mm : MM w p.M p.g s.zs
  sz : SZ w
  ap : p.Apart
  ok : s.Ok
  b1 : w.heap[1]? = p.o1

/-- what a step may turn: the step's block, the file, the bus, the memory's row -/
structure Tn (p : Pl) (w w' : World) : Prop where
  os : w'.os = w.os
  tape : w'.tape = w.tape
  output : w'.output = w.output
  size : w.heap.size ≤ w'.heap.size
  block : ∀ k, k < w.heap.size → k ≠ p.S → k ≠ p.F → k ≠ p.B → k ≠ p.g → w'.heap[k]? = w.heap[k]?
theorem Tn.refl (p : Pl) (w : World) : Tn p w w := ⟨rfl, rfl, rfl, Nat.le_refl _, fun _ _ _ _ _ _ => rfl⟩
theorem Tn.trans {p : Pl} {a b c : World} (h : Tn p a b) (k : Tn p b c) : Tn p a c :=
  ⟨k.os.trans h.os, k.tape.trans h.tape, k.output.trans h.output, Nat.le_trans h.size k.size, fun i hi h1 h2 h3 h4 => (k.block i (Nat.lt_of_lt_of_le hi h.size) h1 h2 h3 h4).trans (h.block i hi h1 h2 h3 h4)⟩
theorem Tn.below {p : Pl} {w w' : World} (h : Below w.heap.size w w') : Tn p w w' := ⟨h.os, h.tape, h.output, h.size, fun k hk _ _ _ _ => h.block k hk⟩
theorem Tn.S {p : Pl} {w w' : World} (h : w.grownBy w' (some p.S)) : Tn p w w' := ⟨h.os, h.tape, h.output, h.size, fun k hk h1 _ _ _ => h.block k hk (fun e => h1 (by cases e; rfl))⟩
theorem Tn.F {p : Pl} {w w' : World} (h : w.grownBy w' (some p.F)) : Tn p w w' := ⟨h.os, h.tape, h.output, h.size, fun k hk _ h1 _ _ => h.block k hk (fun e => h1 (by cases e; rfl))⟩
theorem Tn.B {p : Pl} {w w' : World} (h : w.grownBy w' (some p.B)) : Tn p w w' := ⟨h.os, h.tape, h.output, h.size, fun k hk _ _ h1 _ => h.block k hk (fun e => h1 (by cases e; rfl))⟩
theorem Tn.g {p : Pl} {w w' : World} (h : w.grownBy w' (some p.g)) : Tn p w w' := ⟨h.os, h.tape, h.output, h.size, fun k hk _ _ _ h1 => h.block k hk (fun e => h1 (by cases e; rfl))⟩
theorem HW.lt {w : World} {p : Pl} {s : Hs} (h : HW w p s) : p.S < w.heap.size ∧ p.F < w.heap.size ∧ p.B < w.heap.size ∧ p.M < w.heap.size ∧ p.g < w.heap.size := ⟨h.sb.lt, h.ff.lt, lt_of_heap h.fl, h.mm.blt, h.mm.glt⟩
theorem SZ.block {w w' : World} (h : SZ w) (hs : w.heap.size ≤ w'.heap.size) (hk : w'.heap[0]? = w.heap[0]?) : SZ w' := by
  have e : ∀ o, w'.cell? ⟨0, o, none⟩ = w.cell? ⟨0, o, none⟩ := fun o => World.cell?_of_block hk
  exact ⟨(e _).trans h.c0, (e _).trans h.c1, (e _).trans h.c2, (e _).trans h.c3, (e _).trans h.c4, (e _).trans h.c5, Nat.lt_of_lt_of_le h.pos hs⟩

theorem HW.below {w w' : World} {p : Pl} {s : Hs} (h : HW w p s) (hb : Below w.heap.size w w') : HW w' p s :=
  ⟨h.sb.keep (hb.block _ h.sb.lt), h.ff.below hb, (hb.block _ (lt_of_heap h.fl)).trans h.fl, h.mm.below hb, h.sz.below hb, h.ap, h.ok, (hb.block 1 (Nat.lt_trans h.ap.S1 h.sb.lt)).trans h.b1⟩
theorem HW.drew {w : World} {p : Pl} {s : Hs} (h : HW w p s) : HW w.drew p s := h.below ⟨rfl, rfl, rfl, Nat.le_refl _, fun _ _ => rfl⟩
theorem Tn.drew {p : Pl} {w w' : World} (h : Tn p w w') : Tn p w w'.drew := ⟨h.os, h.tape, h.output, h.size, h.block⟩

/-- the step's block alone has turned -/
theorem HW.toS {w w' : World} {p : Pl} {s s' : Hs} (h : HW w p s) (hb : SB w' p.S (stepC p.F p.B s')) (hg : w.grownBy w' (some p.S)) (ho : s'.Ok) (e1 : s'.R = s.R) (e2 : s'.zs = s.zs) (e3 : s'.sec = s.sec) (e4 : s'.is = s.is) (e5 : s'.at_ = s.at_) : HW w' p s' := by
  have a := h.ap
  have kk : ∀ k, k < w.heap.size → k ≠ p.S → w'.heap[k]? = w.heap[k]? := fun k hk hn => hg.block k hk (fun e => hn (by cases e; rfl))
  refine ⟨hb, ?_, ?_, ?_, h.sz.block hg.size (kk 0 h.sz.pos (by have := a.S1; omega)), a, ho, (kk 1 (Nat.lt_trans a.S1 h.sb.lt) (by have := a.S1; omega)).trans h.b1⟩
  · rw [e1]; exact h.ff.keep (kk _ h.ff.lt (Ne.symm a.SF))
  · rw [e3, e4, e5]; exact (kk _ (lt_of_heap h.fl) (Ne.symm a.SB)).trans h.fl
  · rw [e2]; exact h.mm.kept hg (by simp; exact Ne.symm a.SM) (by simp; exact Ne.symm a.Sg)
/-- the file alone has turned -/
theorem HW.toF {w w' : World} {p : Pl} {s : Hs} {R' : Nat → Int} (h : HW w p s) (hb : C.FF w' p.F R') (hg : w.grownBy w' (some p.F)) : HW w' p { s with R := R' } := by
  have a := h.ap
  have kk : ∀ k, k < w.heap.size → k ≠ p.F → w'.heap[k]? = w.heap[k]? := fun k hk hn => hg.block k hk (fun e => hn (by cases e; rfl))
  refine ⟨h.sb.keep (kk _ h.sb.lt a.SF), hb, (kk _ (lt_of_heap h.fl) (Ne.symm a.FB)).trans h.fl, h.mm.kept hg (by simp; exact Ne.symm a.FM) (by simp; exact Ne.symm a.Fg), h.sz.block hg.size (kk 0 h.sz.pos (by have := a.F1; omega)), a, ?_, (kk 1 (Nat.lt_trans a.S1 h.sb.lt) (by have := a.F1; omega)).trans h.b1⟩
  obtain ⟨o1, o2, o3, o4, o5, o6, o7, o8, o9, o10, o11⟩ := h.ok
  exact ⟨o1, o2, o3, o4, o5, o6, o7, o8, o9, o10, o11⟩
/-- the memory alone has turned -/
theorem HW.toM {w w' : World} {p : Pl} {s : Hs} {ys : List Int} (h : HW w p s) (hb : MM w' p.M p.g ys) (hg : w.grownBy w' (some p.g)) : HW w' p { s with zs := ys } := by
  have a := h.ap
  have kk : ∀ k, k < w.heap.size → k ≠ p.g → w'.heap[k]? = w.heap[k]? := fun k hk hn => hg.block k hk (fun e => hn (by cases e; rfl))
  refine ⟨h.sb.keep (kk _ h.sb.lt a.Sg), h.ff.keep (kk _ h.ff.lt a.Fg), (kk _ (lt_of_heap h.fl) a.Bg).trans h.fl, hb, h.sz.block hg.size (kk 0 h.sz.pos (by have := a.g1; omega)), a, ?_, (kk 1 (Nat.lt_trans a.S1 h.sb.lt) (by have := a.g1; omega)).trans h.b1⟩
  obtain ⟨o1, o2, o3, o4, o5, o6, o7, o8, o9, o10, o11⟩ := h.ok
  exact ⟨o1, o2, o3, o4, o5, o6, o7, o8, o9, o10, o11⟩
/-- the bus alone has turned -/
theorem HW.toB {w w' : World} {p : Pl} {s : Hs} {i : Bool} {t : Int} (h : HW w p s) (hb : w'.heap[p.B]? = some (.cells (flatV p.M s.sec i t) 46 (0, 0))) (hg : w.grownBy w' (some p.B)) (ht : C.U t) : HW w' p { s with is := i, at_ := t } := by
  have a := h.ap
  have kk : ∀ k, k < w.heap.size → k ≠ p.B → w'.heap[k]? = w.heap[k]? := fun k hk hn => hg.block k hk (fun e => hn (by cases e; rfl))
  refine ⟨h.sb.keep (kk _ h.sb.lt a.SB), h.ff.keep (kk _ h.ff.lt a.FB), hb, h.mm.kept hg (by simp; exact Ne.symm a.BM) (by simp; exact Ne.symm a.Bg), h.sz.block hg.size (kk 0 h.sz.pos (by have := a.B1; omega)), a, ?_, (kk 1 (Nat.lt_trans a.S1 h.sb.lt) (by have := a.B1; omega)).trans h.b1⟩
  obtain ⟨o1, o2, o3, o4, o5, o6, o7, o8, o9, o10, o11⟩ := h.ok
  exact ⟨o1, o2, ht, o4, o5, o6, o7, o8, o9, o10, o11⟩

/-- one cell of the step turned -/
theorem HW.set {w : World} {p : Pl} {s s' : Hs} (h : HW w p s) (n : Nat) (hn : n < 26) (v : Value) (e : ∀ k, k < 26 → updV (stepC p.F p.B s) n v k = stepC p.F p.B s' k) (ho : s'.Ok) (e1 : s'.R = s.R) (e2 : s'.zs = s.zs) (e3 : s'.sec = s.sec) (e4 : s'.is = s.is) (e5 : s'.at_ = s.at_) :
    HW (w.setCell ⟨p.S, n, none⟩ v) p s' ∧ w.grownBy (w.setCell ⟨p.S, n, none⟩ v) (some p.S) := by
  obtain ⟨h1, h2⟩ := h.sb.set n hn v
  exact ⟨h.toS (h1.congr e) h2 ho e1 e2 e3 e4 e5, h2⟩
theorem HW.setX {w : World} {p : Pl} {s : Hs} (h : HW w p s) (n : Nat) (hn : n < 16) (h0 : n ≠ 0) (v : Int) (hv : C.U v) : HW (w.setCell ⟨p.S, n, none⟩ (.int .u64 v)) p { s with X := C.upd s.X n v } ∧ w.grownBy (w.setCell ⟨p.S, n, none⟩ (.int .u64 v)) (some p.S) := by
  refine h.set n (by omega) _ (fun k hk => ?_) ?_ rfl rfl rfl rfl rfl
  · unfold updV stepC C.upd
    by_cases e : k = n
    · subst e; simp [hn]
    · simp [e]
  · obtain ⟨o1, o2, o3, o4, o5, o6, o7, o8, o9, o10, o11⟩ := h.ok
    refine ⟨fun k hk => ?_, o2, o3, o4, o5, o6, o7, o8, o9, o10, by show C.upd s.X n v 0 = 0; unfold C.upd; rw [if_neg (Ne.symm h0)]; exact o11⟩
    show C.U (C.upd s.X n v k)
    unfold C.upd
    split
    · exact hv
    · exact o1 k hk
theorem HW.setPc {w : World} {p : Pl} {s : Hs} (h : HW w p s) (v : Int) (hv : C.U v) : HW (w.setCell ⟨p.S, 16, none⟩ (.int .u64 v)) p { s with pc := v } ∧ w.grownBy (w.setCell ⟨p.S, 16, none⟩ (.int .u64 v)) (some p.S) := by
  refine h.set 16 (by omega) _ (fun k hk => ?_) ?_ rfl rfl rfl rfl rfl
  · unfold updV stepC
    by_cases e : k = 16
    · subst e; simp
    · simp [e]
  · obtain ⟨o1, o2, o3, o4, o5, o6, o7, o8, o9, o10, o11⟩ := h.ok
    exact ⟨o1, hv, o3, o4, o5, o6, o7, o8, o9, o10, o11⟩
theorem HW.setMd {w : World} {p : Pl} {s : Hs} (h : HW w p s) (v : Int) (hv : v = 0 ∨ v = 1) : HW (w.setCell ⟨p.S, 17, none⟩ (.int .i64 v)) p { s with md := v } ∧ w.grownBy (w.setCell ⟨p.S, 17, none⟩ (.int .i64 v)) (some p.S) := by
  refine h.set 17 (by omega) _ (fun k hk => ?_) ?_ rfl rfl rfl rfl rfl
  · unfold updV stepC
    by_cases e : k = 17
    · subst e; simp
    · simp [e]
  · obtain ⟨o1, o2, o3, o4, o5, o6, o7, o8, o9, o10, o11⟩ := h.ok
    exact ⟨o1, o2, o3, o4, o5, o6, o7, o8, o9, hv, o11⟩
theorem HW.setWd {w : World} {p : Pl} {s : Hs} (h : HW w p s) (v : Int) (hv : 0 ≤ v ∧ v ≤ 4294967295) : HW (w.setCell ⟨p.S, 20, none⟩ (.int .u32 v)) p { s with wd := v } ∧ w.grownBy (w.setCell ⟨p.S, 20, none⟩ (.int .u32 v)) (some p.S) := by
  refine h.set 20 (by omega) _ (fun k hk => ?_) ?_ rfl rfl rfl rfl rfl
  · unfold updV stepC
    by_cases e : k = 20
    · subst e; simp
    · simp [e]
  · obtain ⟨o1, o2, o3, o4, o5, o6, o7, o8, o9, o10, o11⟩ := h.ok
    exact ⟨o1, o2, o3, o4, hv, o6, o7, o8, o9, o10, o11⟩
/-- the cells, read -/
theorem HW.cX {w : World} {p : Pl} {s : Hs} (h : HW w p s) (n : Nat) (hn : n < 16) : w.cell? ⟨p.S, n, none⟩ = some (.int .u64 (s.X n)) := by
  rw [h.sb.c n (by omega)]; simp [stepC, hn]
theorem HW.cPc {w : World} {p : Pl} {s : Hs} (h : HW w p s) : w.cell? ⟨p.S, 16, none⟩ = some (.int .u64 s.pc) := by rw [h.sb.c 16 (by omega)]; simp [stepC]
theorem HW.cMd {w : World} {p : Pl} {s : Hs} (h : HW w p s) : w.cell? ⟨p.S, 17, none⟩ = some (.int .i64 s.md) := by rw [h.sb.c 17 (by omega)]; simp [stepC]
theorem HW.cF {w : World} {p : Pl} {s : Hs} (h : HW w p s) : w.cell? ⟨p.S, 18, none⟩ = some (.pointer (some ⟨p.F, 0, none⟩)) := by rw [h.sb.c 18 (by omega)]; simp [stepC]
theorem HW.cB {w : World} {p : Pl} {s : Hs} (h : HW w p s) : w.cell? ⟨p.S, 19, none⟩ = some (.iface 39 (.pointer (some ⟨p.B, 0, none⟩))) := by rw [h.sb.c 19 (by omega)]; simp [stepC]
theorem HW.cWd {w : World} {p : Pl} {s : Hs} (h : HW w p s) : w.cell? ⟨p.S, 20, none⟩ = some (.int .u32 s.wd) := by rw [h.sb.c 20 (by omega)]; simp [stepC]
theorem HW.cOp {w : World} {p : Pl} {s : Hs} (h : HW w p s) : w.cell? ⟨p.S, 21, none⟩ = some (.int .i64 s.op) := by rw [h.sb.c 21 (by omega)]; simp [stepC]
theorem HW.cRd {w : World} {p : Pl} {s : Hs} (h : HW w p s) : w.cell? ⟨p.S, 22, none⟩ = some (.int .i64 s.rd) := by rw [h.sb.c 22 (by omega)]; simp [stepC]
theorem HW.cR1 {w : World} {p : Pl} {s : Hs} (h : HW w p s) : w.cell? ⟨p.S, 23, none⟩ = some (.int .i64 s.r1) := by rw [h.sb.c 23 (by omega)]; simp [stepC]
theorem HW.cR2 {w : World} {p : Pl} {s : Hs} (h : HW w p s) : w.cell? ⟨p.S, 24, none⟩ = some (.int .i64 s.r2) := by rw [h.sb.c 24 (by omega)]; simp [stepC]
theorem HW.cIm {w : World} {p : Pl} {s : Hs} (h : HW w p s) : w.cell? ⟨p.S, 25, none⟩ = some (.int .i64 s.im) := by rw [h.sb.c 25 (by omega)]; simp [stepC]
theorem HW.f {w : World} {p : Pl} {s : Hs} (h : HW w p s) (n : Nat) : w.frozen? ⟨p.S, n, none⟩ = false := h.sb.f n
end Go.Proofs.YtkckobbedpccfaaGreatDoor
