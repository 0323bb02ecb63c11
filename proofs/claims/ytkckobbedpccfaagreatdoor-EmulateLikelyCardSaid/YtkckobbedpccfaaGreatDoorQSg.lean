/-
  What Step does, where do comes to something: its contract; the hart outside a step.
-/
import Derived.Test.YtkckobbedpccfaaGreatDoorQLo
import Derived.Test.YtkckobbedpccfaaGreatDoorQNw
import Derived.Defers
import Derived.Recover
namespace Go.Proofs.YtkckobbedpccfaaGreatDoor
open Go.RowKit
set_option linter.unusedVariables false
set_option maxRecDepth 100000

/-- a step's own parts as they are at first -/
def Hs.fresh (s : Hs) : Hs := { s with wd := 0, op := 0, rd := 0, r1 := 0, r2 := 0, im := 0 }
theorem Hs.Ok.fresh {s : Hs} (h : s.Ok) : s.fresh.Ok := by
  obtain ⟨o1, o2, o3, o4, o5, o6, o7, o8, o9, o10, o11⟩ := h
  exact ⟨o1, o2, o3, o4, by simp [Hs.fresh], by simp [Hs.fresh], by simp [Hs.fresh], by simp [Hs.fresh], by simp [Hs.fresh], o10, o11⟩
/-- a hart outside a step: the file, the bus, the memory -/
structure Ow (w : World) (p : Pl) (s : Hs) : Prop where
  ff : C.FF w p.F s.R
  fl : w.heap[p.B]? = some (.cells (flatV p.M s.sec s.is s.at_) 46 (0, 0))
  mm : MM w p.M p.g s.zs
  sz : SZ w
  b1 : w.heap[1]? = p.o1
  ok : s.fresh.Ok
  FB : p.F ≠ p.B
  FM : p.F ≠ p.M
  Fg : p.F ≠ p.g
  BM : p.B ≠ p.M
  Bg : p.B ≠ p.g
  F1 : 1 < p.F
  B1 : 1 < p.B
  M1 : 1 < p.M
  g1 : 1 < p.g
theorem HW.ow {w : World} {p : Pl} {s : Hs} (h : HW w p s) : Ow w p s := ⟨h.ff, h.fl, h.mm, h.sz, h.b1, h.ok.fresh, h.ap.FB, h.ap.FM, h.ap.Fg, h.ap.BM, h.ap.Bg, h.ap.F1, h.ap.B1, h.ap.M1, h.ap.g1⟩
theorem Ow.lt {w : World} {p : Pl} {s : Hs} (h : Ow w p s) : p.F < w.heap.size ∧ p.B < w.heap.size ∧ p.M < w.heap.size ∧ p.g < w.heap.size := ⟨h.ff.lt, lt_of_heap h.fl, h.mm.blt, h.mm.glt⟩
theorem Ow.below {w w' : World} {p : Pl} {s : Hs} (h : Ow w p s) (hb : Below w.heap.size w w') : Ow w' p s :=
  ⟨h.ff.below hb, (hb.block _ (lt_of_heap h.fl)).trans h.fl, h.mm.below hb, h.sz.below hb, (hb.block 1 (Nat.lt_trans h.F1 h.ff.lt)).trans h.b1, h.ok, h.FB, h.FM, h.Fg, h.BM, h.Bg, h.F1, h.B1, h.M1, h.g1⟩
theorem Ow.place {w : World} {p : Pl} {s : Hs} (S : Nat) (h : Ow w p s) : Ow w { p with S := S } s := ⟨h.ff, h.fl, h.mm, h.sz, h.b1, h.ok, h.FB, h.FM, h.Fg, h.BM, h.Bg, h.F1, h.B1, h.M1, h.g1⟩
/-- a block that is none of the hart's -/
structure Ow.Off (p : Pl) (r : Nat) : Prop where
  F : r ≠ p.F
  B : r ≠ p.B
  M : r ≠ p.M
  g : r ≠ p.g
  one : 1 < r
theorem Ow.toN {w w' : World} {p : Pl} {s : Hs} (h : Ow w p s) {N : Nat} (hN : Ow.Off p N) (hg : w.grownBy w' (some N)) : Ow w' p s := by
  have kk : ∀ k, k < w.heap.size → k ≠ N → w'.heap[k]? = w.heap[k]? := fun k hk hn => hg.block k hk (fun e => hn (by cases e; rfl))
  exact ⟨h.ff.keep (kk _ h.ff.lt (Ne.symm hN.F)), (kk _ (lt_of_heap h.fl) (Ne.symm hN.B)).trans h.fl, h.mm.kept hg (by simp; exact Ne.symm hN.M) (by simp; exact Ne.symm hN.g), h.sz.block hg.size (kk 0 h.sz.pos (by have := hN.one; omega)), (kk 1 (Nat.lt_trans h.F1 h.ff.lt) (by have := hN.one; omega)).trans h.b1, h.ok, h.FB, h.FM, h.Fg, h.BM, h.Bg, h.F1, h.B1, h.M1, h.g1⟩
/-- the step's block, laid anew -/
theorem Ow.begin {w w' : World} {p : Pl} {s : Hs} (h : Ow w p s) {S : Nat} (hS : w.heap.size ≤ S) (hb : Below w.heap.size w w') (sb : SB w' S (stepC p.F p.B s.fresh)) : HW w' { p with S := S } s.fresh := by
  have l := h.lt
  have h' := h.below hb
  have f1 := h.F1
  exact ⟨sb, h'.ff, h'.fl, h'.mm, h'.sz, ⟨by show S ≠ p.F; omega, by show S ≠ p.B; omega, by show S ≠ p.M; omega, by show S ≠ p.g; omega, h.FB, h.FM, h.Fg, h.BM, h.Bg, by show 1 < S; omega, h.F1, h.B1, h.M1, h.g1⟩, h.ok, h'.b1⟩
/-- what a step turns -/
structure Ts (p : Pl) (r : Nat) (w w' : World) : Prop where
  os : w'.os = w.os
  tape : w'.tape = w.tape
  output : w'.output = w.output
  size : w.heap.size ≤ w'.heap.size
  block : ∀ k, k < w.heap.size → k ≠ r → k ≠ p.F → k ≠ p.B → k ≠ p.g → w'.heap[k]? = w.heap[k]?
theorem und25' : ∃ fs, Tryz.prog.underlying 25 = some (.struct fs) := und25
def stepA (F B : Nat) (X : Nat → Int) (pc md : Int) : Array Value := #[.int .u64 0, .int .u64 (X 1), .int .u64 (X 2), .int .u64 (X 3), .int .u64 (X 4), .int .u64 (X 5), .int .u64 (X 6), .int .u64 (X 7), .int .u64 (X 8), .int .u64 (X 9), .int .u64 (X 10), .int .u64 (X 11), .int .u64 (X 12), .int .u64 (X 13), .int .u64 (X 14), .int .u64 (X 15), .int .u64 pc, .int .i64 md, .pointer (some ⟨F, 0, none⟩), .iface 39 (.pointer (some ⟨B, 0, none⟩)), .int .u32 0, .int .i64 0, .int .i64 0, .int .i64 0, .int .i64 0, .int .i64 0]
theorem stepA_sb (w : World) (F B : Nat) (X0 : Nat → Int) (s : Hs) (hx : s.X 0 = 0) (hX : ∀ n, 0 < n → n < 16 → X0 n = s.X n) : SB (w.alloc (.cells (stepA F B X0 s.pc s.md) 86)) w.heap.size (stepC F B s.fresh) := by
  refine ⟨_, C.heap_alloc_at w _, rfl, fun n hn => ?_⟩
  have e : stepA F B X0 s.pc s.md = stepA F B s.X s.pc s.md := by
    unfold stepA
    rw [hX 1 (by decide) (by decide), hX 2 (by decide) (by decide), hX 3 (by decide) (by decide), hX 4 (by decide) (by decide), hX 5 (by decide) (by decide), hX 6 (by decide) (by decide), hX 7 (by decide) (by decide), hX 8 (by decide) (by decide), hX 9 (by decide) (by decide), hX 10 (by decide) (by decide), hX 11 (by decide) (by decide), hX 12 (by decide) (by decide), hX 13 (by decide) (by decide), hX 14 (by decide) (by decide), hX 15 (by decide) (by decide)]
  rw [e]
  match n, hn with
  | 0, _ => show some (Value.int .u64 0) = some (.int .u64 (s.X 0)); rw [hx]
  | 1, _ | 2, _ | 3, _ | 4, _ | 5, _ | 6, _ | 7, _ | 8, _ | 9, _ | 10, _ | 11, _ | 12, _ | 13, _ | 14, _ | 15, _ | 16, _ | 17, _ | 18, _ | 19, _ | 20, _ | 21, _ | 22, _ | 23, _ | 24, _ | 25, _ => rfl
  | k + 26, h => omega
/-- the registers of the step's block -/
theorem HW.regs {w : World} {p : Pl} {s : Hs} (h : HW w p s) : w.rangeAt p.S 0 (regC s.X s.pc s.md).toList := by
  intro j v hv
  have hv' : (regC s.X s.pc s.md)[j]? = some v := by simpa using hv
  have hj : j < 18 := (Array.getElem?_eq_some_iff.1 hv').1
  rw [Nat.zero_add, h.sb.c j (by omega), ← hv']
  match j, hj with
  | 0, _ | 1, _ | 2, _ | 3, _ | 4, _ | 5, _ | 6, _ | 7, _ | 8, _ | 9, _ | 10, _ | 11, _ | 12, _ | 13, _ | 14, _ | 15, _ | 16, _ | 17, _ => rfl
  | k + 18, h => omega
theorem catch_idle (N : Nat) (W : World) : CallsD Tryz.prog 23 #[.pointer (some ⟨N, 0, none⟩), .pointer (some ⟨N + 1, 0, none⟩)] .returning W fun e u' w' => e = .returned (.tuple #[]) ∧ u' = .returning ∧ w' = W := by
  refine callsD_of_wpS Tryz.func23 rfl fun c₀ cs hu => ?_
  apply wpS_seq
  apply wpS_region
  simp [wpOpsS, go_sem, recoverD, hu, Tryz.ntmps23, Exit.thenS]
  refine wpS_cond (t := false) (by simp [Act.eval, Array.replicate]) ?_
  simp only [Bool.false_eq_true, if_false]
  refine wpS_of_wp (wp_skip ?_)
  cases c₀
  simp_all [bodyPostS, results, Tryz.results23]

theorem row_grown {w : World} {r : Nat} {cs : Array Value} {t : TypeId} (h : w.heap[r]? = some (.cells cs t (0, 0))) (ds : Array Value) : w.grownBy (w.setRow r ds) (some r) := ⟨rfl, rfl, rfl, by simp [World.setRow], fun k hk hne => setRow_other w r k _ (fun e => hne (by rw [e]))⟩
theorem ts_of {p : Pl} {r S : Nat} {w w1 w2 : World} (h : Tn { p with S := S } w w1) (hS : w.heap.size ≤ S) (hg : w1.grownBy w2 (some r)) : Ts p r w w2 :=
  ⟨hg.os.trans h.os, hg.tape.trans h.tape, hg.output.trans h.output, Nat.le_trans h.size hg.size, fun k hk a b c d => (hg.block k (Nat.lt_of_lt_of_le hk h.size) (fun e => by cases e; exact a rfl)).trans (h.block k hk (by show k ≠ S; omega) b c d)⟩
theorem grown_set1 (w : World) (b o : Nat) (v : Value) : w.grownBy (w.setCell ⟨b, o, none⟩ v) (some b) := by
  have h : Below b w (w.setCell ⟨b, o, none⟩ v) := (Below.refl b w).setCell (Nat.le_refl b) v
  exact ⟨h.os, h.tape, h.output, h.size, fun k hk hne => Below.heap_setCell w ⟨b, o, none⟩ v k (fun e => hne (by rw [e]))⟩
theorem Ts.toN {p : Pl} {r : Nat} {w w1 w2 : World} (h : Ts p r w w1) {N : Nat} (hN : w.heap.size ≤ N) (hg : w1.grownBy w2 (some N)) : Ts p r w w2 :=
  ⟨hg.os.trans h.os, hg.tape.trans h.tape, hg.output.trans h.output, Nat.le_trans h.size hg.size, fun k hk a b c d => (hg.block k (Nat.lt_of_lt_of_le hk h.size) (fun e => by cases e; omega)).trans (h.block k hk a b c d)⟩
theorem res_set {w : World} {N : Nat} (h : w.heap[N]? = some zeroRes) (v0 v1 v2 v3 v4 v5 : Value) : ((((((w.setCell ⟨N, 0, none⟩ v0).setCell ⟨N, 1, none⟩ v1).setCell ⟨N, 2, none⟩ v2).setCell ⟨N, 3, none⟩ v3).setCell ⟨N, 4, none⟩ v4).setCell ⟨N, 5, none⟩ v5).heap[N]? = some (.cells #[v0, v1, v2, v3, v4, v5] 57 (0, 0)) := by
  obtain ⟨h1, _⟩ := set_bus (o := 0) (v := v0) h
  obtain ⟨h2, _⟩ := set_bus (o := 1) (v := v1) h1
  obtain ⟨h3, _⟩ := set_bus (o := 2) (v := v2) h2
  obtain ⟨h4, _⟩ := set_bus (o := 3) (v := v3) h3
  obtain ⟨h5, _⟩ := set_bus (o := 4) (v := v4) h4
  obtain ⟨h6, _⟩ := set_bus (o := 5) (v := v5) h5
  exact h6
set_option maxHeartbeats 3200000 in
theorem step_of (p : Pl) (s : Hs) (X0 : Nat → Int) (hX : ∀ n, 0 < n → n < 16 → X0 n = s.X n) (r : Nat) (hr : Ow.Off p r) (o : Rs × Hs) (CD : ∀ S, Acts { p with S := S } 24 s.fresh o) (w : World) (h : Ow w p s) (hc : w.heap[r]? = some (.cells (regC X0 s.pc s.md) 25 (0, 0))) :
    Calls Tryz.prog 10 #[.pointer (some ⟨r, 0, none⟩), .pointer (some ⟨p.F, 0, none⟩), .iface 39 (.pointer (some ⟨p.B, 0, none⟩))] w fun e w' => e = .returned (.tuple #[o.1.val, .int .i64 0]) ∧ Ow w' p o.2 ∧ w'.heap[r]? = some (.cells (regC o.2.X o.2.pc o.2.md) 25 (0, 0)) ∧ Ts p r w w' := by
  obtain ⟨fs25, hu25⟩ := und25
  have hi25 : (Tryz.prog.info? 25).map (·.size) = some (regC X0 s.pc s.md).size := inf25
  have hi25' : (Tryz.prog.info? 25).map (·.size) = some (regC o.2.X o.2.pc o.2.md).size := inf25
  have hi25l : (Tryz.prog.info? 25).map (·.size) = some (regC o.2.X o.2.pc o.2.md).toList.length := inf25
  have r1 := reg_one o.2.X o.2.pc o.2.md
  have hb0 : Below w.heap.size w ((w.alloc zeroRes).alloc (.cells #[.int .i64 0] 43)) := below_res (Below.refl _ _) (Nat.le_refl _) _ _
  have e1 : (w.alloc zeroRes).heap.size = w.heap.size + 1 := by simp
  have n0 : ((w.alloc zeroRes).alloc (.cells #[.int .i64 0] 43)).heap[w.heap.size]? = some zeroRes := by
    rw [C.heap_alloc_past _ _ (by omega)]; exact C.heap_alloc_at w _
  have n1 : ((w.alloc zeroRes).alloc (.cells #[.int .i64 0] 43)).heap[w.heap.size + 1]? = some (.cells #[.int .i64 0] 43 (0, 0)) := by
    have := C.heap_alloc_at (w.alloc zeroRes) (.cells #[.int .i64 0] 43)
    rwa [e1] at this
  have hl := h.lt
  have hrl := lt_of_heap hc
  have h1 := h.below hb0
  have hc1 := keepB hc hb0
  have CM := isMade_ff p.F s.R _ h1.ff
  have CI := catch_idle w.heap.size
  have hmf : ∀ (fn : Fn) (first cap : Array Value) (w : World), (Instr.makeFunc fn first cap).run Tryz.prog w = .ok (.func fn first cap) w := fun _ _ _ _ => rfl
  have hs1 := lt_of_heap n1
  clear e1 hc h
  unfold zeroRes at *
  go_enter_defers Tryz.func10, Tryz.ntmps10
  go_wp2_with fail
  generalize (w.alloc (.cells #[.int .i64 0, .int .i64 0, .int .u64 0, .int .u64 0, .bool false, .bool false] 57)).alloc (.cells #[.int .i64 0] 43) = y at *
  refine CM.mono ?_
  rintro e y ⟨rfl, rfl⟩
  clear CM
  have H1 : Hid (Ow y p s) := h1
  have B0 : Hid (Below w.heap.size w y) := hb0
  have N0 : Hid (_) := n0
  have N1 : Hid (_) := n1
  have HC1 : Hid (y.heap[r]? = some (.cells (regC X0 s.pc s.md) 25 (0, 0))) := hc1
  clear h1 hb0 n0 n1 hc1
  have HC2 := HC1.out
  unfold regC at HC2
  have HC3 : Hid (_) := HC2
  clear HC2
  go_wp2_with (first
    | refine wpList_load_row rfl 25 _ rfl r rfl 25 _ (0, 0) _ HC3.out hu25 rfl inf25 ?_
    | fail)
  obtain ⟨⟨rk, rc, rv, rg, rf, rt⟩, s'⟩ := o
  have hOf : Ow.Off p y.heap.size := by have := H1.out.lt; have := H1.out.F1; exact ⟨by omega, by omega, by omega, by omega, by omega⟩
  have HB := H1.out.begin (Nat.le_refl _) (below_box y _) (stepA_sb y p.F p.B s.X s H1.out.ok.x0 (fun _ _ _ => rfl))
  have hb1 := below_box y (.cells (stepA p.F p.B s.X s.pc s.md) 86)
  have hON : Pl.Off { p with S := y.heap.size } w.heap.size := ⟨by show w.heap.size ≠ y.heap.size; omega, by show w.heap.size ≠ p.F; omega, by show w.heap.size ≠ p.B; omega, by show w.heap.size ≠ p.M; omega, by show w.heap.size ≠ p.g; omega, by have := H1.out.F1; omega⟩
  have hON1 : Pl.Off { p with S := y.heap.size } (w.heap.size + 1) := ⟨by show w.heap.size + 1 ≠ y.heap.size; omega, by show w.heap.size + 1 ≠ p.F; omega, by show w.heap.size + 1 ≠ p.B; omega, by show w.heap.size + 1 ≠ p.M; omega, by show w.heap.size + 1 ≠ p.g; omega, by have := H1.out.F1; omega⟩
  have hOr : Pl.Off { p with S := y.heap.size } r := ⟨by show r ≠ y.heap.size; omega, hr.F, hr.B, hr.M, hr.g, hr.one⟩
  refine (CD y.heap.size _ HB).mono ?_
  rintro e w2 ⟨rfl, h2, t2⟩
  have m0 := t2.keepN hON (keepB N0.out hb1)
  have m1 := t2.keepN hON1 (keepB N1.out hb1)
  have mr := t2.keepN hOr (keepB HC1.out hb1)
  have TT : Tn { p with S := y.heap.size } w w2 := (Tn.below B0.out).trans ((Tn.below hb1).trans t2)
  have g6 := grown_set6 w2 w.heap.size (.int .i64 rk) (.int .i64 rc) (.int .u64 rv) (.int .u64 rg) (.bool rf) (.bool rt)
  have h3 := h2.toN hON g6
  have k0 := res_set m0 (.int .i64 rk) (.int .i64 rc) (.int .u64 rv) (.int .u64 rg) (.bool rf) (.bool rt)
  have kr := (g6.block r (lt_of_heap mr) (by simp; omega)).trans mr
  have k1 := (g6.block (w.heap.size + 1) (lt_of_heap m1) (by simp)).trans m1
  have T3 := TT.toN (Nat.le_refl _) g6
  obtain ⟨z0, z1, z2, z3, z4, z5, f0, f1, f2, f3, f4, f5, hl6⟩ := res_cells (w := w2) m0
  have h3r := h3.regs
  have HX3 : Hid (_) := h3
  have HK0 : Hid (_) := k0
  have HK1 : Hid (_) := k1
  have HKr : Hid (_) := kr
  have HT3 : Hid (_) := T3
  have H3r : Hid (_) := h3r
  clear h2 t2 m0 m1 mr TT g6 h3 k0 kr k1 T3 h3r HB CD HC1 HC3 N0 N1 B0 hb1 H1
  dsimp only [Rs.val, resV]
  iterate 18 (first | go_values | go_skip | go_guarded | go_step | go_upon | go_back)
  repeat (
    fail_if_success (clear hx4)
    first
      | refine wpList_load_at rfl 25 _ rfl _ 0 rfl _ _ H3r.out hu25 rfl hi25l ?_
      | (refine wpList_store_row rfl 25 _ _ rfl r _ rfl rfl 25 _ HKr.out inf25 rfl (reg_one _ _ _) ?_
         generalize hx4 : World.setRow _ r _ = x4)
      | go_values | go_skip | go_guarded | go_step | go_upon | go_back)
  have y0 : x4.heap[w.heap.size]? = some (.cells #[.int .i64 rk, .int .i64 rc, .int .u64 rv, .int .u64 rg, .bool rf, .bool rt] 57 (0, 0)) := by rw [← hx4, setRow_other _ _ _ _ (by omega)]; exact HK0.out
  have y1 : x4.heap[w.heap.size + 1]? = some (.cells #[.int .i64 0] 43 (0, 0)) := by rw [← hx4, setRow_other _ _ _ _ (by omega)]; exact HK1.out
  have yr : x4.heap[r]? = some (.cells (regC s'.X s'.pc s'.md) 25 (0, 0)) := by rw [← hx4]; exact setRow_heap _ _ _ _ _ _ HKr.out
  have gr := row_grown HKr.out (regC s'.X s'.pc s'.md)
  have hx5 : World.setRow _ r (regC s'.X s'.pc s'.md) = x4 := hx4
  rw [hx5] at gr
  have HO4 : Hid (Ow x4 p s') := (HX3.out.ow.place p.S).toN hr gr
  have HT4 : Hid (Ts p r w x4) := ts_of HT3.out (by omega) gr
  clear HX3 HK0 HK1 HKr HT3 hx4 hx5 gr H3r
  obtain ⟨a0, a1, a2⟩ := cells6' y0
  obtain ⟨d0, d1, d2⟩ := cells6' y1
  have q0 := a0 0
  have q1 := a0 1
  have q2 := a0 2
  have q3 := a0 3
  have q4 := a0 4
  have q5 := a0 5
  have q6 := d0 0
  simp at q0 q1 q2 q3 q4 q5 q6
  have e0 := a1 0
  have e1 := a1 1
  have e2 := a1 2
  have e3 := a1 3
  have e4 := a1 4
  have e5 := a1 5
  have e6 := d1 0
  clear a0 a1 d0 d1 z0 z1 z2 z3 z4 z5 f0 f1 f2 f3 f4 f5 hl6
  have hON' : Ow.Off p w.heap.size := ⟨hON.F, hON.B, hON.M, hON.g, hON.one⟩
  have hON1' : Ow.Off p (w.heap.size + 1) := ⟨hON1.F, hON1.B, hON1.M, hON1.g, hON1.one⟩
  have hYR : Hid (_) := yr
  clear yr
  go_wp2_with fail
  refine leaves_cons (f := 23) (args := #[.pointer (some ⟨w.heap.size, 0, none⟩), .pointer (some ⟨w.heap.size + 1, 0, none⟩)]) (by simp) (by simp [go_sem]) ?_
  refine (CI _).mono ?_
  rintro e u' w'' ⟨rfl, rfl, rfl⟩
  simp [Leaves, settle, results, Tryz.results10, go_sem, q0, q1, q2, q3, q4, q5, q6]
  have g6 := grown_set6 x4 w.heap.size (.int .i64 rk) (.int .i64 rc) (.int .u64 rv) (.int .u64 rg) (.bool rf) (.bool rt)
  refine ⟨rfl, (HO4.out.toN hON' g6).toN hON1' (grown_set1 _ _ _ _), ?_, (HT4.out.toN (Nat.le_refl _) g6).toN (Nat.le_succ _) (grown_set1 _ _ _ _)⟩
  have hrs := lt_of_heap hYR.out
  exact ((grown_set1 _ (w.heap.size + 1) 0 (.int .i64 0)).block r (Nat.lt_of_lt_of_le hrs g6.size) (by simp; omega)).trans ((g6.block r hrs (by simp; omega)).trans hYR.out)
end Go.Proofs.YtkckobbedpccfaaGreatDoor
