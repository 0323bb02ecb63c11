/-
  Two harts in one world: a step of the one leaves the other; results and memories compared.
  The law HartTwice: a step hangs on registers, control registers and memory alone.
-/
import Derived.Test.YtghpkbgfpagpgaaGreatDoorQTr
import Derived.Test.YtghpkbgfpagpgaaGreatDoorQNw
import Derived.Deep.RegionHeld2
import Derived.Deep.CutRange
namespace Go.Proofs.YtghpkbgfpagpgaaGreatDoor
open Go.RowKit
set_option linter.unusedVariables false
set_option maxRecDepth 20000

theorem equal_any (a b : Option Addr) (n m c d : Nat) (xs ys : List Int) (w : World) (hx : SL w a n xs) (hy : SL w b m ys) :
    Calls Tryz.prog 32 #[.slice a n c, .slice b m d] w fun e w' => e = .returned (.bool (decide (xs = ys))) ∧ w' = w := by
  have v1 := conv_sl c hx
  have v2 := conv_sl d hy
  have HE : Hid (_) := str_eq xs ys hx.2.1 hy.2.1
  clear hx hy
  go_enter Tryz.func32, Tryz.ntmps32
  go_wp2_with fail
  go_ret
  exact ⟨ret_bool HE.out, rfl⟩
theorem same_any (p q : Value) (a b : Option Addr) (n m c d : Nat) (xs ys : List Int) (w : World) (hp : HV w p (.slice a n c)) (hq : HV w q (.slice b m d)) (hx : SL w a n xs) (hy : SL w b m ys) :
    Calls Tryz.prog 14 #[p, q] w fun e w' => e = .returned (.bool (decide (xs = ys))) ∧ w' = w := by
  go_enter Tryz.func14, Tryz.ntmps14
  go_wp2_with fail
  refine (held_any _ _ _ hp).mono ?_
  rintro e w1 ⟨rfl, rfl⟩
  go_wp2_with fail
  refine (held_any _ _ _ hq).mono ?_
  rintro e w2 ⟨rfl, rfl⟩
  go_wp2_with fail
  refine (equal_any _ _ _ _ _ _ xs ys _ hx hy).mono ?_
  rintro e w3 ⟨rfl, rfl⟩
  go_wp2_with fail
  go_ret
  exact ⟨rfl, rfl⟩
theorem eq_four (D : Nat) (rc : Array Value) (f0 f1 f2 f3 : Field) (t0 : f0.type = 3) (o0 : f0.offset = 0) (n0 : f0.name ≠ "_") (t1 : f1.type = 39) (o1 : f1.offset = 1) (n1 : f1.name ≠ "_") (t2 : f2.type = 4) (o2 : f2.offset = 4) (n2 : f2.name ≠ "_") (t3 : f3.type = 4) (o3 : f3.offset = 5) (n3 : f3.name ≠ "_") (P : Program) (w : World) (v0 v1 v2 v3 : Value)
    (p0 : (part 3 rc 0).run P w = .ok v0 w) (p1 : (part 39 rc 1).run P w = .ok v1 w) (p2 : (part 4 rc 4).run P w = .ok v2 w) (p3 : (part 4 rc 5).run P w = .ok v3 w) (q0 : (Op.equalIn D 3 v0 v0).run P w = .ok true w)
    (q1 : (Op.equalIn D 39 v1 v1).run P w = .ok true w) (q2 : (Op.equalIn D 4 v2 v2).run P w = .ok true w) (q3 : (Op.equalIn D 4 v3 v3).run P w = .ok true w) : (Op.eqFields D rc rc [f0, f1, f2, f3]).run P w = .ok true w := by
  simp [Op.eqFields, Sem.run_bind, n0, n1, n2, n3, t0, t1, t2, t3, o0, o1, o2, o3, p0, p1, p2, p3, q0, q1, q2, q3]
theorem res_fields : ∃ f0 f1 f2 f3 : Field, (Tryz.prog.fieldsOf 41).toList = [f0, f1, f2, f3] ∧ f0.type = 3 ∧ f0.offset = 0 ∧ f0.name = "Kind" ∧ f1.type = 39 ∧ f1.offset = 1 ∧ f1.name = "Trap" ∧ f2.type = 4 ∧ f2.offset = 4 ∧ f2.name = "Fence" ∧ f3.type = 4 ∧ f3.offset = 5 ∧ f3.name = "Timer" := by
  unfold Program.fieldsOf
  rw [Tryz.underlying41]
  exact ⟨_, _, _, _, rfl, rfl, rfl, rfl, rfl, rfl, rfl, rfl, rfl, rfl, rfl, rfl, rfl⟩
theorem res_struct : Tryz.prog.underlying 41 = some (.struct (Tryz.prog.fieldsOf 41)) := by unfold Program.fieldsOf; rw [Tryz.underlying41]
def resC (r : Rs) : Array Value := #[.int .i64 r.k, .int .i64 r.c, .int .u64 r.v, .int .u64 r.g, .bool r.fe, .bool r.ti]
theorem eq_res_at (d : Nat) (r : Rs) (w : World) : (Op.equalIn (d + 1 + 1 + 1) 41 (.agg (resC r)) (.agg (resC r))).run Tryz.prog w = .ok true w := by
  have p0 : (part 3 (resC r) 0).run Tryz.prog w = .ok (.int .i64 r.k) w := by simp [part, Tryz.isAgg3, resC]
  have p1 : (part 39 (resC r) 1).run Tryz.prog w = .ok (.agg #[.int .i64 r.c, .int .u64 r.v, .int .u64 r.g]) w := by simp [part, Tryz.isAgg39, Tryz.sizeOf39, resC]
  have p2 : (part 4 (resC r) 4).run Tryz.prog w = .ok (.bool r.fe) w := by simp [part, Tryz.isAgg4, resC]
  have p3 : (part 4 (resC r) 5).run Tryz.prog w = .ok (.bool r.ti) w := by simp [part, Tryz.isAgg4, resC]
  have q0 : (Op.equalIn (d + 1 + 1) 3 (.int .i64 r.k) (.int .i64 r.k)).run Tryz.prog w = .ok true w := by
    rw [run_equalIn_int (P := Tryz.prog) w (d + 1) 3 .i64 .i64 r.k r.k Tryz.underlying3, beq_self_eq_true]
  have q1 : (Op.equalIn (d + 1 + 1) 39 (.agg #[.int .i64 r.c, .int .u64 r.v, .int .u64 r.g]) (.agg #[.int .i64 r.c, .int .u64 r.v, .int .u64 r.g])).run Tryz.prog w = .ok true w := by
    rw [eq_trap_at d r.c r.v r.g r.c r.v r.g w]
    simp
  have q2 : (Op.equalIn (d + 1 + 1) 4 (.bool r.fe) (.bool r.fe)).run Tryz.prog w = .ok true w := by
    rw [run_equalIn_bool (P := Tryz.prog) w (d + 1) 4 r.fe r.fe Tryz.underlying4, beq_self_eq_true]
  have q3 : (Op.equalIn (d + 1 + 1) 4 (.bool r.ti) (.bool r.ti)).run Tryz.prog w = .ok true w := by
    rw [run_equalIn_bool (P := Tryz.prog) w (d + 1) 4 r.ti r.ti Tryz.underlying4, beq_self_eq_true]
  obtain ⟨f0, f1, f2, f3, hl4, t0, o0, n0, t1, o1, n1, t2, o2, n2, t3, o3, n3⟩ := res_fields
  have h := eq_four (d + 1 + 1) (resC r) f0 f1 f2 f3 t0 o0 (by rw [n0]; decide) t1 o1 (by rw [n1]; decide) t2 o2 (by rw [n2]; decide) t3 o3 (by rw [n3]; decide) Tryz.prog w _ _ _ _ p0 p1 p2 p3 q0 q1 q2 q3
  rw [run_equalIn_struct w (d + 1 + 1) 41 _ _ res_struct Tryz.stoodInHeld41, hl4]
  exact h
theorem eq_res (r : Rs) (w : World) : (Op.equalIn 10000 41 (.agg (resC r)) (.agg (resC r))).run Tryz.prog w = .ok true w := by
  have h := eq_res_at 9997 r w
  have e : (9997 + 1 + 1 + 1 : Nat) = 10000 := rfl
  rwa [e] at h
/-- a step elsewhere leaves a hart -/
theorem Ow.ts {w w' : World} {p q : Pl} {r : Nat} {s : Hs} (h : Ow w q s) (t : Ts p r w w') (hF : q.F ≠ r ∧ q.F ≠ p.F ∧ q.F ≠ p.B ∧ q.F ≠ p.g) (hB : q.B ≠ r ∧ q.B ≠ p.F ∧ q.B ≠ p.B ∧ q.B ≠ p.g) (hM : q.M ≠ r ∧ q.M ≠ p.F ∧ q.M ≠ p.B ∧ q.M ≠ p.g) (hg : q.g ≠ r ∧ q.g ≠ p.F ∧ q.g ≠ p.B ∧ q.g ≠ p.g) (h1 : 1 < r ∧ 1 < p.F ∧ 1 < p.B ∧ 1 < p.g) : Ow w' q s := by
  have lt := h.lt
  have kF := t.block q.F lt.1 hF.1 hF.2.1 hF.2.2.1 hF.2.2.2
  have kB := t.block q.B lt.2.1 hB.1 hB.2.1 hB.2.2.1 hB.2.2.2
  have kM := t.block q.M lt.2.2.1 hM.1 hM.2.1 hM.2.2.1 hM.2.2.2
  have kg := t.block q.g lt.2.2.2 hg.1 hg.2.1 hg.2.2.1 hg.2.2.2
  have k0 := t.block 0 h.sz.pos (by omega) (by omega) (by omega) (by omega)
  have k1 := t.block 1 (Nat.lt_trans h.F1 h.ff.lt) (by omega) (by omega) (by omega) (by omega)
  exact ⟨h.ff.keep kF, kB.trans h.fl, ⟨kM.trans h.mm.cell, kg.trans h.mm.row, h.mm.ne, h.mm.bytes, h.mm.pos, h.mm.len⟩, h.sz.block t.size k0, k1.trans h.b1, h.ok, h.FB, h.FM, h.Fg, h.BM, h.Bg, h.F1, h.B1, h.M1, h.g1⟩
end Go.Proofs.YtghpkbgfpagpgaaGreatDoor
namespace Go.Proofs.YtghpkbgfpagpgaaGreatDoor
open Go.RowKit
set_option linter.unusedVariables false
set_option maxRecDepth 20000

/-- both harts in one state -/
structure TW (W wr : World) (p q : Pl) (r t : Nat) (s : Hs) (X0 : Nat → Int) : Prop where
  op : Ow wr p s
  oq : Ow wr q s
  rr : wr.heap[r]? = some (.cells (regC X0 s.pc s.md) 25 (0, 0))
  rt : wr.heap[t]? = some (.cells (regC X0 s.pc s.md) 25 (0, 0))
  x : ∀ n, 0 < n → n < 16 → X0 n = s.X n
  bel : Below W.heap.size W wr
/-- where both lie -/
structure TP (W : World) (p q : Pl) (r t : Nat) : Prop where
  offp : Ow.Off p r
  offq : Ow.Off q t
  pt : Ow.Off p t
  qr : Ow.Off q r
  rt : r ≠ t
  a : p.F < q.F ∧ p.F < q.B ∧ p.F < q.M ∧ p.F < q.g ∧ p.B < q.F ∧ p.B < q.B ∧ p.B < q.M ∧ p.B < q.g ∧ p.M < q.F ∧ p.M < q.B ∧ p.M < q.M ∧ p.M < q.g ∧ p.g < q.F ∧ p.g < q.B ∧ p.g < q.M ∧ p.g < q.g
  lo : W.heap.size ≤ r ∧ W.heap.size ≤ t ∧ W.heap.size ≤ p.F ∧ W.heap.size ≤ p.B ∧ W.heap.size ≤ p.M ∧ W.heap.size ≤ p.g
  one : 1 < W.heap.size
theorem tw_one [E.Bits] {W wr : World} {p q : Pl} {r t : Nat} {s : Hs} {X0 : Nat → Int} (P : TP W p q r t) (hT : ∀ z : Pl, z.o1 = p.o1 → TransOK z TB) (h : TW W wr p q r t s X0) :
    Calls Tryz.prog 10 #[.pointer (some ⟨r, 0, none⟩), .pointer (some ⟨p.F, 0, none⟩), .iface 34 (.pointer (some ⟨p.B, 0, none⟩))] wr fun e w' => e = .returned (.tuple #[(s.fresh.doP TB).1.val, .int .i64 0]) ∧ Ow w' p (s.fresh.doP TB).2 ∧ w'.heap[r]? = some (.cells (regC (s.fresh.doP TB).2.X (s.fresh.doP TB).2.pc (s.fresh.doP TB).2.md) 25 (0, 0)) ∧ Ow w' q s ∧ w'.heap[t]? = some (.cells (regC X0 s.pc s.md) 25 (0, 0)) ∧ Below W.heap.size W w' := by
  obtain ⟨a1, a2, a3, a4, a5, a6, a7, a8, a9, a10, a11, a12, a13, a14, a15, a16⟩ := P.a
  obtain ⟨l1, l2, l3, l4, l5, l6⟩ := P.lo
  have h1 := P.one
  refine (step_of p s X0 h.x r P.offp _ (fun S => do_hw { p with S := S } TB (hT _ rfl) _ h.op.ok.md) wr h.op h.rr).mono fun e w' ⟨he, o, g, ts⟩ => ⟨he, o, g, ?_, ?_, ts_below h.bel ts l1 l3 l4 l6⟩
  · exact h.oq.ts ts ⟨Ne.symm P.qr.F, by omega, by omega, by omega⟩ ⟨Ne.symm P.qr.B, by omega, by omega, by omega⟩ ⟨Ne.symm P.qr.M, by omega, by omega, by omega⟩ ⟨Ne.symm P.qr.g, by omega, by omega, by omega⟩ ⟨by omega, by omega, by omega, by omega⟩
  · exact (ts.block t (lt_of_heap h.rt) (Ne.symm P.rt) P.pt.F P.pt.B P.pt.g).trans h.rt
theorem tw_two [E.Bits] {W w1 : World} {p q : Pl} {r t : Nat} {s s' : Hs} {X0 : Nat → Int} (P : TP W p q r t) (hT : ∀ z : Pl, z.o1 = q.o1 → TransOK z TB) (hs : (s.fresh.doP TB).2 = s') (o : Ow w1 p s') (g : w1.heap[r]? = some (.cells (regC s'.X s'.pc s'.md) 25 (0, 0))) (oq : Ow w1 q s) (rt : w1.heap[t]? = some (.cells (regC X0 s.pc s.md) 25 (0, 0))) (hx : ∀ n, 0 < n → n < 16 → X0 n = s.X n) (bel : Below W.heap.size W w1) :
    Calls Tryz.prog 10 #[.pointer (some ⟨t, 0, none⟩), .pointer (some ⟨q.F, 0, none⟩), .iface 34 (.pointer (some ⟨q.B, 0, none⟩))] w1 fun e w' => e = .returned (.tuple #[(s.fresh.doP TB).1.val, .int .i64 0]) ∧ TW W w' p q r t s' s'.X ∧ Ts q t w1 w' := by
  obtain ⟨a1, a2, a3, a4, a5, a6, a7, a8, a9, a10, a11, a12, a13, a14, a15, a16⟩ := P.a
  obtain ⟨l1, l2, l3, l4, l5, l6⟩ := P.lo
  have h1 := P.one
  refine (step_of q s X0 hx t P.offq _ (fun S => do_hw { q with S := S } TB (hT _ rfl) _ oq.ok.md) w1 oq rt).mono fun e w' ⟨he, o2, g2, ts⟩ => ⟨he, ?_, ts⟩
  rw [hs] at o2 g2
  refine ⟨?_, o2, ?_, g2, fun _ _ _ => rfl, ts_below bel ts l2 (by omega) (by omega) (by omega)⟩
  · exact o.ts ts ⟨Ne.symm P.pt.F, by omega, by omega, by omega⟩ ⟨Ne.symm P.pt.B, by omega, by omega, by omega⟩ ⟨Ne.symm P.pt.M, by omega, by omega, by omega⟩ ⟨Ne.symm P.pt.g, by omega, by omega, by omega⟩ ⟨by omega, by omega, by omega, by omega⟩
  · exact (ts.block r (lt_of_heap g) P.rt P.qr.F P.qr.B P.qr.g).trans g
theorem TW.below {W wr w' : World} {p q : Pl} {r t : Nat} {s : Hs} {X0 : Nat → Int} (h : TW W wr p q r t s X0) (hb : Below wr.heap.size wr w') : TW W w' p q r t s X0 :=
  ⟨h.op.below hb, h.oq.below hb, keepB h.rr hb, keepB h.rt hb, h.x, h.bel.trans (hb.mono h.bel.size)⟩
def z25 : Array Value := #[.int .u64 0, .int .u64 0, .int .u64 0, .int .u64 0, .int .u64 0, .int .u64 0, .int .u64 0, .int .u64 0, .int .u64 0, .int .u64 0, .int .u64 0, .int .u64 0, .int .u64 0, .int .u64 0, .int .u64 0, .int .u64 0, .int .u64 0, .int .i64 0]
theorem twoW (x : World) : ((x.alloc (.cells z25 25)).alloc (.cells z25 25)).heap[x.heap.size]? = some (.cells z25 25 (0, 0)) ∧ ((x.alloc (.cells z25 25)).alloc (.cells z25 25)).heap[x.heap.size + 1]? = some (.cells z25 25 (0, 0)) ∧ Below x.heap.size x ((x.alloc (.cells z25 25)).alloc (.cells z25 25)) := by
  obtain ⟨a, b, c⟩ := two_at x (.cells z25 25) (.cells z25 25)
  exact ⟨b, c, a⟩
theorem twoR {s : Nat} {x w2 : World} {rc : Array Value} (hs : s = x.heap.size) (i j : Nat) (hij : i ≠ j) (hi : i = s ∨ i = s + 1) (hj : j = s ∨ j = s + 1) (h1 : w2.heap[s]? = some (.cells z25 25 (0, 0))) (h2 : w2.heap[s + 1]? = some (.cells z25 25 (0, 0))) (hb : Below s x w2) :
    w2.heap[i]? = some (.cells z25 25 (0, 0)) ∧ (w2.setRow i rc).heap[j]? = some (.cells z25 25 (0, 0)) ∧ Below s x (w2.setRow i rc) ∧ ((w2.setRow i rc).setRow j rc).heap[i]? = some (.cells rc 25 (0, 0)) ∧ ((w2.setRow i rc).setRow j rc).heap[j]? = some (.cells rc 25 (0, 0)) ∧ Below s x ((w2.setRow i rc).setRow j rc) := by
  have ki : w2.heap[i]? = some (.cells z25 25 (0, 0)) := by rcases hi with rfl | rfl <;> assumption
  have kj : w2.heap[j]? = some (.cells z25 25 (0, 0)) := by rcases hj with rfl | rfl <;> assumption
  have kj' : (w2.setRow i rc).heap[j]? = some (.cells z25 25 (0, 0)) := (setRow_other _ _ _ _ (Ne.symm hij)).trans kj
  have bi : ∀ (w : World) (k : Nat), s ≤ k → Below s w (w.setRow k rc) := fun w k hk => ⟨rfl, rfl, rfl, by simp [World.setRow], fun m hm => setRow_other _ _ m _ (by omega)⟩
  have b1 := hb.trans (bi w2 i (by omega))
  refine ⟨ki, kj', b1, (setRow_other _ _ _ _ hij).trans (setRow_heap _ _ z25 rc 25 _ ki), setRow_heap _ _ z25 rc 25 _ kj', b1.trans (bi _ j (by omega))⟩
set_option maxHeartbeats 16000000 in
theorem twice_law [E.Bits] {W : World} {cs : Array Value} {X R : Nat → Int} {pc mode sec : Int} {iN wN pN : Nat} {xs : List I5} {ws : List Int} {ps : List (Int × Int)} {ia wa pa : Option Addr} {iC wC pC : Nat} (hG : Given W cs X R pc mode sec iN wN pN xs ws ps ia wa pa iC wC pC) (hz : SZ W) (h1 : 1 < W.heap.size) (hT : ∀ p : Pl, p.o1 = W.heap[1]? → TransOK p TB) (hsec : sec < 9223372036854775808) (n : Int) :
    Calls Tryz.prog 5 #[.agg cs, .int .i64 n] W fun e W' => e = .returned (.bool true) ∧ Below W.heap.size W W' := by
  obtain ⟨fs31, hu31⟩ := und31
  obtain ⟨fs25, hu25⟩ := und25
  have hb0 : Below W.heap.size W (W.alloc (.cells cs 31)) := (Below.refl _ _).alloc (Nat.le_refl _) _
  have BO := hG.both hz hb0
  have hi31 : (Tryz.prog.info? 31).map (·.size) = some cs.size := by rw [hG.size]; exact inf31
  have hA0 := C.heap_alloc_at W (.cells cs 31)
  obtain ⟨m, hm⟩ : ∃ m, bits .and .i64 mode 1 = m := ⟨_, rfl⟩
  have hm1 : m = 0 ∨ m = 1 := hm ▸ mode_one mode
  have HA0 : Hid ((W.alloc (.cells cs 31)).heap[W.heap.size]? = some (.cells cs 31 (0, 0))) := hA0
  have HB0 : Hid (_) := hb0
  have HG : Hid (_) := hG
  have HZ : Hid (_) := hz
  have HT : Hid (_) := hT
  clear hz hG hb0 hA0 hT
  go_enter Tryz.func5, Tryz.ntmps5
  go_wp2_with (first | refine wpList_load_row rfl 31 _ rfl W.heap.size rfl 31 cs (0, 0) _ HA0.out hu31 rfl hi31 ?_ | fail)
  refine BO.mono ?_
  rintro e x1 ⟨b, g, c, h, F, G, B, Q, rfl, md1⟩
  have hA1 : x1.heap[W.heap.size]? = some (.cells cs 31 (0, 0)) := keepB HA0.out md1.bl
  have H1 : Hid (Below W.heap.size W x1) := HB0.out.trans (md1.bl.mono (by simp))
  have HM1 : Hid (_) := md1
  have HA1 : Hid (x1.heap[W.heap.size]? = some (.cells cs 31 (0, 0))) := hA1
  have BO2 := HG.out.both HZ.out H1.out
  have hl1 := lt_of_heap hA1
  clear BO md1 hA1 HA0 HB0
  go_wp2_with (first | refine wpList_load_row rfl 31 _ rfl W.heap.size rfl 31 cs (0, 0) _ HA1.out hu31 rfl hi31 ?_ | fail)
  refine BO2.mono ?_
  rintro e x2 ⟨b2, g2, c2, h2, F2, G2, B2, Q2, rfl, md2⟩
  have hA2 : x2.heap[W.heap.size]? = some (.cells cs 31 (0, 0)) := keepB HA1.out md2.bl
  have H2 : Hid (Below W.heap.size W x2) := H1.out.trans (md2.bl.mono H1.out.size)
  have HM2 : Hid (_) := md2
  obtain ⟨rs, rX, hrg⟩ := HG.out.regs
  have hi25 : (Tryz.prog.info? 25).map (·.size) = some (regC X pc mode).toList.length := inf25
  have r1 := reg_one X pc mode
  have hR2 : x2.rangeAt W.heap.size 0 (regC X pc mode).toList := hrg _ _ hA2
  have lA2 := lt_of_heap hA2
  clear BO2 md2 HA1 hl1 hrg
  generalize hrc : regC X pc mode = rc at *
  go_upto_region 5 with fail
  go_cut [15, 16] from 44 to 101 (fun u v wx => ∃ r t, u = .pointer (some ⟨r, 0, none⟩) ∧ v = .pointer (some ⟨t, 0, none⟩) ∧ r ≠ t ∧ (r = x2.heap.size ∨ r = x2.heap.size + 1) ∧ (t = x2.heap.size ∨ t = x2.heap.size + 1) ∧ Hid (wx.heap[r]? = some (.cells rc 25 (0, 0)) ∧ wx.heap[t]? = some (.cells rc 25 (0, 0)) ∧ Below x2.heap.size x2 wx))
  case first =>
    have HSS : (fun w' : World => w'.rangeAt W.heap.size 0 rc.toList ∧ W.heap.size < w'.heap.size ∧ Below x2.heap.size x2 w') x2.drew := ⟨fun j v hj => hR2 j v hj, lA2, (Below.refl _ _).drew⟩
    refine wp_region_held_drew (S := fun w' => w'.rangeAt W.heap.size 0 rc.toList ∧ W.heap.size < w'.heap.size ∧ Below x2.heap.size x2 w') (by kernel_rfl) HSS (fun _ => ?_)
    refine wpAnyH_take (i := 0) (v := .pointer (some ⟨W.heap.size, 0, none⟩)) rfl (by kernel_rfl) (by kernel_rfl) (by kernel_rfl) (fun _ _ _ h => h) (Or.inl ⟨by rfl, ?_⟩) HSS ?_
    · intro w hw; go_simp
    simp only [Act.put, List.setIfInBounds_toArray]
    refine wpAnyH_take (i := 2) (v := .pointer (some ⟨W.heap.size, 0, none⟩)) rfl (by kernel_rfl) (by kernel_rfl) (by kernel_rfl) (fun _ _ _ h => h) (Or.inl ⟨by rfl, ?_⟩) HSS ?_
    · intro w hw; go_simp
    simp only [Act.put]
    refine wpAnyH_take (i := 1) (v := .agg rc) rfl (by kernel_rfl) (by kernel_rfl) (by kernel_rfl) (fun _ _ _ h => h) (yieldsIf_load_mid (by rfl) 25 _ rfl W.heap.size 0 rfl rc.toList _ (fun w h => h.1) hu25 rfl hi25) HSS ?_
    simp only [Act.put]
    refine wpAnyH_take (i := 3) (v := .agg rc) rfl (by kernel_rfl) (by kernel_rfl) (by kernel_rfl) (fun _ _ _ h => h) (yieldsIf_load_mid (by rfl) 25 _ rfl W.heap.size 0 rfl rc.toList _ (fun w h => h.1) hu25 rfl hi25) HSS ?_
    simp only [Act.put]
    refine wpAnyH_ready (rs := [4, 5]) (by kernel_rfl) (by simp) ?_
    have SC : ∀ {w' : World}, Below x2.heap.size x2 w' → w'.rangeAt W.heap.size 0 rc.toList ∧ W.heap.size < w'.heap.size ∧ Below x2.heap.size x2 w' := fun {w'} hb => ⟨fun j v hj => (hb.cell (p := ⟨W.heap.size, 0 + j, none⟩) lA2).trans (hR2 j v hj), Nat.lt_of_lt_of_le lA2 hb.size, hb⟩
    have SA : ∀ w' : World, w'.heap = (x2.alloc (.cells z25 25)).heap → w'.os = x2.os → w'.tape = x2.tape → w'.output = x2.output → w'.rangeAt W.heap.size 0 rc.toList ∧ W.heap.size < w'.heap.size ∧ Below x2.heap.size x2 w' := fun w' h1 h2 h3 h4 => SC ⟨h2, h3, h4, by rw [h1]; simp, fun k hk => by rw [h1]; exact C.heap_alloc_past x2 _ hk⟩
    have SB : ∀ w' : World, w'.heap = ((x2.alloc (.cells z25 25)).alloc (.cells z25 25)).heap → w'.os = x2.os → w'.tape = x2.tape → w'.output = x2.output → w'.rangeAt W.heap.size 0 rc.toList ∧ W.heap.size < w'.heap.size ∧ Below x2.heap.size x2 w' := fun w' h1 h2 h3 h4 => SC ⟨h2, h3, h4, by rw [h1]; exact (twoW x2).2.2.size, fun k hk => by rw [h1]; exact (twoW x2).2.2.block k hk⟩
    have hi25' : (Tryz.prog.info? 25).map (·.size) = some rc.size := by rw [← Array.length_toList]; exact hi25
    have hold : z25.size = rc.size := by rw [rs]; rfl
    clear HSS
    refine AllReadyH.cons rfl (fun K hK => ?_) (AllReadyH.cons rfl (fun K hK => ?_) AllReadyH.nil)
    · go_simp
      refine hK.out _ _ ?_ (fun hS1 => ?_)
      · exact SA _ rfl rfl rfl rfl
      clear hK K
      refine wpAnyH_ready (rs := [5]) (by kernel_rfl) (by simp) ?_
      refine AllReadyH.cons rfl (fun K hK => ?_) AllReadyH.nil
      go_simp
      refine hK.out _ _ ?_ (fun hS1 => ?_)
      · exact SB _ rfl rfl rfl rfl
      clear hK K
      obtain ⟨y, hy⟩ : ∃ y, ((x2.alloc (.cells z25 25)).alloc (.cells z25 25)).drew = y := ⟨_, rfl⟩
      have TR := twoR (rc := rc) (x := x2) (w2 := y) rfl x2.heap.size (x2.heap.size + 1) (by omega) (by omega) (by omega) (by rw [← hy]; exact (twoW x2).1) (by rw [← hy]; exact (twoW x2).2.1) (by rw [← hy]; exact (twoW x2).2.2.drew)
      unfold z25 at hy
      rw [hy]
      clear hy hS1
      obtain ⟨q1, q2, q3, q4, q5, q6⟩ := TR
      first
        | refine wpAnyH_ready (rs := [6]) (by kernel_rfl) (by simp) ?_
        | (trace "other"; fail)
      refine AllReadyH.cons rfl (fun K hK => ?_) AllReadyH.nil
      rw [if_pos (by rfl)]
      refine wp_store_row 25 _ _ rfl (x2.heap.size) rc rfl rfl 25 _ q1 hi25' hold r1 ?_
      refine hK.out _ _ (SC q3) (fun hS2 => ?_)
      clear hK K
      refine wpAnyH_ready (rs := [7]) (by kernel_rfl) (by simp) ?_
      refine AllReadyH.cons rfl (fun K hK => ?_) AllReadyH.nil
      rw [if_pos (by rfl)]
      refine wp_store_row 25 _ _ rfl ((x2.heap.size + 1)) rc rfl rfl 25 _ q2 hi25' hold r1 ?_
      refine hK.out _ _ (SC q6) (fun hS3 => ?_)
      clear hK K
      refine wpAnyH_done (by kernel_rfl) ?_ _
      simp only [Act.put, List.getElem_toArray, List.getElem_cons_succ, List.getElem_cons_zero]
      go_wp2_with fail
      go_meet
      case rel => exact ⟨_, _, rfl, rfl, by omega, by omega, by omega, q4, q5, q6⟩
    · go_simp
      refine hK.out _ _ ?_ (fun hS1 => ?_)
      · exact SA _ rfl rfl rfl rfl
      clear hK K
      refine wpAnyH_ready (rs := [4]) (by kernel_rfl) (by simp) ?_
      refine AllReadyH.cons rfl (fun K hK => ?_) AllReadyH.nil
      go_simp
      refine hK.out _ _ ?_ (fun hS1 => ?_)
      · exact SB _ rfl rfl rfl rfl
      clear hK K
      obtain ⟨y, hy⟩ : ∃ y, ((x2.alloc (.cells z25 25)).alloc (.cells z25 25)).drew = y := ⟨_, rfl⟩
      have TR := twoR (rc := rc) (x := x2) (w2 := y) rfl (x2.heap.size + 1) x2.heap.size (by omega) (by omega) (by omega) (by rw [← hy]; exact (twoW x2).1) (by rw [← hy]; exact (twoW x2).2.1) (by rw [← hy]; exact (twoW x2).2.2.drew)
      unfold z25 at hy
      rw [hy]
      clear hy hS1
      obtain ⟨q1, q2, q3, q4, q5, q6⟩ := TR
      first
        | refine wpAnyH_ready (rs := [6]) (by kernel_rfl) (by simp) ?_
        | (trace "other"; fail)
      refine AllReadyH.cons rfl (fun K hK => ?_) AllReadyH.nil
      rw [if_pos (by rfl)]
      refine wp_store_row 25 _ _ rfl ((x2.heap.size + 1)) rc rfl rfl 25 _ q1 hi25' hold r1 ?_
      refine hK.out _ _ (SC q3) (fun hS2 => ?_)
      clear hK K
      refine wpAnyH_ready (rs := [7]) (by kernel_rfl) (by simp) ?_
      refine AllReadyH.cons rfl (fun K hK => ?_) AllReadyH.nil
      rw [if_pos (by rfl)]
      refine wp_store_row 25 _ _ rfl (x2.heap.size) rc rfl rfl 25 _ q2 hi25' hold r1 ?_
      refine hK.out _ _ (SC q6) (fun hS3 => ?_)
      clear hK K
      refine wpAnyH_done (by kernel_rfl) ?_ _
      simp only [Act.put, List.getElem_toArray, List.getElem_cons_succ, List.getElem_cons_zero]
      go_wp2_with fail
      go_meet
      case rel => exact ⟨_, _, rfl, rfl, by omega, by omega, by omega, q4, q5, q6⟩
  case rest =>
    obtain ⟨r, t, rfl, rfl, hrt, hr, ht, hh⟩ := hcut
    obtain ⟨w3, hw3⟩ : ∃ w3, wc = w3 := ⟨_, rfl⟩
    rw [hw3] at hh
    rw [hw3]
    clear hw3
    have hrr := hh.out.1
    have htt := hh.out.2.1
    have k17 : w3.cell? ⟨r, 17, none⟩ = some (.int .i64 mode) := by rw [C.cell_at hrr, ← hrc]; rfl
    have f17 : w3.frozen? ⟨r, 17, none⟩ = false := by simp [World.frozen?, hrr]
    have l17 := lt_of_heap hrr
    have k18 : w3.cell? ⟨t, 17, none⟩ = some (.int .i64 mode) := by rw [C.cell_at htt, ← hrc]; rfl
    have f18 : w3.frozen? ⟨t, 17, none⟩ = false := by simp [World.frozen?, htt]
    have l18 := lt_of_heap htt
    have hne := Ne.symm hrt
    have Hrr : Hid (w3.heap[r]? = some (.cells rc 25 (0, 0))) := hrr
    have Htt : Hid (w3.heap[t]? = some (.cells rc 25 (0, 0))) := htt
    clear hrr htt
    obtain ⟨k, hk, hk0, hk1⟩ : ∃ k, bits .and .i64 n 15 = k ∧ 0 ≤ k ∧ k ≤ 15 := ⟨_, rfl, by
      have e := and_ones64 n 4 (by decide)
      have e2 : (2 : Int) ^ 4 = 16 := by decide
      rw [e2] at e
      have e3 : bits .and .i64 n 15 = n % 16 := e
      omega⟩
    go_wp2_with fail
    have md1 := HM1.out
    have md2 := HM2.out
    have hs1 := H1.out.size
    have hs2 := md2.bl.size
    obtain ⟨u0, u1⟩ := md1.o0
    simp only [World.size_alloc] at u0 u1
    obtain ⟨u2, u3, u4, u5⟩ := md1.o1
    obtain ⟨u6, u7⟩ := md1.o2
    have u8 := md1.o3
    obtain ⟨u9, u10, u11⟩ := md1.o4
    obtain ⟨v0, v1⟩ := md2.o0
    obtain ⟨v2, v3, v4, v5⟩ := md2.o1
    obtain ⟨v6, v7⟩ := md2.o2
    have v8 := md2.o3
    obtain ⟨v9, v10, v11⟩ := md2.o4
    have e1 : x1.heap[1]? = W.heap[1]? := H1.out.block 1 h1
    have e2 : x2.heap[1]? = W.heap[1]? := H2.out.block 1 h1
    have hx0 : zeroX X 0 = 0 := rfl
    have ow1 := made_ow md1 (by simp <;> omega) (HZ.out.below H1.out) (zeroX X) (zero_U HG.out.hX) hx0 pc m HG.out.hpc hm1 hsec
    have ow2 := made_ow md2 (by omega) (HZ.out.below H2.out) (zeroX X) (zero_U HG.out.hX) hx0 pc m HG.out.hpc hm1 hsec
    rw [e1] at ow1
    rw [e2] at ow2
    have lt1 := ow1.lt
    have lt2 := ow2.lt
    dsimp only at lt1 lt2
    have hr' : x2.heap.size ≤ r := by omega
    have ht' : x2.heap.size ≤ t := by omega
    have b4 : Below x2.heap.size x2 ((w3.setCell ⟨r, 17, none⟩ (.int .i64 m)).setCell ⟨t, 17, none⟩ (.int .i64 m)) := (hh.out.2.2.setCell (p := ⟨r, 17, none⟩) hr' _).setCell (p := ⟨t, 17, none⟩) ht' _
    have r4 : ((w3.setCell ⟨r, 17, none⟩ (.int .i64 m)).setCell ⟨t, 17, none⟩ (.int .i64 m)).heap[r]? = some (.cells (regC X pc m) 25 (0, 0)) := by
      rw [Below.heap_setCell _ ⟨t, 17, none⟩ _ r hrt, (set_bus Hrr.out).1, ← hrc]
      rfl
    have t4 : ((w3.setCell ⟨r, 17, none⟩ (.int .i64 m)).setCell ⟨t, 17, none⟩ (.int .i64 m)).heap[t]? = some (.cells (regC X pc m) 25 (0, 0)) := by
      rw [(set_bus ((Below.heap_setCell _ ⟨r, 17, none⟩ _ t hne).trans Htt.out)).1, ← hrc]
      rfl
    obtain ⟨w4, hw4⟩ : ∃ w4, (w3.setCell ⟨r, 17, none⟩ (.int .i64 m)).setCell ⟨t, 17, none⟩ (.int .i64 m) = w4 := ⟨_, rfl⟩
    rw [hw4] at b4 r4 t4
    rw [hw4]
    obtain ⟨p, hp⟩ : ∃ p : Pl, (⟨0, F, B, b, g, W.heap[1]?⟩ : Pl) = p := ⟨_, rfl⟩
    obtain ⟨q, hq⟩ : ∃ q : Pl, (⟨0, F2, B2, b2, g2, W.heap[1]?⟩ : Pl) = q := ⟨_, rfl⟩
    have hpF : p.F = F := by rw [← hp]
    have hpB : p.B = B := by rw [← hp]
    have hpM : p.M = b := by rw [← hp]
    have hpg : p.g = g := by rw [← hp]
    have hpo : p.o1 = W.heap[1]? := by rw [← hp]
    have hqF : q.F = F2 := by rw [← hq]
    have hqB : q.B = B2 := by rw [← hq]
    have hqM : q.M = b2 := by rw [← hq]
    have hqg : q.g = g2 := by rw [← hq]
    have hqo : q.o1 = W.heap[1]? := by rw [← hq]
    rw [hp] at ow1
    rw [hq] at ow2
    have TPH : Hid (TP W p q r t) := by
      refine ⟨⟨?_, ?_, ?_, ?_, ?_⟩, ⟨?_, ?_, ?_, ?_, ?_⟩, ⟨?_, ?_, ?_, ?_, ?_⟩, ⟨?_, ?_, ?_, ?_, ?_⟩, hrt, ?_, ?_, h1⟩
      all_goals omega
    have E0 : Hid (∃ s X0, TW W w4 p q r t s X0) := ⟨_, X, (ow1.below md2.bl).below b4, ow2.below b4, r4, t4, fun i hi _ => by
      show X i = zeroX X i
      unfold zeroX
      rw [if_neg (by omega)], H2.out.trans (b4.mono H2.out.size)⟩
    have HTp : Hid (∀ z : Pl, z.o1 = p.o1 → TransOK z TB) := fun z hz => HT.out z (hz.trans hpo)
    have HTq : Hid (∀ z : Pl, z.o1 = q.o1 → TransOK z TB) := fun z hz => HT.out z (hz.trans hqo)
    obtain ⟨fs41, hu41⟩ := und41
    clear ow1 ow2 md1 md2 lt1 lt2 b4 r4 t4 hw4 hp hq hpo hqo e1 e2 hx0 u0 u1 u2 u3 u4 u5 u6 u7 u8 u9 u10 u11 v0 v1 v2 v3 v4 v5 v6 v7 v8 v9 v10 v11 hs1 hs2 HM1 HM2 H1 H2 HG HZ HT Hrr Htt hh k17 k18 f17 f18 l17 l18 hr ht hrc rs rX r1 hi25 hR2 lA2 hA2
    go_loopw [17] (fun a wr => ∃ j : Nat, j ≤ 16 ∧ a = .int .i64 j ∧ Hid (∃ s X0, TW W wr p q r t s X0)) (fun a _ => 17 - (intOf a).toNat)
    case atStart => exact ⟨0, by omega, rfl, E0⟩
    case round =>
      obtain ⟨j, hj, rfl, HS⟩ := hrel
      clear E0
      by_cases hjk : (j : Int) ≤ k
      · obtain ⟨s, X0, hTW⟩ := HS.out
        obtain ⟨ρ, hρ⟩ : ∃ ρ, (s.fresh.doP TB).1 = ρ := ⟨_, rfl⟩
        obtain ⟨s', hs'⟩ : ∃ s', (s.fresh.doP TB).2 = s' := ⟨_, rfl⟩
        have S1 := tw_one TPH.out HTp.out hTW
        rw [hρ, hs', hpF, hpB] at S1
        have hx := hTW.x
        have lts := hTW.rt
        have HX : Hid (∀ i, 0 < i → i < 16 → X0 i = s.X i) := hx
        clear hTW HS hx
        go_wp2_with fail
        refine S1.mono ?_
        rintro e w5 ⟨rfl, o5, g5, oq5, t5, b5⟩
        clear S1 lts
        have bx := below_box w5 (.cells (resC ρ) 41)
        have S2 := tw_two (s' := s') TPH.out HTq.out hs' (o5.below bx) (keepB g5 bx) (oq5.below bx) (keepB t5 bx) HX.out (b5.trans (bx.mono b5.size))
        rw [hρ, hqF, hqB] at S2
        have xb := C.heap_alloc_at w5 (.cells (resC ρ) 41)
        have lq := oq5.lt
        have lt5 := lt_of_heap t5
        have X5 : Hid ((w5.alloc (.cells (resC ρ) 41)).heap[w5.heap.size]? = some (.cells (resC ρ) 41 (0, 0))) := xb
        clear o5 g5 oq5 t5 b5 bx xb
        dsimp only [Rs.val, resV]
        unfold resC at S2
        go_wp2_with fail
        refine S2.mono ?_
        rintro e w6 ⟨rfl, hT6, ts6⟩
        have x6 : w6.heap[w5.heap.size]? = some (.cells (resC ρ) 41 (0, 0)) := (ts6.block _ (lt_of_heap X5.out) (by omega) (by omega) (by omega) (by omega)).trans X5.out
        have bx2 := below_box w6 (.cells (resC ρ) 41)
        have k1 := range_of (keepB x6 bx2)
        have k2 := range_of (C.heap_alloc_at w6 (.cells (resC ρ) 41))
        have k3 := range_of (keepB hT6.rr bx2)
        have k4 := range_of (keepB hT6.rt bx2)
        have EQ := eq_res ρ
        have ER := eq_regs (regC s'.X s'.pc s'.md) s'.X s'.pc s'.md (reg_at s'.X s'.pc s'.md) rfl rfl
        have H7 : Hid (∃ s X0, TW W (w6.alloc (.cells (resC ρ) 41)) p q r t s X0) := ⟨_, _, hT6.below bx2⟩
        clear S2 hT6 ts6 x6 bx2 X5 lq lt5 HX hρ hs'
        unfold resC at k1 k2 EQ H7
        dsimp only [Rs.val, resV]
        go_wp2_with (first
          | refine wpList_load_at rfl 41 _ rfl _ 0 rfl _ _ k1 hu41 rfl inf41 ?_
          | refine wpList_load_at rfl 41 _ rfl _ 0 rfl _ _ k2 hu41 rfl inf41 ?_
          | refine wpList_load_at rfl 25 _ rfl _ 0 rfl _ _ k3 hu25 rfl inf25 ?_
          | refine wpList_load_at rfl 25 _ rfl _ 0 rfl _ _ k4 hu25 rfl inf25 ?_
          | refine wpList_neq_agg rfl 41 _ _ rfl _ _ rfl rfl Tryz.eqGuardType41 true (EQ _) ?_
          | refine wpList_neq_agg rfl 25 _ _ rfl _ _ rfl rfl Tryz.eqGuardType25 true (ER _) ?_
          | fail)
        go_roundw
        case rel => exact ⟨j + 1, by omega, by go_num, H7⟩
        case measure => simp [intOf]; omega
      · obtain ⟨s, X0, hTW⟩ := HS.out
        have fl1 := hTW.op.fl
        have fl2 := hTW.oq.fl
        rw [hpB, hpM] at fl1
        rw [hqB, hqM] at fl2
        have c1 : wr.cell? ⟨B, 0, none⟩ = some (.pointer (some ⟨b, 0, none⟩)) := by rw [C.cell_at fl1]; rfl
        have c2' : wr.cell? ⟨B2, 0, none⟩ = some (.pointer (some ⟨b2, 0, none⟩)) := by rw [C.cell_at fl2]; rfl
        have l1 := lt_of_heap fl1
        have l2 := lt_of_heap fl2
        have mm1 := hTW.op.mm
        have mm2 := hTW.oq.mm
        rw [hpM] at mm1
        rw [hqM] at mm2
        have SM : Hid (∀ k, Calls Tryz.prog 14 #[.pointer (some ⟨b, 0, none⟩), .pointer (some ⟨b2, 0, none⟩)] (wr.drewN k) fun e w' => e = .returned (.bool true) ∧ w' = wr.drewN k) := fun k => by
          have m1 : MM (wr.drewN k) b p.g s.zs := ⟨mm1.cell, mm1.row, mm1.ne, mm1.bytes, mm1.pos, mm1.len⟩
          have m2 : MM (wr.drewN k) b2 q.g s.zs := ⟨mm2.cell, mm2.row, mm2.ne, mm2.bytes, mm2.pos, mm2.len⟩
          have := same_any _ _ _ _ _ _ _ _ s.zs s.zs (wr.drewN k) m1.hv m2.hv m1.slAll m2.slAll
          rwa [decide_eq_true rfl] at this
        have HB : Hid (Below W.heap.size W wr) := hTW.bel
        clear hTW fl1 fl2 mm1 mm2 HS
        go_wp2_with fail
        go_quiet ((go_at_call 14; refine Calls.quiet_of_same (SM.out _)))
        go_wp2_with fail
        go_ret
        exact ⟨rfl, HB.out.os, HB.out.tape, HB.out.output, HB.out.size, HB.out.block⟩
end Go.Proofs.YtghpkbgfpagpgaaGreatDoor
