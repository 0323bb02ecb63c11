/-
  What the small functions of a step do: their contracts.
  What the law's bus does, and the first stage's root: their contracts.
-/
import Derived.Test.YtkckobbedpccfaaGreatDoorQHa
import Derived.Test.YtkckobbedpccfaaGreatDoorQN
import Derived.Test.YtkckobbedpccfaaGreatDoorQCE
import Derived.Test.YtkckobbedpccfaaGreatDoorQCTr
import Derived.Deep.DeepCutAuto
import Derived.Deep.RegionWith
namespace Go.Proofs.YtkckobbedpccfaaGreatDoor
open Go.RowKit
set_option linter.unusedVariables false
set_option maxRecDepth 100000

/-- a hart that has done an instruction, and goes on at an address -/
def Hs.went (s : Hs) (v : Int) : Hs := { s with pc := v }
def Hs.next (s : Hs) : Int := IntKind.u64.wrap (s.pc + 4)
def Hs.reg (s : Hs) (n : Nat) : Int := s.X n
def Hs.puts (s : Hs) (v : Int) : Hs := { s with X := if s.rd = 0 then s.X else C.upd s.X s.rd v }
def Hs.jump (s : Hs) : Int := IntKind.u64.wrap (s.pc + IntKind.u64.wrap (4 * IntKind.u64.wrap s.im))
def okV : Value := resV 0 0 0 0 false false
theorem wrapU (x : Int) : C.U (IntKind.u64.wrap x) := by unfold C.U; rw [IntKind.wrap_u64]; omega
theorem Hs.Ok.reg {s : Hs} (h : s.Ok) (n : Nat) (hn : n < 16) : C.U (s.reg n) := h.X n hn

theorem fromUser_hw (p : Pl) (s : Hs) (w : World) (h : HW w p s) : Calls Tryz.prog 51 #[.pointer (some ⟨p.S, 0, none⟩)] w fun e w' => e = .returned (.bool (s.md == 0)) ∧ w' = w := by
  have c := h.cMd
  have l := h.lt.1
  clear h
  go_enter Tryz.func51, Tryz.ntmps51
  go_wp2
  go_ret
  exact ⟨rfl, rfl⟩
theorem following_hw (p : Pl) (s : Hs) (w : World) (h : HW w p s) : Calls Tryz.prog 131 #[.pointer (some ⟨p.S, 0, none⟩)] w fun e w' => e = .returned (.int .u64 s.next) ∧ w' = w := by
  have c := h.cPc
  have l := h.lt.1
  clear h
  unfold Hs.next
  go_enter Tryz.func131, Tryz.ntmps131
  go_wp2
  go_ret
  exact ⟨rfl, rfl⟩
theorem register_hw (p : Pl) (s : Hs) (n : Nat) (hn : n < 16) (w : World) (h : HW w p s) : Calls Tryz.prog 100 #[.pointer (some ⟨p.S, 0, none⟩), .int .i64 n] w fun e w' => e = .returned (.int .u64 (s.reg n)) ∧ w' = w := by
  have l := h.lt.1
  unfold Hs.reg
  have c := h.cX n hn
  have i1 : (0 : Int) ≤ (n : Int) ∧ (n : Int) < 16 := by omega
  clear h
  go_enter Tryz.func100, Tryz.ntmps100
  go_wp2
  go_ret
  exact ⟨rfl, rfl⟩
theorem jump_hw (p : Pl) (s : Hs) (w : World) (h : HW w p s) : Calls Tryz.prog 99 #[.pointer (some ⟨p.S, 0, none⟩)] w fun e w' => e = .returned (.int .u64 s.jump) ∧ Below w.heap.size w w' := by
  have c := h.cPc
  have d := h.cIm
  have l := h.lt.1
  clear h
  unfold Hs.jump
  go_enter Tryz.func99, Tryz.ntmps99
  go_wp2_with fail
  go_quiet (fail)
  go_wp2_with fail
  go_ret
  exact ⟨rfl, C.below_drewN (Below.refl _ _) _⟩
def zeroRes : Obj := .cells #[.int .i64 0, .int .i64 0, .int .u64 0, .int .u64 0, .bool false, .bool false] 57
set_option maxHeartbeats 1600000 in
theorem goTo_hw (p : Pl) (s : Hs) (v : Int) (hv : C.U v) (w : World) (h : HW w p s) : Calls Tryz.prog 98 #[.pointer (some ⟨p.S, 0, none⟩), .int .u64 v] w fun e w' => e = .returned okV ∧ HW w' p (s.went v) ∧ Tn p w w' := by
  have c16 := h.cPc
  have f16 := h.f 16
  have l := h.lt.1
  obtain ⟨h3, g3⟩ := h.setPc v hv
  have hb0 : Below (w.setCell ⟨p.S, 16, none⟩ (.int .u64 v)).heap.size _ ((w.setCell ⟨p.S, 16, none⟩ (.int .u64 v)).alloc zeroRes) := (Below.refl _ _).alloc (Nat.le_refl _) _
  have HW3 : Hid (HW _ p (s.went v)) := h3.below hb0
  have HT : Hid (Tn p w _) := (Tn.S g3).trans (Tn.below hb0)
  clear h h3 g3 hb0
  unfold okV resV zeroRes at *
  go_enter Tryz.func98, Tryz.ntmps98
  go_wp2_with fail
  refine bodyPost_ret (v := _) ?h1 rfl ⟨rfl, HW3.out, HT.out⟩
  case h1 => simp [results, Tryz.results98, go_sem]

/-- a block of the call's own -/
structure Pl.Off (p : Pl) (N : Nat) : Prop where
  S : N ≠ p.S
  F : N ≠ p.F
  B : N ≠ p.B
  M : N ≠ p.M
  g : N ≠ p.g
  one : 1 < N
theorem HW.off {w : World} {p : Pl} {s : Hs} (h : HW w p s) {N : Nat} (hN : w.heap.size ≤ N) : p.Off N := by
  obtain ⟨a, b, c, d, e⟩ := h.lt
  have := h.ap.S1
  exact ⟨by omega, by omega, by omega, by omega, by omega, by omega⟩
theorem HW.toN {w w' : World} {p : Pl} {s : Hs} (h : HW w p s) {N : Nat} (hN : p.Off N) (hg : w.grownBy w' (some N)) : HW w' p s := by
  have kk : ∀ k, k < w.heap.size → k ≠ N → w'.heap[k]? = w.heap[k]? := fun k hk hn => hg.block k hk (fun e => hn (by cases e; rfl))
  refine ⟨h.sb.keep (kk _ h.sb.lt (Ne.symm hN.S)), h.ff.keep (kk _ h.ff.lt (Ne.symm hN.F)), (kk _ (lt_of_heap h.fl) (Ne.symm hN.B)).trans h.fl, h.mm.kept hg (by simp; exact Ne.symm hN.M) (by simp; exact Ne.symm hN.g), h.sz.block hg.size (kk 0 h.sz.pos (by have := hN.one; omega)), h.ap, h.ok, (kk 1 (Nat.lt_trans h.ap.S1 h.sb.lt) (by have := hN.one; omega)).trans h.b1⟩
theorem Tn.toN {w w1 w2 : World} {p : Pl} (h : Tn p w w1) {N : Nat} (hN : w.heap.size ≤ N) (hg : w1.grownBy w2 (some N)) : Tn p w w2 :=
  ⟨hg.os.trans h.os, hg.tape.trans h.tape, hg.output.trans h.output, Nat.le_trans h.size hg.size, fun k hk a b c d => (hg.block k (Nat.lt_of_lt_of_le hk h.size) (fun e => by cases e; omega)).trans (h.block k hk a b c d)⟩
theorem grown_set6 (w : World) (b : Nat) (v0 v1 v2 v3 v4 v5 : Value) : w.grownBy ((((((w.setCell ⟨b, 0, none⟩ v0).setCell ⟨b, 1, none⟩ v1).setCell ⟨b, 2, none⟩ v2).setCell ⟨b, 3, none⟩ v3).setCell ⟨b, 4, none⟩ v4).setCell ⟨b, 5, none⟩ v5) (some b) := by
  have e : ∀ (x : World) (o : Nat) (v : Value), x.grownBy (x.setCell ⟨b, o, none⟩ v) (some b) := fun x o v => by
    have h : Below b x (x.setCell ⟨b, o, none⟩ v) := (Below.refl b x).setCell (Nat.le_refl b) v
    exact ⟨h.os, h.tape, h.output, h.size, fun k hk hne => Below.heap_setCell x ⟨b, o, none⟩ v k (fun e => hne (by rw [e]))⟩
  exact C.grown_trans (C.grown_trans (C.grown_trans (C.grown_trans (C.grown_trans (e _ _ _) (e _ _ _)) (e _ _ _)) (e _ _ _)) (e _ _ _)) (e _ _ _)
theorem Tn.cells {p : Pl} {w w' : World} (h : Tn p w w') {N : Nat} (hN : p.Off N) (hl : N < w.heap.size) : (∀ o, w'.cell? ⟨N, o, none⟩ = w.cell? ⟨N, o, none⟩) ∧ (∀ o, w'.frozen? ⟨N, o, none⟩ = w.frozen? ⟨N, o, none⟩) := by
  have := h.block N hl hN.S hN.F hN.B hN.g
  exact ⟨fun o => World.cell?_of_block this, fun o => by simp [World.frozen?, this]⟩

set_option maxHeartbeats 1600000 in
theorem goOn_hw (p : Pl) (s : Hs) (w : World) (h : HW w p s) : Calls Tryz.prog 97 #[.pointer (some ⟨p.S, 0, none⟩)] w fun e w' => e = .returned okV ∧ HW w' p (s.went s.next) ∧ Tn p w w' := by
  have hb0 : Below w.heap.size w (w.alloc zeroRes) := (Below.refl _ _).alloc (Nat.le_refl _) _
  have h1 := h.below hb0
  have CF := following_hw p s _ h1
  have CG := goTo_hw p s s.next (wrapU _) _ h1
  have hO := h.off (Nat.le_refl w.heap.size)
  have HT : Hid (Tn p w (w.alloc zeroRes)) := Tn.below hb0
  clear h h1 hb0
  unfold okV resV zeroRes at *
  go_enter Tryz.func97, Tryz.ntmps97
  go_wp2_with fail
  refine CF.mono ?_
  rintro e w' ⟨rfl, hw⟩
  subst hw
  go_wp2_with fail
  refine CG.mono ?_
  rintro e w1 ⟨rfl, h2, t2⟩
  obtain ⟨n0, o0⟩ := t2.cells hO (by simp)
  have hs : w.heap.size < w1.heap.size := by have := t2.size; simp at this; omega
  have H2 : Hid (HW w1 p (s.went s.next)) := h2
  have T2 : Hid (Tn p w w1) := HT.out.trans t2
  clear CF CG h2 t2 HT
  go_wp2_with fail
  refine bodyPost_ret (v := _) ?h1 rfl ⟨rfl, H2.out.toN hO (grown_set6 _ _ _ _ _ _ _ _), T2.out.toN (Nat.le_refl _) (grown_set6 _ _ _ _ _ _ _ _)⟩
  case h1 => simp [results, Tryz.results97, go_sem, n0]
set_option maxHeartbeats 1600000 in
theorem put_hw (p : Pl) (s : Hs) (v : Int) (hv : C.U v) (w : World) (h : HW w p s) : Calls Tryz.prog 115 #[.pointer (some ⟨p.S, 0, none⟩), .int .u64 v] w fun e w' => e = .returned (.tuple #[]) ∧ HW w' p (s.puts v) ∧ Tn p w w' := by
  have hr := h.ok.rd
  have c := h.cRd
  have l := h.lt.1
  by_cases h0 : s.rd = 0
  · have e : s.puts v = s := by unfold Hs.puts; rw [if_pos h0]
    rw [e]
    have H2 : Hid (HW w p s) := h
    rw [h0] at c
    clear h e
    go_enter Tryz.func115, Tryz.ntmps115
    go_wp2_with fail
    exact bodyPost_end (v := .tuple #[]) (by simp [results, Tryz.results115, go_sem]) rfl ⟨rfl, H2.out, Tn.refl p w⟩
  · have d := h.cX s.rd hr
    have f := h.f s.rd
    have i1 : (0 : Int) ≤ (s.rd : Int) ∧ (s.rd : Int) < 16 := by omega
    have i2 : ¬ (s.rd : Int) = 0 := by omega
    obtain ⟨h2, g2⟩ := h.setX s.rd hr h0 v hv
    have e : s.puts v = { s with X := C.upd s.X s.rd v } := by unfold Hs.puts; rw [if_neg h0]
    rw [e]
    have H2 : Hid (HW _ p { s with X := C.upd s.X s.rd v }) := h2
    have T2 : Hid (Tn p w _) := Tn.S g2
    clear h h2 g2 e
    go_enter Tryz.func115, Tryz.ntmps115
    go_wp2_with fail
    go_region
    all_goals go_wp2_with fail
    all_goals exact bodyPost_end (v := .tuple #[]) (by simp [results, Tryz.results115, go_sem]) rfl ⟨rfl, H2.out.drew, T2.out.drew⟩
set_option maxHeartbeats 1600000 in
theorem tell_hw (p : Pl) (s : Hs) (v : Int) (hv : C.U v) (w : World) (h : HW w p s) : Calls Tryz.prog 78 #[.pointer (some ⟨p.S, 0, none⟩), .int .u64 v] w fun e w' => e = .returned okV ∧ HW w' p ((s.puts v).went s.next) ∧ Tn p w w' := by
  have hb0 : Below w.heap.size w (w.alloc zeroRes) := (Below.refl _ _).alloc (Nat.le_refl _) _
  have CP := put_hw p s v hv _ (h.below hb0)
  have hO := h.off (Nat.le_refl w.heap.size)
  have HT : Hid (Tn p w (w.alloc zeroRes)) := Tn.below hb0
  clear h hb0
  unfold okV resV zeroRes at *
  go_enter Tryz.func78, Tryz.ntmps78
  go_wp2_with fail
  refine CP.mono ?_
  rintro e w1 ⟨rfl, h2, t2⟩
  have CG := goOn_hw p (s.puts v) w1 h2
  have T2 : Hid (Tn p w w1) := HT.out.trans t2
  obtain ⟨n0, o0⟩ := t2.cells hO (by simp)
  have hs : w.heap.size < w1.heap.size := by have := t2.size; simp at this; omega
  clear CP h2 t2 HT
  go_wp2_with fail
  refine CG.mono ?_
  rintro e w2 ⟨rfl, h3, t3⟩
  obtain ⟨n1, o1⟩ := t3.cells hO hs
  have hs2 : w.heap.size < w2.heap.size := by have := t3.size; omega
  have H3 : Hid (HW w2 p ((s.puts v).went s.next)) := h3
  have T3 : Hid (Tn p w w2) := T2.out.trans t3
  clear CG h3 t3 T2
  unfold okV resV
  go_wp2_with fail
  refine bodyPost_ret (v := _) ?h1 rfl ⟨rfl, H3.out.toN hO (grown_set6 _ _ _ _ _ _ _ _), T3.out.toN (Nat.le_refl _) (grown_set6 _ _ _ _ _ _ _ _)⟩
  case h1 => simp [results, Tryz.results78, go_sem, n0, n1]
end Go.Proofs.YtkckobbedpccfaaGreatDoor
namespace Go.Proofs.YtkckobbedpccfaaGreatDoor
open Go.RowKit
set_option linter.unusedVariables false
set_option maxRecDepth 100000

theorem cells6' {w : World} {N : Nat} {cs : Array Value} {t : TypeId} (h : w.heap[N]? = some (.cells cs t (0, 0))) : (∀ o, w.cell? ⟨N, o, none⟩ = cs[o]?) ∧ (∀ o, w.frozen? ⟨N, o, none⟩ = false) ∧ N < w.heap.size :=
  ⟨fun o => C.cell_at h o, fun o => by simp [World.frozen?, h], lt_of_heap h⟩
theorem Tn.keepN {p : Pl} {w w' : World} (h : Tn p w w') {N : Nat} (hN : p.Off N) {o : Obj} (hl : w.heap[N]? = some o) : w'.heap[N]? = some o := (h.block N (lt_of_heap hl) hN.S hN.F hN.B hN.g).trans hl
theorem HW.bus {w : World} {p : Pl} {s : Hs} (h : HW w p s) : w.cell? ⟨p.B, 0, none⟩ = some (.pointer (some ⟨p.M, 0, none⟩)) ∧ w.cell? ⟨p.B, 1, none⟩ = some (.int .i64 s.sec) ∧ w.cell? ⟨p.B, 2, none⟩ = some (.bool s.is) ∧ w.cell? ⟨p.B, 3, none⟩ = some (.int .u64 s.at_) ∧ ∀ o, w.frozen? ⟨p.B, o, none⟩ = false := by
  have := h.fl
  refine ⟨?_, ?_, ?_, ?_, fun o => by simp [World.frozen?, this]⟩ <;> rw [C.cell_at this] <;> rfl
theorem flatLoad_hw (p : Pl) (s : Hs) (t n : Int) (ht : C.U t) (hn : n < 9223372036854775808) (w : World) (h : HW w p s) : Calls Tryz.prog 168 #[.pointer (some ⟨p.B, 0, none⟩), .int .u64 t, .int .i64 n] w fun e w' => e = .returned (.tuple #[.int .u64 (loadV s.zs t n), .int .i64 (numE s.zs.length t n)]) ∧ Below w.heap.size w w' := by
  obtain ⟨c0, c1, c2, c3, f⟩ := h.bus
  have l := h.lt.2.2.1
  have CL := mload_mm p.M p.g s.zs t n w h.sz h.mm ht.1 ht.2 hn
  clear h
  go_enter Tryz.func168, Tryz.ntmps168
  go_wp2_with fail
  refine CL.mono ?_
  rintro e w1 ⟨rfl, hb⟩
  have HB : Hid (_) := hb
  clear hb
  go_wp2_with fail
  go_ret2
  exact ⟨rfl, HB.out⟩
theorem flatStore_hw (p : Pl) (s : Hs) (t n v : Int) (ht : C.U t) (hn : n < 9223372036854775808) (hv : C.U v) (w : World) (h : HW w p s) : Calls Tryz.prog 169 #[.pointer (some ⟨p.B, 0, none⟩), .int .u64 t, .int .i64 n, .int .u64 v] w fun e w' => e = .returned (.int .i64 (numE s.zs.length t n)) ∧ HW w' p { s with zs := storeV s.zs t n v } ∧ Tn p w w' := by
  obtain ⟨c0, c1, c2, c3, f⟩ := h.bus
  have l := h.lt.2.2.1
  have CL := mstore_mm p.M p.g s.zs t n v w h.sz h.mm ht.1 ht.2 hn hv.1 hv.2
  have H : Hid (_) := h
  clear h
  go_enter Tryz.func169, Tryz.ntmps169
  go_wp2_with fail
  refine CL.mono ?_
  rintro e w1 ⟨rfl, m, g⟩
  have H2 : Hid (HW w1 p { s with zs := storeV s.zs t n v } ∧ Tn p w w1) := ⟨H.out.toM m g, Tn.g g⟩
  clear m g CL
  go_wp2_with fail
  go_ret
  exact ⟨rfl, H2.out⟩
theorem set_bus {w : World} {b o : Nat} {cs : Array Value} {t : TypeId} {v : Value} (h : w.heap[b]? = some (.cells cs t (0, 0))) : (w.setCell ⟨b, o, none⟩ v).heap[b]? = some (.cells (cs.setIfInBounds o v) t (0, 0)) ∧ w.grownBy (w.setCell ⟨b, o, none⟩ v) (some b) := by
  rw [setCell_eq_setRow w b o cs t (0, 0) v h]
  exact ⟨setRow_heap w b cs _ t _ h, rfl, rfl, rfl, by simp [World.setRow], fun k hk hne => setRow_other w b k _ (fun e => hne (by rw [e]))⟩
theorem hold_hw (p : Pl) (s : Hs) (t : Int) (ht : C.U t) (w : World) (h : HW w p s) : Calls Tryz.prog 167 #[.pointer (some ⟨p.B, 0, none⟩), .int .u64 t] w fun e w' => e = .returned (.tuple #[]) ∧ HW w' p { s with is := true, at_ := t } ∧ Tn p w w' := by
  obtain ⟨c0, c1, c2, c3, f⟩ := h.bus
  have l := h.lt.2.2.1
  have f2 := f 2
  have f3 := f 3
  obtain ⟨h1, g1⟩ := set_bus (o := 2) (v := .bool true) h.fl
  obtain ⟨h2, g2⟩ := set_bus (o := 3) (v := .int .u64 t) h1
  have g3 := C.grown_trans g1 g2
  have H2 : Hid (HW ((w.setCell ⟨p.B, 2, none⟩ (.bool true)).setCell ⟨p.B, 3, none⟩ (.int .u64 t)) p { s with is := true, at_ := t } ∧ Tn p w ((w.setCell ⟨p.B, 2, none⟩ (.bool true)).setCell ⟨p.B, 3, none⟩ (.int .u64 t))) := ⟨h.toB h2 g3 ht, Tn.B g3⟩
  clear h h1 h2 g1 g2 g3 f
  go_enter Tryz.func167, Tryz.ntmps167
  go_wp2_with fail
  exact bodyPost_end (v := .tuple #[]) (by simp [results, Tryz.results167, go_sem]) rfl ⟨rfl, H2.out⟩
theorem held_hw (p : Pl) (s : Hs) (t : Int) (w : World) (h : HW w p s) : Calls Tryz.prog 166 #[.pointer (some ⟨p.B, 0, none⟩), .int .u64 t] w fun e w' => e = .returned (.bool (s.is && s.at_ == t)) ∧ HW w' p { s with is := false } ∧ Tn p w w' := by
  obtain ⟨c0, c1, c2, c3, f⟩ := h.bus
  have l := h.lt.2.2.1
  have f2 := f 2
  obtain ⟨h1, g1⟩ := set_bus (o := 2) (v := .bool false) h.fl
  have H2 : Hid (HW (w.setCell ⟨p.B, 2, none⟩ (.bool false)) p { s with is := false } ∧ Tn p w (w.setCell ⟨p.B, 2, none⟩ (.bool false))) := ⟨h.toB h1 g1 h.ok.at_, Tn.B g1⟩
  clear h h1 g1 f
  cases hi : s.is
  · rw [hi] at c2
    go_enter Tryz.func166, Tryz.ntmps166
    go_wp2_with fail
    go_ret
    exact ⟨rfl, H2.out⟩
  · rw [hi] at c2
    go_enter Tryz.func166, Tryz.ntmps166
    go_wp2_with fail
    go_ret
    exact ⟨rfl, H2.out⟩
/-- the first stage's root -/
def rootP (R : Nat → Int) : Int := if C.hasP (R 8) 9223372036854775808 then wrap64 (bits .and .u64 (R 8) 65535) else -1
theorem root_ff (F : Nat) (R : Nat → Int) (w : World) (h : C.FF w F R) : Calls Tryz.prog 90 #[.pointer (some ⟨F, 0, none⟩)] w fun e w' => e = .returned (.int .i64 (rootP R)) ∧ w' = w := by
  have C1 := C.made_ff F R w h
  have C2 := C.has_ff F R 8 (by decide) 9223372036854775808 w h
  have c := h.c 8 (by decide)
  have l := h.lt
  unfold rootP
  clear h
  cases hh : C.hasP (R 8) 9223372036854775808
  · rw [hh] at C2
    go_enter Tryz.func90, Tryz.ntmps90
    go_wp2_with fail
    refine C1.mono ?_
    rintro e w ⟨rfl, rfl⟩
    go_wp2_with fail
    refine C2.mono ?_
    rintro e w ⟨rfl, rfl⟩
    go_wp2_with fail
    go_ret
    exact ⟨rfl, rfl⟩
  · rw [hh] at C2
    go_enter Tryz.func90, Tryz.ntmps90
    go_wp2_with fail
    refine C1.mono ?_
    rintro e w ⟨rfl, rfl⟩
    go_wp2_with fail
    refine C2.mono ?_
    rintro e w ⟨rfl, rfl⟩
    go_wp2_with fail
    go_ret
    exact ⟨rfl, rfl⟩
/-- a trap -/
def trV (c v g : Int) : Value := .agg #[.int .i64 c, .int .u64 v, .int .u64 g]
/-- without a second stage an address stands as it is -/
theorem translate_none (p : Pl) (s : Hs) (root t a : Int) (u : Bool) (hs : s.sec < 0) (w : World) (h : HW w p s) : Calls Tryz.prog 170 #[.pointer (some ⟨p.B, 0, none⟩), .int .i64 root, .int .u64 t, .int .i64 a, .bool u] w fun e w' => e = .returned (.tuple #[.int .u64 t, trV 0 0 0]) ∧ Below w.heap.size w w' := by
  obtain ⟨c0, c1, c2, c3, f⟩ := h.bus
  have l := h.lt.2.2.1
  clear h
  unfold trV
  go_enter Tryz.func170, Tryz.ntmps170
  go_wp2_with fail
  refine bodyPost_ret (v := _) ?h1 rfl ⟨rfl, (Below.refl _ _).alloc (Nat.le_refl _) _⟩
  case h1 => simp [results, Tryz.results170, go_sem]
end Go.Proofs.YtkckobbedpccfaaGreatDoor
