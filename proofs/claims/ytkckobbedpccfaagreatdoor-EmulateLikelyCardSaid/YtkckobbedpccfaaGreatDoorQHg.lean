/-
  An address through the bus: the contract of translate; the fetch.
  The fetch: the contract of fetch, by what it comes to.
-/
import Derived.Test.YtkckobbedpccfaaGreatDoorQHc
import Derived.Deep.RegionHeld2
namespace Go.Proofs.YtkckobbedpccfaaGreatDoor
open Go.RowKit
set_option linter.unusedVariables false
set_option maxRecDepth 100000

/-- what the bus tells of an address: the memory's, or a trap -/
structure Tr where
  pa : Int
  c : Int
  v : Int
  g : Int
/-- a bus's Translate does this -/
structure TransOK (p : Pl) (T : Hs → Int → Int → Int → Bool → Tr) : Prop where
  run : ∀ s root t a u w, HW w p s → root < 9223372036854775808 → C.U t → Calls Tryz.prog 170 #[.pointer (some ⟨p.B, 0, none⟩), .int .i64 root, .int .u64 t, .int .i64 a, .bool u] w fun e w' => e = .returned (.tuple #[.int .u64 (T s root t a u).pa, trV (T s root t a u).c (T s root t a u).v (T s root t a u).g]) ∧ Below w.heap.size w w'
  pa : ∀ s root t a u, C.U t → C.U (T s root t a u).pa
  v : ∀ s root t a u, C.U t → C.U (T s root t a u).v
  c : ∀ s root t a u, 0 ≤ (T s root t a u).c
theorem rootP_lt (R : Nat → Int) : rootP R < 9223372036854775808 := by
  unfold rootP
  split
  · unfold wrap64
    omega
  · decide
def Hs.tr (T : Hs → Int → Int → Int → Bool → Tr) (s : Hs) (t a : Int) : Tr := T s (rootP s.R) t a (s.md == 0)
theorem mTr (b : Nat) (w : World) : (method 387 39 (.pointer (some ⟨b, 0, none⟩)) "Translate").run Tryz.prog w = .ok (170, .pointer (some ⟨b, 0, none⟩)) w := by kernel_rfl
theorem mLoad (b : Nat) (w : World) : (method 387 39 (.pointer (some ⟨b, 0, none⟩)) "Load").run Tryz.prog w = .ok (168, .pointer (some ⟨b, 0, none⟩)) w := by kernel_rfl
def zeroTrap : Obj := .cells #[.int .i64 0, .int .u64 0, .int .u64 0] 55

set_option maxHeartbeats 8000000 in
theorem translate_hw (p : Pl) (T : Hs → Int → Int → Int → Bool → Tr) (hT : TransOK p T) (s : Hs) (t a : Int) (ht : C.U t) (w : World) (h : HW w p s) : Calls Tryz.prog 73 #[.pointer (some ⟨p.S, 0, none⟩), .int .u64 t, .int .i64 a] w fun e w' => e = .returned (.tuple #[.int .u64 (s.tr T t a).pa, trV (s.tr T t a).c (s.tr T t a).v (s.tr T t a).g]) ∧ Below w.heap.size w w' := by
  have hb0 : Below w.heap.size w (w.alloc zeroTrap) := (Below.refl _ _).alloc (Nat.le_refl _) _
  have n0 := C.heap_alloc_at w zeroTrap
  have h1 := h.below hb0
  have nS := (h.off (Nat.le_refl w.heap.size)).S
  have nS' := Ne.symm nS
  have CT := fun w' (h' : HW w' p s) => hT.run s (rootP s.R) t a (s.md == 0) w' h' (rootP_lt s.R) ht
  have mm := mTr p.B
  unfold Hs.tr trV zeroTrap at *
  generalize T s (rootP s.R) t a (s.md == 0) = z at *
  go_enter Tryz.func73, Tryz.ntmps73
  go_wp2_with fail
  generalize hy : w.alloc (.cells #[.int .i64 0, .int .u64 0, .int .u64 0] 55) = y at *
  have c18 := h1.cF
  have c19 := h1.cB
  have fl := h1.lt.1
  have H1 : Hid (HW y p s) := h1
  have N0 : Hid (y.heap[w.heap.size]? = some (.cells #[.int .i64 0, .int .u64 0, .int .u64 0] 55 (0, 0))) := n0
  have B0 : Hid (Below w.heap.size w y) := hb0
  have CR := root_ff p.F s.R y.drew H1.out.drew.ff
  have CU := fromUser_hw p s y.drew H1.out.drew
  have CT' := CT y.drew H1.out.drew
  clear h h1 n0 hb0 CT hy
  generalize hN : w.heap.size = N at *
  generalize rootP s.R = rt at *
  generalize (s.md == 0) = us at *
  go_region_held2 (fun w'' => w''.cell? ⟨p.S, 18, none⟩ = some (.pointer (some ⟨p.F, 0, none⟩)) ∧ w''.cell? ⟨p.S, 19, none⟩ = some (.iface 39 (.pointer (some ⟨p.B, 0, none⟩)))) (go_keep)
      (((first | (refine CR.mono ?_; rintro e x1 ⟨rfl, hx⟩; subst hx) | (refine CU.mono ?_; rintro e x1 ⟨rfl, hx⟩; subst hx) | (refine CT'.mono ?_; rintro e x1 ⟨rfl, bx⟩; have BX : Hid (Below N w x1 ∧ x1.heap[N]? = some (.cells #[.int .i64 0, .int .u64 0, .int .u64 0] 55 (0, 0))) := ⟨(B0.out.drew).trans (bx.mono (Nat.le_of_lt (lt_of_heap N0.out))), keepB (w := y.drew) N0.out bx⟩; have k18 := (H1.out.drew.below bx).cF; have k19 := (H1.out.drew.below bx).cB; obtain ⟨a0, a1, a2⟩ := cells6' BX.out.2; have z0 := a0 0; have z1 := a0 1; have z2 := a0 2; simp at z0 z1 z2; have f0 := a1 0; have f1 := a1 1; have f2 := a1 2; clear bx a0 a1))))
  all_goals
    go_wp2_with fail
    refine bodyPost_ret (v := _) ?h1 rfl ⟨rfl, by rw [hN]; exact ((BX.out.1.setCell (show N ≤ (⟨N, 0, none⟩ : Addr).block from Nat.le_refl _) _).setCell (show N ≤ (⟨N, 1, none⟩ : Addr).block from Nat.le_refl _) _).setCell (show N ≤ (⟨N, 2, none⟩ : Addr).block from Nat.le_refl _) _⟩
    case h1 => simp [results, Tryz.results73, go_sem, z0, z1, z2]
end Go.Proofs.YtkckobbedpccfaaGreatDoor
namespace Go.Proofs.YtkckobbedpccfaaGreatDoor
open Go.RowKit
set_option linter.unusedVariables false
set_option maxRecDepth 100000

theorem eq_ints3 (D : Nat) (xs ys : Array Value) (f0 f1 f2 : Field) (t0 : f0.type = 3) (o0 : f0.offset = 0) (n0 : f0.name ≠ "_") (t1 : f1.type = 22) (o1 : f1.offset = 1) (n1 : f1.name ≠ "_") (t2 : f2.type = 22) (o2 : f2.offset = 2) (n2 : f2.name ≠ "_") (P : Program) (w : World) (x0 x1 x2 y0 y1 y2 : Value) (b0 b1 b2 : Bool)
    (p0 : (part 3 xs 0).run P w = .ok x0 w) (p1 : (part 22 xs 1).run P w = .ok x1 w) (p2 : (part 22 xs 2).run P w = .ok x2 w) (r0 : (part 3 ys 0).run P w = .ok y0 w) (r1 : (part 22 ys 1).run P w = .ok y1 w) (r2 : (part 22 ys 2).run P w = .ok y2 w)
    (q0 : (Op.equalIn D 3 x0 y0).run P w = .ok b0 w) (q1 : (Op.equalIn D 22 x1 y1).run P w = .ok b1 w) (q2 : (Op.equalIn D 22 x2 y2).run P w = .ok b2 w) : (Op.eqFields D xs ys [f0, f1, f2]).run P w = .ok (b0 && b1 && b2) w := by
  cases b0 <;> cases b1 <;> cases b2 <;> simp [Op.eqFields, Sem.run_bind, n0, n1, n2, t0, t1, t2, o0, o1, o2, p0, p1, p2, r0, r1, r2, q0, q1, q2]
theorem trap_fields : ∃ f0 f1 f2 : Field, (Tryz.prog.fieldsOf 55).toList = [f0, f1, f2] ∧ f0.type = 3 ∧ f0.offset = 0 ∧ f0.name = "Cause" ∧ f1.type = 22 ∧ f1.offset = 1 ∧ f1.name = "Value" ∧ f2.type = 22 ∧ f2.offset = 2 ∧ f2.name = "Guest" := by
  unfold Program.fieldsOf
  rw [Tryz.underlying55]
  exact ⟨_, _, _, rfl, rfl, rfl, rfl, rfl, rfl, rfl, rfl, rfl, rfl⟩
theorem trap_struct : Tryz.prog.underlying 55 = some (.struct (Tryz.prog.fieldsOf 55)) := by unfold Program.fieldsOf; rw [Tryz.underlying55]
theorem eq_trap_at (d : Nat) (a b c a' b' c' : Int) (w : World) : (Op.equalIn (d + 1 + 1) 55 (.agg #[.int .i64 a, .int .u64 b, .int .u64 c]) (.agg #[.int .i64 a', .int .u64 b', .int .u64 c'])).run Tryz.prog w = .ok ((a == a') && (b == b') && (c == c')) w := by
  have e3 : ∀ (xs : Array Value) (v : Value), xs[0]? = some v → (part 3 xs 0).run Tryz.prog w = .ok v w := fun xs v h => by simp [part, Tryz.isAgg3, h]
  have e22 : ∀ (xs : Array Value) (j : Nat) (v : Value), xs[j]? = some v → (part 22 xs j).run Tryz.prog w = .ok v w := fun xs j v h => by simp [part, Tryz.isAgg22, h]
  obtain ⟨f0, f1, f2, hl3, t0, o0, n0, t1, o1, n1, t2, o2, n2⟩ := trap_fields
  have h := eq_ints3 (d + 1) #[.int .i64 a, .int .u64 b, .int .u64 c] #[.int .i64 a', .int .u64 b', .int .u64 c'] f0 f1 f2 t0 o0 (by rw [n0]; decide) t1 o1 (by rw [n1]; decide) t2 o2 (by rw [n2]; decide) Tryz.prog w _ _ _ _ _ _ _ _ _ (e3 _ _ rfl) (e22 _ _ _ rfl) (e22 _ _ _ rfl) (e3 _ _ rfl) (e22 _ _ _ rfl) (e22 _ _ _ rfl)
    (run_equalIn_int (P := Tryz.prog) w d 3 .i64 .i64 a a' Tryz.underlying3) (run_equalIn_int (P := Tryz.prog) w d 22 .u64 .u64 b b' Tryz.underlying22) (run_equalIn_int (P := Tryz.prog) w d 22 .u64 .u64 c c' Tryz.underlying22)
  rw [run_equalIn_struct w (d + 1) 55 _ _ trap_struct Tryz.stoodInHeld55, hl3]
  exact h
theorem eq_trap (a b c a' b' c' : Int) (w : World) : (Op.equalIn 10000 55 (.agg #[.int .i64 a, .int .u64 b, .int .u64 c]) (.agg #[.int .i64 a', .int .u64 b', .int .u64 c'])).run Tryz.prog w = .ok ((a == a') && (b == b') && (c == c')) w := by
  have h := eq_trap_at 9998 a b c a' b' c' w
  have e : (9998 + 1 + 1 : Nat) = 10000 := rfl
  rwa [e] at h
theorem below_set3 {B : Nat} {W w : World} (h : Below B W w) {b : Nat} (hb : B ≤ b) (v0 v1 v2 : Value) :
    Below B W (((w.setCell ⟨b, 0, none⟩ v0).setCell ⟨b, 1, none⟩ v1).setCell ⟨b, 2, none⟩ v2) := ((h.setCell hb _).setCell hb _).setCell hb _
theorem grown_set3 (w : World) (b : Nat) (v0 v1 v2 : Value) : w.grownBy (((w.setCell ⟨b, 0, none⟩ v0).setCell ⟨b, 1, none⟩ v1).setCell ⟨b, 2, none⟩ v2) (some b) := by
  have e : ∀ (x : World) (o : Nat) (v : Value), x.grownBy (x.setCell ⟨b, o, none⟩ v) (some b) := fun x o v => by
    have h : Below b x (x.setCell ⟨b, o, none⟩ v) := (Below.refl b x).setCell (Nat.le_refl b) v
    exact ⟨h.os, h.tape, h.output, h.size, fun k hk hne => Below.heap_setCell x ⟨b, o, none⟩ v k (fun e => hne (by rw [e]))⟩
  exact C.grown_trans (C.grown_trans (e _ _ _) (e _ _ _)) (e _ _ _)
/-- no trap -/
def Tr.none (z : Tr) : Bool := (z.c == 0) && (z.v == 0) && (z.g == 0)

set_option maxHeartbeats 1600000 in
theorem fetch_align (p : Pl) (s : Hs) (hp : ¬ s.pc % 4 = 0) (w : World) (h : HW w p s) : Calls Tryz.prog 49 #[.pointer (some ⟨p.S, 0, none⟩)] w fun e w' => e = .returned (trV 0 s.pc 0) ∧ Below w.heap.size w w' := by
  have c0 := h.cPc
  have l := h.lt.1
  have tm : (s.pc.tmod 4 != 0) = true := by rw [Int.tmod_eq_emod_of_nonneg h.ok.pc.1]; exact bne_iff_ne.2 hp
  clear h
  unfold trV
  go_enter Tryz.func49, Tryz.ntmps49
  go_wp2_with fail
  refine bodyPost_ret (v := _) ?h1 rfl ⟨rfl, (Below.refl _ _).alloc (Nat.le_refl _) _⟩
  case h1 => simp [results, Tryz.results49, go_sem]
set_option maxHeartbeats 3200000 in
theorem fetch_trap (p : Pl) (T : Hs → Int → Int → Int → Bool → Tr) (hT : TransOK p T) (s : Hs) (hp : s.pc % 4 = 0) (hz : (s.tr T s.pc 0).none = false) (w : World) (h : HW w p s) : Calls Tryz.prog 49 #[.pointer (some ⟨p.S, 0, none⟩)] w fun e w' => e = .returned (trV (s.tr T s.pc 0).c (s.tr T s.pc 0).v (s.tr T s.pc 0).g) ∧ Below w.heap.size w w' := by
  have hb0 : Below w.heap.size w (w.alloc zeroTrap) := (Below.refl _ _).alloc (Nat.le_refl _) _
  have c0 := (h.below hb0).cPc
  have l := (h.below hb0).lt.1
  have n0 := C.heap_alloc_at w zeroTrap
  have CT := translate_hw p T hT s s.pc 0 h.ok.pc _ (h.below hb0)
  generalize s.tr T s.pc 0 = z at *
  unfold Tr.none at hz
  have tm : (s.pc.tmod 4 != 0) = false := by rw [Int.tmod_eq_emod_of_nonneg h.ok.pc.1, hp]; rfl
  clear h
  have EQ := eq_trap z.c z.v z.g 0 0 0
  rw [hz] at EQ
  unfold trV zeroTrap at *
  go_enter Tryz.func49, Tryz.ntmps49
  go_wp2_with fail
  refine CT.mono ?_
  rintro e w1 ⟨rfl, b1⟩
  have B1 : Hid (Below w.heap.size w w1) := hb0.trans (b1.mono (by simp))
  obtain ⟨a0, a1, a2⟩ := cells6' (keepB n0 b1)
  have z0 := a0 0
  have z1 := a0 1
  have z2 := a0 2
  simp at z0 z1 z2
  have f0 := a1 0
  have f1 := a1 1
  have f2 := a1 2
  clear CT b1 hb0 n0 a0 a1 c0 l
  go_wp2_with (first
    | refine wpList_neq_agg rfl 55 _ _ rfl _ _ rfl rfl Tryz.eqGuardType55 false (EQ _) ?_
    | fail)
  refine bodyPost_ret (v := _) ?h1 rfl ⟨rfl, (below_set3 B1.out (Nat.le_refl _) _ _ _).alloc (by have := B1.out.size; simpa using this) _⟩
  case h1 => simp [results, Tryz.results49, go_sem, z0, z1, z2, a2]
/-- the word that stands at Pc -/
def Hs.word (T : Hs → Int → Int → Int → Bool → Tr) (s : Hs) : Int := IntKind.u32.wrap (loadV s.zs (s.tr T s.pc 0).pa 4)
set_option maxHeartbeats 3200000 in
theorem fetch_fault (p : Pl) (T : Hs → Int → Int → Int → Bool → Tr) (hT : TransOK p T) (s : Hs) (hp : s.pc % 4 = 0) (hz : (s.tr T s.pc 0).none = true) (hn : ¬ numE s.zs.length (s.tr T s.pc 0).pa 4 = 0) (w : World) (h : HW w p s) : Calls Tryz.prog 49 #[.pointer (some ⟨p.S, 0, none⟩)] w fun e w' => e = .returned (trV 12 s.pc 0) ∧ Below w.heap.size w w' := by
  have hb0 : Below w.heap.size w (w.alloc zeroTrap) := (Below.refl _ _).alloc (Nat.le_refl _) _
  have c0 := (h.below hb0).cPc
  have l := (h.below hb0).lt.1
  have n0 := C.heap_alloc_at w zeroTrap
  have CT := translate_hw p T hT s s.pc 0 h.ok.pc _ (h.below hb0)
  have hpa : C.U (s.tr T s.pc 0).pa := hT.pa s _ _ _ _ h.ok.pc
  have CL := fun w' (h' : HW w' p s) => flatLoad_hw p s (s.tr T s.pc 0).pa 4 hpa (by decide) w' h'
  generalize s.tr T s.pc 0 = z at *
  unfold Tr.none at hz
  have tm : (s.pc.tmod 4 != 0) = false := by rw [Int.tmod_eq_emod_of_nonneg h.ok.pc.1, hp]; rfl
  have H0 : Hid (HW (w.alloc zeroTrap) p s) := h.below hb0
  have ml := mLoad p.B
  have hq : (numE s.zs.length z.pa 4 != 0) = true := bne_iff_ne.2 hn
  generalize numE s.zs.length z.pa 4 = ne at *
  generalize loadV s.zs z.pa 4 = lv at *
  clear h hn
  have EQ := eq_trap z.c z.v z.g 0 0 0
  rw [hz] at EQ
  unfold trV zeroTrap at *
  go_enter Tryz.func49, Tryz.ntmps49
  go_wp2_with fail
  refine CT.mono ?_
  rintro e w1 ⟨rfl, b1⟩
  have B1 : Hid (Below w.heap.size w w1) := hb0.trans (b1.mono (by simp))
  have H1 : Hid (HW w1 p s) := H0.out.below b1
  have N1 : Hid (w1.heap[w.heap.size]? = some (.cells #[.int .i64 0, .int .u64 0, .int .u64 0] 55 (0, 0))) := keepB n0 b1
  have c19 := H1.out.cB
  have l1 := H1.out.lt.1
  have b2 : Below w1.heap.size w1 (w1.alloc (.cells #[.int .i64 z.c, .int .u64 z.v, .int .u64 z.g] 55)) := (Below.refl _ _).alloc (Nat.le_refl _) _
  have CL' := CL _ (H1.out.below b2)
  clear CT CL b1 hb0 n0 c0 l H0
  go_wp2_with (first
    | refine wpList_neq_agg rfl 55 _ _ rfl _ _ rfl rfl Tryz.eqGuardType55 true (EQ _) ?_
    | fail)
  refine CL'.mono ?_
  rintro e w2 ⟨rfl, b3⟩
  have B2 : Hid (Below w.heap.size w w2) := (B1.out.trans (b2.mono B1.out.size)).trans (b3.mono (by have := B1.out.size; simp; omega))
  obtain ⟨a0, a1, a2⟩ := cells6' (keepB (keepB N1.out b2) b3)
  have z0 := a0 0
  have z1 := a0 1
  have z2 := a0 2
  simp at z0 z1 z2
  have f0 := a1 0
  have f1 := a1 1
  have f2 := a1 2
  clear CL' b2 b3 N1 a0 a1 B1 H1
  go_wp2_with fail
  refine bodyPost_ret (v := _) ?h1 rfl ⟨rfl, below_set3 B2.out (Nat.le_refl _) _ _ _⟩
  case h1 => simp [results, Tryz.results49, go_sem, z0, z1, z2]
set_option maxHeartbeats 3200000 in
theorem fetch_ok (p : Pl) (T : Hs → Int → Int → Int → Bool → Tr) (hT : TransOK p T) (s : Hs) (hp : s.pc % 4 = 0) (hz : (s.tr T s.pc 0).none = true) (hn : numE s.zs.length (s.tr T s.pc 0).pa 4 = 0) (w : World) (h : HW w p s) : Calls Tryz.prog 49 #[.pointer (some ⟨p.S, 0, none⟩)] w fun e w' => e = .returned (trV 0 0 0) ∧ HW w' p { s with wd := s.word T } ∧ Tn p w w' := by
  have hb0 : Below w.heap.size w (w.alloc zeroTrap) := (Below.refl _ _).alloc (Nat.le_refl _) _
  have c0 := (h.below hb0).cPc
  have l := (h.below hb0).lt.1
  have n0 := C.heap_alloc_at w zeroTrap
  have CT := translate_hw p T hT s s.pc 0 h.ok.pc _ (h.below hb0)
  have hpa : C.U (s.tr T s.pc 0).pa := hT.pa s _ _ _ _ h.ok.pc
  have CL := fun w' (h' : HW w' p s) => flatLoad_hw p s (s.tr T s.pc 0).pa 4 hpa (by decide) w' h'
  unfold Hs.word
  generalize s.tr T s.pc 0 = z at *
  unfold Tr.none at hz
  have tm : (s.pc.tmod 4 != 0) = false := by rw [Int.tmod_eq_emod_of_nonneg h.ok.pc.1, hp]; rfl
  have H0 : Hid (HW (w.alloc zeroTrap) p s) := h.below hb0
  have ml := mLoad p.B
  rw [hn] at CL
  have hO := h.off (Nat.le_refl w.heap.size)
  obtain ⟨wd, hwd⟩ : ∃ wd, IntKind.u32.wrap (loadV s.zs z.pa 4) = wd := ⟨_, rfl⟩
  have hwr : 0 ≤ wd ∧ wd ≤ 4294967295 := by rw [← hwd, IntKind.wrap_u32]; omega
  rw [hwd]
  generalize loadV s.zs z.pa 4 = lv at *
  clear h hn
  have EQ := eq_trap z.c z.v z.g 0 0 0
  rw [hz] at EQ
  unfold trV zeroTrap at *
  go_enter Tryz.func49, Tryz.ntmps49
  go_wp2_with fail
  refine CT.mono ?_
  rintro e w1 ⟨rfl, b1⟩
  have B1 : Hid (Below w.heap.size w w1) := hb0.trans (b1.mono (by simp))
  have H1 : Hid (HW w1 p s) := H0.out.below b1
  have N1 : Hid (w1.heap[w.heap.size]? = some (.cells #[.int .i64 0, .int .u64 0, .int .u64 0] 55 (0, 0))) := keepB n0 b1
  have c19 := H1.out.cB
  have l1 := H1.out.lt.1
  have b2 : Below w1.heap.size w1 (w1.alloc (.cells #[.int .i64 z.c, .int .u64 z.v, .int .u64 z.g] 55)) := (Below.refl _ _).alloc (Nat.le_refl _) _
  have CL' := CL _ (H1.out.below b2)
  clear CT CL b1 hb0 n0 c0 l H0
  go_wp2_with (first
    | refine wpList_neq_agg rfl 55 _ _ rfl _ _ rfl rfl Tryz.eqGuardType55 true (EQ _) ?_
    | fail)
  refine CL'.mono ?_
  rintro e w2 ⟨rfl, b3⟩
  have B2 : Hid (Below w.heap.size w w2) := (B1.out.trans (b2.mono B1.out.size)).trans (b3.mono (by have := B1.out.size; simp; omega))
  have H2 : Hid (HW w2 p s) := (H1.out.below b2).below b3
  have n2 := keepB (keepB N1.out b2) b3
  obtain ⟨a0, a1, a2⟩ := cells6' n2
  have z0 := a0 0
  have z1 := a0 1
  have z2 := a0 2
  simp at z0 z1 z2
  have f0 := a1 0
  have f1 := a1 1
  have f2 := a1 2
  have c20 := H2.out.cWd
  have f20 := H2.out.f 20
  have l2 := H2.out.lt.1
  obtain ⟨h3, g3⟩ := H2.out.setWd wd hwr
  have H3 : Hid (HW (w2.setCell ⟨p.S, 20, none⟩ (.int .u32 wd)) p { s with wd := wd }) := h3
  have T3 : Hid (Tn p w (w2.setCell ⟨p.S, 20, none⟩ (.int .u32 wd))) := (Tn.below B2.out).trans (Tn.S g3)
  have nS := hO.S
  have nS' := Ne.symm nS
  clear CL' b2 b3 N1 a0 a1 B1 H1 h3 g3 n2
  go_wp2_with fail
  refine bodyPost_ret (v := _) ?h1 rfl ⟨rfl, H3.out.toN hO (grown_set3 _ _ _ _ _), T3.out.toN (Nat.le_refl _) (grown_set3 _ _ _ _ _)⟩
  case h1 => simp [results, Tryz.results49, go_sem, z0, z1, z2]
end Go.Proofs.YtkckobbedpccfaaGreatDoor
