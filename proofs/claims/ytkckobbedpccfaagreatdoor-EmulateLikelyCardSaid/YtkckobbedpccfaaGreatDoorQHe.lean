/-
  What is told where an instruction is none, is refused, or calls: illegal, refused, calls.
  What a step comes to, as a plain function of a hart's state: results, refusals, accesses, control registers.
-/
import Derived.Test.YtkckobbedpccfaaGreatDoorQHd
import Derived.Test.YtkckobbedpccfaaGreatDoorQOp
import Derived.Test.YtkckobbedpccfaaGreatDoorQRe
import Derived.Test.YtkckobbedpccfaaGreatDoorQPf
import Derived.Test.YtkckobbedpccfaaGreatDoorQCE
namespace Go.Proofs.YtkckobbedpccfaaGreatDoor
open Go.RowKit
set_option linter.unusedVariables false
set_option maxRecDepth 100000

set_option maxHeartbeats 1600000 in
theorem illegal_hw (p : Pl) (s : Hs) (w : World) (h : HW w p s) : Calls Tryz.prog 53 #[.pointer (some ⟨p.S, 0, none⟩)] w fun e w' => e = .returned (resV 1 2 s.wd 0 false false) ∧ HW w' p (s.trapped 2 s.wd) ∧ Tn p w w' := by
  have hb0 : Below w.heap.size w (w.alloc zeroRes) := (Below.refl _ _).alloc (Nat.le_refl _) _
  have h1 := h.below hb0
  have hO := h.off (Nat.le_refl w.heap.size)
  have hw := h.ok.wd
  have CE := enter_hw p s 2 s.wd 0 ⟨hw.1, by omega⟩ _ h1
  have c20 := h.cWd
  have l := h.lt.1
  have w1 : IntKind.u64.wrap s.wd = s.wd := wraps_u64 _ (by omega) (by omega)
  have T3 : Hid (Tn p w (w.alloc zeroRes)) := Tn.below hb0
  have N3 : Hid ((w.alloc zeroRes).heap[w.heap.size]? = some zeroRes) := C.heap_alloc_at w zeroRes
  clear h h1 hb0
  unfold trV resV at *
  go_enter Tryz.func53, Tryz.ntmps53
  go_wp2_with fail
  refine CE.mono ?_
  rintro e w3 ⟨rfl, h4, t4⟩
  have H4 : Hid (HW w3 p (s.trapped 2 s.wd)) := h4
  have T4 : Hid (Tn p w w3) := T3.out.trans t4
  obtain ⟨z0, z1, z2, z3, z4, z5, f0, f1, f2, f3, f4, f5, hl⟩ := res_cells (w := w3) (t4.keepN hO N3.out)
  clear CE h4 t4 T3 N3
  go_wp2_with fail
  refine bodyPost_ret (v := _) ?h1 rfl ⟨rfl, H4.out.toN hO (grown_set6 _ _ _ _ _ _ _ _), T4.out.toN (Nat.le_refl _) (grown_set6 _ _ _ _ _ _ _ _)⟩
  case h1 => simp [results, Tryz.results53, go_sem, z0, z1, z2, z3, z4, z5]
set_option maxHeartbeats 1600000 in
theorem calls_user (p : Pl) (s : Hs) (hm : s.md = 0) (w : World) (h : HW w p s) : Calls Tryz.prog 124 #[.pointer (some ⟨p.S, 0, none⟩)] w fun e w' => e = .returned (resV 1 8 0 0 false false) ∧ HW w' p (s.trapped 8 0) ∧ Tn p w w' := by
  have hb0 : Below w.heap.size w (w.alloc zeroRes) := (Below.refl _ _).alloc (Nat.le_refl _) _
  have h1 := h.below hb0
  have hO := h.off (Nat.le_refl w.heap.size)
  have CU := fromUser_hw p s _ h1
  have hu : (s.md == 0) = true := by rw [hm]; rfl
  rw [hu] at CU
  have CE := enter_hw p s 8 0 0 ⟨by omega, by omega⟩ _ h1
  have T3 : Hid (Tn p w (w.alloc zeroRes)) := Tn.below hb0
  have N3 : Hid ((w.alloc zeroRes).heap[w.heap.size]? = some zeroRes) := C.heap_alloc_at w zeroRes
  clear h h1 hb0
  unfold trV resV at *
  go_enter Tryz.func124, Tryz.ntmps124
  go_wp2_with fail
  refine CU.mono ?_
  rintro e w' ⟨rfl, hw⟩
  subst hw
  go_wp2_with fail
  refine CE.mono ?_
  rintro e w3 ⟨rfl, h4, t4⟩
  have H4 : Hid (HW w3 p (s.trapped 8 0)) := h4
  have T4 : Hid (Tn p w w3) := T3.out.trans t4
  obtain ⟨z0, z1, z2, z3, z4, z5, f0, f1, f2, f3, f4, f5, hl⟩ := res_cells (w := w3) (t4.keepN hO N3.out)
  clear CE CU h4 t4 T3 N3
  go_wp2_with fail
  refine bodyPost_ret (v := _) ?h1 rfl ⟨rfl, H4.out.toN hO (grown_set6 _ _ _ _ _ _ _ _), T4.out.toN (Nat.le_refl _) (grown_set6 _ _ _ _ _ _ _ _)⟩
  case h1 => simp [results, Tryz.results124, go_sem, z0, z1, z2, z3, z4, z5]
set_option maxHeartbeats 1600000 in
theorem calls_kern (p : Pl) (s : Hs) (hm : s.md = 1) (w : World) (h : HW w p s) : Calls Tryz.prog 124 #[.pointer (some ⟨p.S, 0, none⟩)] w fun e w' => e = .returned (resV 2 9 0 0 false false) ∧ HW w' p s ∧ Tn p w w' := by
  have hb0 : ∀ o, Below w.heap.size w (w.alloc o) := fun o => (Below.refl _ _).alloc (Nat.le_refl _) _
  have CU := fromUser_hw p s _ (h.below (hb0 zeroRes))
  have hu : (s.md == 0) = false := by rw [hm]; rfl
  rw [hu] at CU
  have H4 : Hid (∀ o, HW (w.alloc o) p s) := fun o => h.below (hb0 o)
  have T4 : Hid (∀ o, Tn p w (w.alloc o)) := fun o => Tn.below (hb0 o)
  clear h hb0
  unfold resV
  go_enter Tryz.func124, Tryz.ntmps124
  go_wp2_with fail
  refine CU.mono ?_
  rintro e w' ⟨rfl, hw⟩
  subst hw
  unfold zeroRes
  go_wp2_with fail
  refine bodyPost_ret (v := _) ?h1 rfl ⟨rfl, H4.out _, T4.out _⟩
  case h1 => simp [results, Tryz.results124, go_sem]
set_option maxHeartbeats 1600000 in
theorem refused_enter (p : Pl) (s : Hs) (c v g : Int) (hv : C.U v) (hc : c < 20) (w : World) (h : HW w p s) : Calls Tryz.prog 50 #[.pointer (some ⟨p.S, 0, none⟩), trV c v g] w fun e w' => e = .returned (resV 1 c v g false false) ∧ HW w' p (s.trapped c v) ∧ Tn p w w' := by
  have hb0 : Below w.heap.size w ((w.alloc (.cells #[.int .i64 c, .int .u64 v, .int .u64 g] 55)).alloc zeroRes) := ((Below.refl _ _).alloc (Nat.le_refl _) _).alloc (by simp) _
  have h1 := h.below hb0
  have hO := h.off (Nat.le_succ w.heap.size)
  have CE := enter_hw p s c v g hv _ h1
  have T3 : Hid (Tn p w ((w.alloc (.cells #[.int .i64 c, .int .u64 v, .int .u64 g] 55)).alloc zeroRes)) := Tn.below hb0
  have e1 : (w.alloc (.cells #[.int .i64 c, .int .u64 v, .int .u64 g] 55)).heap.size = w.heap.size + 1 := by simp
  have N3 : Hid (((w.alloc (.cells #[.int .i64 c, .int .u64 v, .int .u64 g] 55)).alloc zeroRes).heap[w.heap.size + 1]? = some zeroRes) := by
    have := C.heap_alloc_at (w.alloc (.cells #[.int .i64 c, .int .u64 v, .int .u64 g] 55)) zeroRes
    rwa [e1] at this
  clear h h1 hb0 e1
  unfold trV resV at *
  go_enter Tryz.func50, Tryz.ntmps50
  go_wp2_with fail
  refine CE.mono ?_
  rintro e w3 ⟨rfl, h4, t4⟩
  have H4 : Hid (HW w3 p (s.trapped c v)) := h4
  have T4 : Hid (Tn p w w3) := T3.out.trans t4
  obtain ⟨z0, z1, z2, z3, z4, z5, f0, f1, f2, f3, f4, f5, hl⟩ := res_cells (w := w3) (t4.keepN hO N3.out)
  clear CE h4 t4 T3 N3
  go_wp2_with fail
  refine bodyPost_ret (v := _) ?h1 rfl ⟨rfl, H4.out.toN hO (grown_set6 _ _ _ _ _ _ _ _), T4.out.toN (Nat.le_succ _) (grown_set6 _ _ _ _ _ _ _ _)⟩
  case h1 => simp [results, Tryz.results50, go_sem, z0, z1, z2, z3, z4, z5]
set_option maxHeartbeats 1600000 in
theorem refused_beyond (p : Pl) (s : Hs) (c v g : Int) (hc : 20 ≤ c) (w : World) (h : HW w p s) : Calls Tryz.prog 50 #[.pointer (some ⟨p.S, 0, none⟩), trV c v g] w fun e w' => e = .returned (resV 3 c v g false false) ∧ HW w' p s ∧ Tn p w w' := by
  have hb0 : ∀ o1 o2, Below w.heap.size w ((w.alloc o1).alloc o2) := fun o1 o2 => ((Below.refl _ _).alloc (Nat.le_refl _) _).alloc (by simp) _
  have H4 : Hid (∀ o1 o2, HW ((w.alloc o1).alloc o2) p s) := fun o1 o2 => h.below (hb0 o1 o2)
  have T4 : Hid (∀ o1 o2, Tn p w ((w.alloc o1).alloc o2)) := fun o1 o2 => Tn.below (hb0 o1 o2)
  clear h hb0
  unfold resV trV
  go_enter Tryz.func50, Tryz.ntmps50
  go_wp2_with fail
  refine bodyPost_ret (v := _) ?h1 rfl ⟨rfl, H4.out _ _, T4.out _ _⟩
  case h1 => simp [results, Tryz.results50, go_sem]
/-- an operation that is none from User -/
def kerP (op : Int) : Bool := op == 43 || op == 44 || op == 45 || op == 46 || op == 47 || op == 48
theorem isKernels_any (op : Int) (w : World) : Calls Tryz.prog 52 #[.int .i64 op] w fun e w' => e = .returned (.bool (kerP op)) ∧ w' = w := by
  unfold kerP
  go_enter Tryz.func52, Tryz.ntmps52
  go_wp2
  all_goals
    go_ret
    refine ⟨ret_bool ?_, rfl⟩
    simp_all
end Go.Proofs.YtkckobbedpccfaaGreatDoor
namespace Go.Proofs.YtkckobbedpccfaaGreatDoor
open Go.RowKit
set_option linter.unusedVariables false
set_option maxRecDepth 100000

/-- what a step tells -/
structure Rs where
  k : Int
  c : Int
  v : Int
  g : Int
  fe : Bool
  ti : Bool
def Rs.val (r : Rs) : Value := resV r.k r.c r.v r.g r.fe r.ti
def Rs.ok : Rs := ⟨0, 0, 0, 0, false, false⟩
abbrev TT := Hs → Int → Int → Int → Bool → Tr
/-- what a trap of an access comes to -/
def Hs.refP (s : Hs) (c v g : Int) : Rs × Hs := if 20 ≤ c then (⟨3, c, v, g, false, false⟩, s) else (⟨1, c, v, g, false, false⟩, s.trapped c v)
def Hs.illP (s : Hs) : Rs × Hs := (⟨1, 2, s.wd, 0, false, false⟩, s.trapped 2 s.wd)
def Hs.told (s : Hs) (v : Int) : Rs × Hs := (Rs.ok, (s.puts v).went s.next)
def Hs.ld (T : TT) (s : Hs) (k : Int) : Int := numE s.zs.length (s.rch T k).pa (widthP s.op)
/-- an access that loads: what it comes to -/
def Hs.tk (T : TT) (s : Hs) (k : Int) : Tr := if (s.rch T k).none then (if s.ld T k = 0 then s.rch T k else ⟨0, kindC k 13 15, s.asked, 0⟩) else s.rch T k
def Hs.got (T : TT) (s : Hs) (k : Int) : Int := loadV s.zs (s.rch T k).pa (widthP s.op)
/-- the memory behind a store -/
def Hs.stored (s : Hs) (pa v : Int) : Hs := { s with zs := storeV s.zs pa (widthP s.op) v }
def Hs.loadsP (T : TT) (s : Hs) : Rs × Hs := if (s.tk T 1).none then s.told (s.got T 1) else s.refP (s.tk T 1).c (s.tk T 1).v (s.tk T 1).g
def Hs.storesP (T : TT) (s : Hs) : Rs × Hs :=
  if (s.rch T 2).none then (if s.ld T 2 = 0 then (Rs.ok, (s.stored (s.rch T 2).pa (s.reg s.r2)).went s.next) else s.refP 15 s.asked 0) else s.refP (s.rch T 2).c (s.rch T 2).v (s.rch T 2).g
def Hs.lrP (T : TT) (s : Hs) : Rs × Hs := if (s.tk T 1).none then ({ s with is := true, at_ := (s.rch T 1).pa } : Hs).told (s.got T 1) else s.refP (s.tk T 1).c (s.tk T 1).v (s.tk T 1).g
def Hs.let_ (s : Hs) : Hs := { s with is := false }
def Hs.scP (T : TT) (s : Hs) : Rs × Hs :=
  if (s.rch T 2).none then
    (if s.is && s.at_ == (s.rch T 2).pa then (if s.ld T 2 = 0 then (s.let_.stored (s.rch T 2).pa (s.reg s.r2)).told 0 else s.let_.refP 15 s.asked 0) else s.let_.told 1)
  else s.refP (s.rch T 2).c (s.rch T 2).v (s.rch T 2).g
def Hs.amoP (T : TT) (s : Hs) (v : Int) : Rs × Hs :=
  if (s.tk T 2).none then (s.stored (s.rch T 2).pa v).told (s.got T 2) else s.refP (s.tk T 2).c (s.tk T 2).v (s.tk T 2).g
def Hs.callsP (s : Hs) : Rs × Hs := if s.md = 0 then (⟨1, 8, 0, 0, false, false⟩, s.trapped 8 0) else (⟨2, 9, 0, 0, false, false⟩, s)
def Hs.waitsP (s : Hs) : Rs × Hs := if C.waitP s.R = 0 then (⟨4, 0, 0, 0, false, false⟩, s) else (Rs.ok, s.went s.next)
/-- what an instruction writes into a control register -/
def Hs.wrV (s : Hs) (was : Int) : Int := if s.op = 47 then bits .or .u64 was (s.reg s.r1) else if s.op = 48 then bits .andNot .u64 was (s.reg s.r1) else s.reg s.r1
def Hs.wrB (s : Hs) : Bool := if s.op = 47 ∨ s.op = 48 then s.r1 != 0 else true
def Hs.ctlP (s : Hs) : Rs × Hs :=
  if C.reachP s.im s.md = 0 then
    if s.wrB then
      (if C.leftE s.im.toNat = 0 then (⟨0, 0, 0, 0, s.im == 8, false⟩, (({ s with R := C.upd s.R s.im.toNat (C.leftP s.R s.im.toNat (s.wrV (s.R s.im.toNat))) } : Hs).puts (s.R s.im.toNat)).went s.next)
       else if C.leftE s.im.toNat = 17 then (⟨0, 0, 0, 0, false, true⟩, (({ s with R := C.upd s.R s.im.toNat (s.wrV (s.R s.im.toNat)) } : Hs).puts (s.R s.im.toNat)).went s.next)
       else s.illP)
    else s.told (s.R s.im.toNat)
  else s.illP
end Go.Proofs.YtkckobbedpccfaaGreatDoor
