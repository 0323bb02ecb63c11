/-
  What causeOf, Enter and Leave do.
  What leaves and Write do.
-/
import Derived.Test.YtkckobbedpccfaaGreatDoorQF
import Derived.Deep.DeepCutAuto
import Derived.Deep.RegionWith
namespace Go.Proofs.YtkckobbedpccfaaGreatDoor.C
open Go.RowKit
set_option linter.unusedVariables false
set_option maxRecDepth 100000

theorem wrap_U (x : Int) : U (IntKind.u64.wrap x) := by
  unfold U
  rw [IntKind.wrap_u64]
  omega
/-- a trap -/
def trapV (c va gu : Int) : Value := .agg #[.int .i64 c, .int .u64 va, .int .u64 gu]
/-- a trap's cause, as the register has it -/
def causeP (c : Int) : Int := if c = 4611686018427387905 then 9223372036854775809 else if c = 4611686018427387909 then 9223372036854775813 else if c = 4611686018427387913 then 9223372036854775817 else IntKind.u64.wrap c
theorem causeP_U (c : Int) : U (causeP c) := by
  unfold causeP
  split
  · exact ⟨by omega, by omega⟩
  · split
    · exact ⟨by omega, by omega⟩
    · split
      · exact ⟨by omega, by omega⟩
      · exact wrap_U _
theorem cause_any (c va gu : Int) (w : World) : Calls Tryz.prog 88 #[trapV c va gu] w fun e w' => e = .returned (.int .u64 (causeP c)) ∧ Below w.heap.size w w' := by
  have hb : ∀ o, Below w.heap.size w (w.alloc o) := fun o => (Below.refl _ _).alloc (Nat.le_refl _) o
  unfold trapV
  by_cases h1 : c = 4611686018427387905
  · subst h1
    go_enter Tryz.func88, Tryz.ntmps88
    go_wp2
    go_ret
    exact ⟨ret_int (by simp [causeP]), hb _⟩
  by_cases h5 : c = 4611686018427387909
  · subst h5
    go_enter Tryz.func88, Tryz.ntmps88
    go_wp2
    go_ret
    exact ⟨ret_int (by simp [causeP]), hb _⟩
  by_cases h9 : c = 4611686018427387913
  · subst h9
    go_enter Tryz.func88, Tryz.ntmps88
    go_wp2
    go_ret
    exact ⟨ret_int (by simp [causeP]), hb _⟩
  · go_enter Tryz.func88, Tryz.ntmps88
    go_wp2
    go_ret
    exact ⟨ret_int (by simp [causeP, h1, h5, h9]), hb _⟩
/-- the registers behind Enter -/
def enS (s : Int) (k : Bool) : Int := turnP (turnP (turnP s 32 (hasP s 2)) 2 false) 256 k
def enterP (R : Nat → Int) (x va pc : Int) (k : Bool) : Nat → Int := fun n => if n = 0 then enS (R 0) k else if n = 4 then bits .andNot .u64 pc 3 else if n = 5 then x else if n = 6 then va else R n
/-- the registers behind Leave -/
def leS (s : Int) : Int := turnP (turnP (turnP s 2 (hasP s 32)) 32 true) 256 false
set_option maxHeartbeats 800000 in
theorem leave_ff (F : Nat) (R : Nat → Int) (w : World) (h : FF w F R) : Calls Tryz.prog 139 #[.pointer (some ⟨F, 0, none⟩)] w fun e w' => e = .returned (.tuple #[.int .u64 (R 4), .int .i64 (if hasP (R 0) 256 then 1 else 0)]) ∧ FF w' F (upd R 0 (leS (R 0))) ∧ w.grownBy w' (some F) := by
  have C := made_ff F R w h
  have D := has_ff F R 0 (by decide) 256 w h
  have E := has_ff F R 0 (by decide) 32 w h
  have T1 := turn_ff F R 0 (by decide) 2 (hasP (R 0) 32) w h
  clear h
  cases hk : hasP (R 0) 256
  all_goals
    rw [hk] at D
    simp only [Bool.false_eq_true, if_false, if_true]
    go_enter Tryz.func139, Tryz.ntmps139
    go_wp2_with fail
    refine C.mono ?_
    rintro e w ⟨rfl, rfl⟩
    go_wp2_with fail
    refine D.mono ?_
    rintro e w ⟨rfl, rfl⟩
    go_wp2_with fail
    refine E.mono ?_
    rintro e w ⟨rfl, rfl⟩
    go_wp2_with fail
    refine T1.mono ?_
    rintro e w1 ⟨rfl, h1, g1⟩
    have T2 := turn_ff F _ 0 (by decide) 32 true w1 h1
    have HG1 : Hid (w.grownBy w1 (some F)) := g1
    clear C D E T1 h1 g1
    go_wp2_with fail
    refine T2.mono ?_
    rintro e w2 ⟨rfl, h2, g2⟩
    have T3 := turn_ff F _ 0 (by decide) 256 false w2 h2
    have HG2 : Hid (w.grownBy w2 (some F)) := grown_trans HG1.out g2
    clear T2 h2 g2 HG1
    go_wp2_with fail
    refine T3.mono ?_
    rintro e w3 ⟨rfl, h3, g3⟩
    have HG3 : Hid (w.grownBy w3 (some F)) := grown_trans HG2.out g3
    have c4 : w3.cell? ⟨F, 5, none⟩ = some (.int .u64 (R 4)) := h3.c 4 (by decide)
    have hl3 := h3.lt
    have HF : Hid (FF w3 F (upd R 0 (leS (R 0)))) := h3.congr (fun n hn => by
      by_cases e : n = 0
      · simp [upd, leS, e]
      · simp [upd, e])
    clear T3 h3 g3 HG2
    go_wp2_with fail
    go_ret2
    exact ⟨rfl, HF.out, HG3.out⟩

/-- a world in which the trap lies at A, and the registers at F -/
structure ES (w0 w : World) (F A : Nat) (R : Nat → Int) (c va gu : Int) : Prop where
  ff : FF w F R
  t0 : w.heap[A]? = some (.cells #[.int .i64 c, .int .u64 va, .int .u64 gu] 55 (0, 0))
  ne : A ≠ F
  gr : w0.grownBy w (some F)
theorem ES.set {w0 w : World} {F A : Nat} {R : Nat → Int} {c va gu : Int} (h : ES w0 w F A R c va gu) (n : Nat) (hn : n < 12) (v : Int) (hv : U v) : ES w0 (w.setCell ⟨F, 1 + n, none⟩ (.int .u64 v)) F A (upd R n v) c va gu := by
  obtain ⟨h1, h2⟩ := h.ff.set n hn v hv
  exact ⟨h1, (gr_keep h2 (lt_of_heap h.t0) h.ne).trans h.t0, h.ne, grown_trans h.gr h2⟩
theorem ES.grown {w0 w w' : World} {F A : Nat} {R R' : Nat → Int} {c va gu : Int} (h : ES w0 w F A R c va gu) (hf : FF w' F R') (hg : w.grownBy w' (some F)) : ES w0 w' F A R' c va gu :=
  ⟨hf, (gr_keep hg (lt_of_heap h.t0) h.ne).trans h.t0, h.ne, grown_trans h.gr hg⟩
theorem ES.below {w0 w w' : World} {F A : Nat} {R : Nat → Int} {c va gu : Int} (h : ES w0 w F A R c va gu) (hb : Below w.heap.size w w') : ES w0 w' F A R c va gu :=
  h.grown (h.ff.below hb) (grown_of_below hb)
theorem ES.cs {w0 w : World} {F A : Nat} {R : Nat → Int} {c va gu : Int} (h : ES w0 w F A R c va gu) : w.cell? ⟨A, 0, none⟩ = some (.int .i64 c) ∧ w.cell? ⟨A, 1, none⟩ = some (.int .u64 va) ∧ w.cell? ⟨A, 2, none⟩ = some (.int .u64 gu) ∧ A < w.heap.size := by
  have := lt_of_heap h.t0
  rw [cell_at h.t0, cell_at h.t0, cell_at h.t0]
  exact ⟨rfl, rfl, rfl, this⟩

set_option maxHeartbeats 1600000 in
theorem enter_ff (F : Nat) (R : Nat → Int) (c va gu pc mode : Int) (hva : U va) (w : World) (h : FF w F R) :
    Calls Tryz.prog 72 #[.pointer (some ⟨F, 0, none⟩), trapV c va gu, .int .u64 pc, .int .i64 mode] w fun e w' => e = .returned (.tuple #[.int .u64 (R 3), .int .i64 1]) ∧ FF w' F (enterP R (causeP c) va pc (mode == 1)) ∧ w.grownBy w' (some F) := by
  have CO := cause_any c va gu
  have hcu := causeP_U c
  generalize causeP c = x at *
  have hl := h.lt
  have hb0 : Below w.heap.size w (w.alloc (.cells #[.int .i64 c, .int .u64 va, .int .u64 gu] 55)) := (Below.refl _ _).alloc (Nat.le_refl _) _
  have C := made_ff F R _ (h.below hb0)
  have cc := (h.below hb0).c 4 (by decide)
  have cf := (h.below hb0).f 5
  have hs4 := h.set 4 (by decide) (bits .andNot .u64 pc 3) (bits_U _ _ _)
  have HE : Hid (ES w ((w.setCell ⟨F, 5, none⟩ (.int .u64 (bits .andNot .u64 pc 3))).alloc (.cells #[.int .i64 c, .int .u64 va, .int .u64 gu] 55)) F w.heap.size (upd R 4 (bits .andNot .u64 pc 3)) c va gu) := by
    have e : (w.setCell ⟨F, 5, none⟩ (.int .u64 (bits .andNot .u64 pc 3))).heap.size = w.heap.size := by simp
    have hb : Below (w.setCell ⟨F, 5, none⟩ (.int .u64 (bits .andNot .u64 pc 3))).heap.size (w.setCell ⟨F, 5, none⟩ (.int .u64 (bits .andNot .u64 pc 3))) ((w.setCell ⟨F, 5, none⟩ (.int .u64 (bits .andNot .u64 pc 3))).alloc (.cells #[.int .i64 c, .int .u64 va, .int .u64 gu] 55)) := (Below.refl _ _).alloc (Nat.le_refl _) _
    refine ⟨hs4.1.below hb, ?_, by omega, grown_trans hs4.2 (grown_of_below hb)⟩
    have := heap_alloc_at (w.setCell ⟨F, 5, none⟩ (.int .u64 (bits .andNot .u64 pc 3))) (.cells #[.int .i64 c, .int .u64 va, .int .u64 gu] 55)
    rwa [e] at this
  clear hb0 h hs4
  unfold trapV at *
  go_enter Tryz.func72, Tryz.ntmps72
  go_wp2_with fail
  refine C.mono ?_
  rintro e w' ⟨rfl, hw⟩
  obtain rfl := hw.symm
  clear C hw
  go_wp2_with fail
  clear cc cf
  generalize (w.setCell ⟨F, 5, none⟩ (.int .u64 (bits .andNot .u64 pc 3))).alloc (.cells #[.int .i64 c, .int .u64 va, .int .u64 gu] 55) = y at *
  generalize w.heap.size = A at *
  obtain ⟨t0, t1, t2, tl⟩ := HE.out.cs
  have f5 := HE.out.ff.c 5 (by decide)
  have fl := HE.out.ff.lt
  have ff5 := HE.out.ff.f 6
  go_cut [] (fun wx => Hid (ES w wx F A (upd (upd R 4 (bits .andNot .u64 pc 3)) 5 x) c va gu))
  case first =>
    go_region_with ((refine (CO _).mono ?_; rintro e x1 ⟨rfl, hb⟩; have HX : Hid (ES w x1 F A (upd R 4 (bits .andNot .u64 pc 3)) c va gu ∧ U x) := ⟨HE.out.below ⟨hb.os, hb.tape, hb.output, hb.size, hb.block⟩, hcu⟩; have g5 := HX.out.1.ff.c 5 (by decide); have gl := HX.out.1.ff.lt; have gf := HX.out.1.ff.f 6; clear hb))
    all_goals
      go_wp2_with fail
      go_meet
      exact HX.out.1.set 5 (by decide) x HX.out.2
  case rest =>
    have HX := hcut
    obtain ⟨k0, k1, k2, kl⟩ := HX.out.cs
    have g6 := HX.out.ff.c 6 (by decide)
    have gl := HX.out.ff.lt
    have gf := HX.out.ff.f 7
    have HY0 : Hid (ES w (wc.setCell ⟨F, 7, none⟩ (.int .u64 va)) F A (upd (upd (upd R 4 (bits .andNot .u64 pc 3)) 5 x) 6 va) c va gu) := HX.out.set 6 (by decide) va hva
    go_wp2_with fail
    go_region
    go_wp2_with fail
    have HY : Hid (ES w (wc.setCell ⟨F, 7, none⟩ (.int .u64 va)).drew F A (upd (upd (upd R 4 (bits .andNot .u64 pc 3)) 5 x) 6 va) c va gu) := HY0.out.below ⟨rfl, rfl, rfl, Nat.le_refl _, fun _ _ => rfl⟩
    clear HY0
    generalize (wc.setCell ⟨F, 7, none⟩ (.int .u64 va)).drew = z at *
    clear k0 k1 k2 kl g6 gl gf HX
    have hY := HY.out
    have C0 := has_ff F _ 0 (by decide) 2 z hY.ff
    have T1 := turn_ff F _ 0 (by decide) 32 (hasP ((upd (upd (upd R 4 (bits .andNot .u64 pc 3)) 5 x) 6 va) 0) 2) z hY.ff
    clear hY
    refine C0.mono ?_
    rintro e z ⟨rfl, rfl⟩
    go_wp2_with fail
    refine T1.mono ?_
    rintro e z1 ⟨rfl, h1, g1⟩
    have T2 := turn_ff F _ 0 (by decide) 2 false z1 h1
    have HG1 : Hid (w.grownBy z1 (some F)) := grown_trans HY.out.gr g1
    clear C0 T1 HY h1 g1
    go_wp2_with fail
    refine T2.mono ?_
    rintro e z2 ⟨rfl, h2, g2⟩
    have T3 := turn_ff F _ 0 (by decide) 256 (mode == 1) z2 h2
    have HG2 : Hid (w.grownBy z2 (some F)) := grown_trans HG1.out g2
    clear T2 HG1 h2 g2
    go_wp2_with fail
    refine T3.mono ?_
    rintro e z3 ⟨rfl, h3, g3⟩
    have HG3 : Hid (w.grownBy z3 (some F)) := grown_trans HG2.out g3
    have HF : Hid (FF z3 F (enterP R x va pc (mode == 1))) := h3.congr (fun n hn => by
      unfold enterP enS
      by_cases e0 : n = 0
      · simp [upd, e0]
      · by_cases e4 : n = 4
        · simp [upd, e4]
        · by_cases e5 : n = 5
          · simp [upd, e5]
          · by_cases e6 : n = 6
            · simp [upd, e6]
            · simp [upd, e0, e4, e5, e6])
    have c3 : z3.cell? ⟨F, 4, none⟩ = some (.int .u64 (R 3)) := HF.out.c 3 (by decide)
    have l3 := HF.out.lt
    clear T3 HG2 h3 g3
    go_wp2_with fail
    go_ret2
    exact ⟨rfl, HF.out, HG3.out⟩
end Go.Proofs.YtkckobbedpccfaaGreatDoor.C
namespace Go.Proofs.YtkckobbedpccfaaGreatDoor.C
open Go.RowKit
set_option linter.unusedVariables false
set_option maxRecDepth 100000

/-- what a write leaves of a register -/
def leftP (R : Nat → Int) (n : Nat) (v : Int) : Int :=
  match n with
  | 0 => bits .and .u64 v 290
  | 1 => bits .and .u64 v 546
  | 2 => bits .or .u64 (bits .andNot .u64 (R 2) 2) (bits .and .u64 v 2)
  | 3 | 4 => bits .andNot .u64 v 3
  | 5 | 6 | 7 => v
  | 8 => if bits .and .u64 v 9223372036854775808 = 0 then 0 else bits .and .u64 v 9223372036854841343
  | _ => 0
/-- why it is not written -/
def leftE (n : Nat) : Int := if n < 9 then 0 else if n = 10 then 17 else 14

set_option maxHeartbeats 800000 in
theorem leaves_ff (F : Nat) (R : Nat → Int) (n : Nat) (hn : n < 12) (v : Int) (w : World) (h : FF w F R) : Calls Tryz.prog 150 #[.pointer (some ⟨F, 0, none⟩), .int .i64 n, .int .u64 v] w fun e w' => e = .returned (.tuple #[.int .u64 (leftP R n v), .int .i64 (leftE n)]) ∧ w' = w := by
  have c := h.c 2 (by decide)
  have hl := h.lt
  clear h
  match n, hn with
  | 0, _ | 1, _ | 2, _ | 3, _ | 4, _ | 5, _ | 6, _ | 7, _ | 9, _ | 10, _ | 11, _ =>
    go_enter Tryz.func150, Tryz.ntmps150
    go_wp2
    go_ret2
    exact ⟨rfl, rfl⟩
  | 8, _ =>
    by_cases hv : bits .and .u64 v 9223372036854775808 = 0
    · go_enter Tryz.func150, Tryz.ntmps150
      go_wp2
      go_ret2
      simp [leftP, leftE, hv]
    · go_enter Tryz.func150, Tryz.ntmps150
      go_wp2
      go_ret2
      simp [leftP, leftE, hv]
theorem left_U (R : Nat → Int) (n : Nat) (v : Int) (hv : U v) : U (leftP R n v) := by
  unfold leftP
  split
  all_goals first | exact bits_U _ _ _ | exact hv | exact ⟨by omega, by omega⟩ | skip
  split
  · exact ⟨by omega, by omega⟩
  · exact bits_U _ _ _

/-- a write of a register -/
theorem write_ff (F : Nat) (R : Nat → Int) (n : Nat) (hn : n < 12) (v : Int) (hv : U v) (w : World) (h : FF w F R) :
    Calls Tryz.prog 147 #[.pointer (some ⟨F, 0, none⟩), .int .i64 n, .int .i64 1, .int .u64 v] w fun e w' => e = .returned (.int .i64 (leftE n)) ∧ FF w' F (if leftE n = 0 then upd R n (leftP R n v) else R) ∧ w.grownBy w' (some F) := by
  have C := reach_ff F R n 1 w h
  have e0 : reachP n 1 = 0 := by simp [reachP, regP_nat n hn]
  rw [e0] at C
  have D := leaves_ff F R n hn v w h
  have c := h.c n hn
  have hl := h.lt
  have hf := h.f (1 + n)
  have hn' : (n : Int) < 12 := by omega
  by_cases he : leftE n = 0
  · rw [he] at D ⊢
    have HF : Hid (FF (w.setCell ⟨F, 1 + n, none⟩ (.int .u64 (leftP R n v))) F (upd R n (leftP R n v)) ∧ w.grownBy (w.setCell ⟨F, 1 + n, none⟩ (.int .u64 (leftP R n v))) (some F)) := h.set n hn _ (left_U R n v hv)
    simp only [if_true]
    generalize leftP R n v = y at *
    clear h
    go_enter Tryz.func147, Tryz.ntmps147
    go_wp2_with fail
    refine C.mono ?_
    rintro e w1 ⟨rfl, rfl⟩
    go_wp2_with fail
    refine D.mono ?_
    rintro e w1 ⟨rfl, rfl⟩
    go_wp2_with fail
    go_ret
    exact ⟨rfl, HF.out⟩
  · rw [if_neg he]
    have HF : Hid (FF w F R) := h
    generalize leftP R n v = y at *
    generalize leftE n = z at *
    clear h
    go_enter Tryz.func147, Tryz.ntmps147
    go_wp2_with fail
    refine C.mono ?_
    rintro e w1 ⟨rfl, rfl⟩
    go_wp2_with fail
    refine D.mono ?_
    rintro e w1 ⟨rfl, rfl⟩
    go_wp2_with fail
    go_ret
    exact ⟨rfl, HF.out, grown_refl _ _⟩
/-- a write of what is no register -/
theorem write_no (F : Nat) (R : Nat → Int) (n : Int) (hn : regP n = false) (v : Int) (w : World) (h : FF w F R) :
    Calls Tryz.prog 147 #[.pointer (some ⟨F, 0, none⟩), .int .i64 n, .int .i64 1, .int .u64 v] w fun e w' => e = .returned (.int .i64 14) ∧ w' = w := by
  have C := reach_ff F R n 1 w h
  have e0 : reachP n 1 = 14 := by simp [reachP, hn]
  rw [e0] at C
  clear h
  go_enter Tryz.func147, Tryz.ntmps147
  go_wp2_with fail
  refine C.mono ?_
  rintro e w1 ⟨rfl, rfl⟩
  go_wp2_with fail
  go_ret
  exact ⟨rfl, rfl⟩
/-- a write, whatever the number -/
theorem write_any (F : Nat) (R : Nat → Int) (n : Int) (v : Int) (hv : U v) (w : World) (h : FF w F R) :
    Calls Tryz.prog 147 #[.pointer (some ⟨F, 0, none⟩), .int .i64 n, .int .i64 1, .int .u64 v] w fun e w' => ∃ z R', e = .returned (.int .i64 z) ∧ FF w' F R' ∧ w.grownBy w' (some F) := by
  cases hr : regP n
  · exact (write_no F R n hr v w h).mono fun e w' ⟨he, hw⟩ => ⟨_, R, he, hw ▸ h, hw ▸ grown_refl _ _⟩
  · simp [regP] at hr
    obtain ⟨k, rfl⟩ := Int.eq_ofNat_of_zero_le hr.1
    exact (write_ff F R k (by omega) v hv w h).mono fun e w' ⟨he, hw, hg⟩ => ⟨_, _, he, hw, hg⟩
end Go.Proofs.YtkckobbedpccfaaGreatDoor.C
