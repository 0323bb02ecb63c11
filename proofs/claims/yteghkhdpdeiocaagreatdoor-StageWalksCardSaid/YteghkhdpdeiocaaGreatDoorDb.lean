/-
  does: a call on one guest's tables, the program's and the document's.
-/
import Derived.Test.YteghkhdpdeiocaaGreatDoorDa
import Derived.Test.YteghkhdpdeiocaaGreatDoorLaid
import Derived.Test.YteghkhdpdeiocaaGreatDoorIns
import Derived.Deep.Cut
namespace Go.Proofs.YteghkhdpdeiocaaGreatDoor
open Go.RowKit Go.Maps
set_option linter.unusedVariables false
set_option maxRecDepth 100000

/-- an act's cells -/
def acA (a : Ac) : Array Value := #[.int .i64 a.kd, .int .i64 a.wh, .int .i64 a.pa, .int .i64 a.fr, .bool a.a, .bool a.b, .bool a.c]
/-- what an act leaves of memory, frames and the guest's tables -/
def stZ (gu n : Nat) (a : Ac) (z : Zs) : Zs := if a.kd = 0 then mapZ gu n z a.pa a.fr a.a a.b a.c else if a.kd = 1 then unZ gu z a.pa else if a.kd = 2 then prZ z a.pa a.a a.b a.c else if a.kd = 3 then ⟨z.m, alS z.S gu, z.x⟩ else z
section
variable {w0 w w' : World} {N1 n i : Nat} {B : Nat → Prop} {Q b g D T L gu T' L' gu' c h R r U U' A : Nat} {q k : Array Value} {m m' m2 m2' : List Int} {S S' S2 S2' : Fs} {x x' y x2 x2' y2 : Tp} {a : Ac}
theorem PB.acs (p : PB w0 w N1 B Q b g D T L gu T' L' gu' c h R r U U' A q (acA a) m S x y m2 S2 x2 y2) : w.cell? ⟨A, 0, none⟩ = some (.int .i64 a.kd) ∧ w.cell? ⟨A, 1, none⟩ = some (.int .i64 a.wh) ∧ w.cell? ⟨A, 2, none⟩ = some (.int .i64 a.pa) ∧ w.cell? ⟨A, 3, none⟩ = some (.int .i64 a.fr) ∧ w.cell? ⟨A, 4, none⟩ = some (.bool a.a) ∧ w.cell? ⟨A, 5, none⟩ = some (.bool a.b) ∧ w.cell? ⟨A, 6, none⟩ = some (.bool a.c) ∧ A < w.heap.size := by
  refine ⟨?_, ?_, ?_, ?_, ?_, ?_, ?_, lt_of_heap p.act⟩ <;> rw [cell_at p.act] <;> rfl
/-- what the law's block holds -/
structure QB (q : Array Value) (i D T R U : Nat) : Prop where
  qT : q[2 + i]? = some (.pointer (some ⟨T, 0, none⟩))
  qU : q[6 + i]? = some (.pointer (some ⟨U, 0, none⟩))
  qD : q[1]? = some (.pointer (some ⟨D, 0, none⟩))
  qR : q[5]? = some (.pointer (some ⟨R, 0, none⟩))
theorem PB.qs (p : PB w0 w N1 B Q b g D T L gu T' L' gu' c h R r U U' A q k m S x y m2 S2 x2 y2) (hq : QB q i D T R U) : w.cell? ⟨Q, 2 + i, none⟩ = some (.pointer (some ⟨T, 0, none⟩)) ∧ w.cell? ⟨Q, 6 + i, none⟩ = some (.pointer (some ⟨U, 0, none⟩)) ∧ w.cell? ⟨Q, 1, none⟩ = some (.pointer (some ⟨D, 0, none⟩)) ∧ w.cell? ⟨Q, 5, none⟩ = some (.pointer (some ⟨R, 0, none⟩)) ∧ Q < w.heap.size := by
  refine ⟨?_, ?_, ?_, ?_, lt_of_heap p.pf.wb⟩ <;> rw [cell_at p.pf.wb]
  · exact hq.qT
  · exact hq.qU
  · exact hq.qD
  · exact hq.qR
theorem below_drewN' {B : Nat} {W w : World} (h : Below B W w) (n : Nat) : Below B W (w.drewN n) := ⟨h.os, h.tape, h.output, h.size, h.block⟩
theorem PB.drew (p : PB w0 w N1 B Q b g D T L gu T' L' gu' c h R r U U' A q k m S x y m2 S2 x2 y2) : PB w0 w.drew N1 B Q b g D T L gu T' L' gu' c h R r U U' A q k m S x y m2 S2 x2 y2 := p.below (Below.refl _ _).drew
set_option maxHeartbeats 6400000 in
theorem does_k0 (p : PF w0 w N1 B Q b g D T L gu T' L' gu' c h R r U U' q m S x y m S x y) (iv : Iv n (TF y) ⟨m, S, x⟩) (hg : 1 ≤ gu ∧ gu ≤ 16) (hq : QB q i D T R U) (hi : i < 2) (hgu : (1 : Int) + i = gu) (a : Ac) (hw : bits .and .i64 a.wh 1 = (i : Int)) (hk : a.kd = 0) : Calls Tryz.prog 7 #[.pointer (some ⟨Q, 0, none⟩), .agg (acA a)] w fun e w' => e = .returned (.bool true) ∧ PF w0 w' N1 B Q b g D T L gu T' L' gu' c h R r U U' q (mapZ gu n ⟨m, S, x⟩ a.pa a.fr a.a a.b a.c).m (mapZ gu n ⟨m, S, x⟩ a.pa a.fr a.a a.b a.c).S (mapZ gu n ⟨m, S, x⟩ a.pa a.fr a.a a.b a.c).x y (mapZ gu n ⟨m, S, x⟩ a.pa a.fr a.a a.b a.c).m (mapZ gu n ⟨m, S, x⟩ a.pa a.fr a.a a.b a.c).S (mapZ gu n ⟨m, S, x⟩ a.pa a.fr a.a a.b a.c).x y := by
  have hi2 : (i : Int) < 2 := by omega
  have HL : Hid (∃ y1 A, w.alloc (.cells (acA a) 31) = y1 ∧ w.heap.size = A ∧ PB w0 y1 N1 B Q b g D T L gu T' L' gu' c h R r U U' A q (acA a) m S x y m S x y) := ⟨_, _, rfl, rfl, p.box (acA a)⟩
  have HIV : Hid (_) := iv
  have HQ : Hid (_) := hq
  have HG : Hid (_) := hg
  clear p iv hq hg
  go_enter Tryz.func7, Tryz.ntmps7
  go_upto_region 1 with fail
  obtain ⟨y1, A, hy, hA, P1⟩ := HL.out
  rw [hy, hA]
  have H1 : Hid (_) := P1
  obtain ⟨a0, a1, a2, a3, a4, a5, a6, lA⟩ := P1.acs
  obtain ⟨q0, q1, q2, q3, lQ⟩ := P1.qs HQ.out
  clear HL hy hA P1
  rw [hk] at a0
  obtain ⟨wh, hwh⟩ : ∃ wh, a.wh = wh := ⟨_, rfl⟩
  rw [hwh] at a1 hw
  go_quiet (fail)
  have H2 : Hid (PB w0 (y1.drewN nq) N1 B Q b g D T L gu T' L' gu' c h R r U U' A q (acA a) m S x y m S x y) := H1.out.below (below_drewN' (Below.refl _ _) nq)
  clear H1 a1 a2 a3 a4 a5 a6 lA q0 q1 q2 q3 lQ
  have a0 : (y1.drewN nq).cell? ⟨A, 0, none⟩ = _ := a0
  generalize y1.drewN nq = y2 at *
  have lA := H2.out.acs.2.2.2.2.2.2.2
  go_upto_region 4 with fail
  have e1 : (fun W : World => W.cell? ⟨A, 2, none⟩ = some (.int .i64 a.pa) ∧ W.cell? ⟨A, 3, none⟩ = some (.int .i64 a.fr) ∧ W.cell? ⟨A, 4, none⟩ = some (.bool a.a) ∧ W.cell? ⟨A, 5, none⟩ = some (.bool a.b) ∧ W.cell? ⟨A, 6, none⟩ = some (.bool a.c)) y2.drew := ⟨H2.out.drew.acs.2.2.1, H2.out.drew.acs.2.2.2.1, H2.out.drew.acs.2.2.2.2.1, H2.out.drew.acs.2.2.2.2.2.1, H2.out.drew.acs.2.2.2.2.2.2.1⟩
  have C1 := map_sx H2.out.drew.pf.s HIV.out HG.out a.pa a.fr a.a a.b a.c
  generalize hre : mapE gu n ⟨m, S, x⟩ a.pa a.fr a.a a.b a.c = re at *
  go_region_held2 (fun W => W.cell? ⟨A, 2, none⟩ = some (.int .i64 a.pa) ∧ W.cell? ⟨A, 3, none⟩ = some (.int .i64 a.fr) ∧ W.cell? ⟨A, 4, none⟩ = some (.bool a.a) ∧ W.cell? ⟨A, 5, none⟩ = some (.bool a.b) ∧ W.cell? ⟨A, 6, none⟩ = some (.bool a.c)) (first | exact e1 | exact e2 | exact e3)
    (first
      | (go_at_call 20; refine C1.mono ?_; rintro q y3 ⟨rfl, h3, t3⟩; (have H3 : Hid (PB w0 y3 N1 B Q b g D T L gu T' L' gu' c h R r U U' A q (acA a) (mapZ gu n ⟨m, S, x⟩ a.pa a.fr a.a a.b a.c).m (mapZ gu n ⟨m, S, x⟩ a.pa a.fr a.a a.b a.c).S (mapZ gu n ⟨m, S, x⟩ a.pa a.fr a.a a.b a.c).x y m S x y) := H2.out.drew.prog h3 t3); (have e2 : (fun W : World => W.cell? ⟨A, 2, none⟩ = some (.int .i64 a.pa) ∧ W.cell? ⟨A, 3, none⟩ = some (.int .i64 a.fr) ∧ W.cell? ⟨A, 4, none⟩ = some (.bool a.a) ∧ W.cell? ⟨A, 5, none⟩ = some (.bool a.b) ∧ W.cell? ⟨A, 6, none⟩ = some (.bool a.c)) y3 := ⟨H3.out.acs.2.2.1, H3.out.acs.2.2.2.1, H3.out.acs.2.2.2.2.1, H3.out.acs.2.2.2.2.2.1, H3.out.acs.2.2.2.2.2.2.1⟩); (have C2 := rmap_uz H3.out.pf.u HIV.out HG.out a.pa a.fr a.a a.b a.c); rw [hre] at C2)
      | (go_at_call 21; refine C2.mono ?_; rintro q y4 ⟨rfl, h4, t4⟩; (have H4 : Hid (PB w0 y4 N1 B Q b g D T L gu T' L' gu' c h R r U U' A q (acA a) (mapZ gu n ⟨m, S, x⟩ a.pa a.fr a.a a.b a.c).m (mapZ gu n ⟨m, S, x⟩ a.pa a.fr a.a a.b a.c).S (mapZ gu n ⟨m, S, x⟩ a.pa a.fr a.a a.b a.c).x y (mapZ gu n ⟨m, S, x⟩ a.pa a.fr a.a a.b a.c).m (mapZ gu n ⟨m, S, x⟩ a.pa a.fr a.a a.b a.c).S (mapZ gu n ⟨m, S, x⟩ a.pa a.fr a.a a.b a.c).x y) := H3.out.doc h4 t4); (have e3 : (fun W : World => W.cell? ⟨A, 2, none⟩ = some (.int .i64 a.pa) ∧ W.cell? ⟨A, 3, none⟩ = some (.int .i64 a.fr) ∧ W.cell? ⟨A, 4, none⟩ = some (.bool a.a) ∧ W.cell? ⟨A, 5, none⟩ = some (.bool a.b) ∧ W.cell? ⟨A, 6, none⟩ = some (.bool a.c)) y4 := ⟨H4.out.acs.2.2.1, H4.out.acs.2.2.2.1, H4.out.acs.2.2.2.2.1, H4.out.acs.2.2.2.2.2.1, H4.out.acs.2.2.2.2.2.2.1⟩)))
  clear e1 e2 e3 C1 C2 h3 t3 h4 t4 H3
  go_wp2_with fail
  go_ret
  exact ⟨rfl, H4.out.pf⟩
set_option maxHeartbeats 6400000 in
theorem does_k1 (p : PF w0 w N1 B Q b g D T L gu T' L' gu' c h R r U U' q m S x y m S x y) (iv : Iv n (TF y) ⟨m, S, x⟩) (hg : 1 ≤ gu ∧ gu ≤ 16) (hq : QB q i D T R U) (hi : i < 2) (hgu : (1 : Int) + i = gu) (a : Ac) (hw : bits .and .i64 a.wh 1 = (i : Int)) (hk : a.kd = 1) : Calls Tryz.prog 7 #[.pointer (some ⟨Q, 0, none⟩), .agg (acA a)] w fun e w' => e = .returned (.bool true) ∧ PF w0 w' N1 B Q b g D T L gu T' L' gu' c h R r U U' q (unZ gu ⟨m, S, x⟩ a.pa).m (unZ gu ⟨m, S, x⟩ a.pa).S (unZ gu ⟨m, S, x⟩ a.pa).x y (unZ gu ⟨m, S, x⟩ a.pa).m (unZ gu ⟨m, S, x⟩ a.pa).S (unZ gu ⟨m, S, x⟩ a.pa).x y := by
  have hi2 : (i : Int) < 2 := by omega
  have HL : Hid (∃ y1 A, w.alloc (.cells (acA a) 31) = y1 ∧ w.heap.size = A ∧ PB w0 y1 N1 B Q b g D T L gu T' L' gu' c h R r U U' A q (acA a) m S x y m S x y) := ⟨_, _, rfl, rfl, p.box (acA a)⟩
  have HIV : Hid (_) := iv
  have HQ : Hid (_) := hq
  have HG : Hid (_) := hg
  clear p iv hq hg
  go_enter Tryz.func7, Tryz.ntmps7
  go_upto_region 1 with fail
  obtain ⟨y1, A, hy, hA, P1⟩ := HL.out
  rw [hy, hA]
  have H1 : Hid (_) := P1
  obtain ⟨a0, a1, a2, a3, a4, a5, a6, lA⟩ := P1.acs
  obtain ⟨q0, q1, q2, q3, lQ⟩ := P1.qs HQ.out
  clear HL hy hA P1
  rw [hk] at a0
  obtain ⟨wh, hwh⟩ : ∃ wh, a.wh = wh := ⟨_, rfl⟩
  rw [hwh] at a1 hw
  go_quiet (fail)
  have H2 : Hid (PB w0 (y1.drewN nq) N1 B Q b g D T L gu T' L' gu' c h R r U U' A q (acA a) m S x y m S x y) := H1.out.below (below_drewN' (Below.refl _ _) nq)
  clear H1 a1 a2 a3 a4 a5 a6 lA q0 q1 q2 q3 lQ
  have a0 : (y1.drewN nq).cell? ⟨A, 0, none⟩ = _ := a0
  generalize y1.drewN nq = y2 at *
  have lA := H2.out.acs.2.2.2.2.2.2.2
  go_upto_region 6 with fail
  have a2 := H2.out.acs.2.2.1
  have C1 := unmap_sx H2.out.pf.s HIV.out a.pa
  generalize hre : unR ⟨m, S, x⟩ a.pa = re at *
  generalize hqe : unQ ⟨m, S, x⟩ a.pa = qe at *
  go_wp2_with fail
  refine C1.mono ?_
  rintro e y3 ⟨rfl, h3, t3⟩
  have H3 : Hid (PB w0 y3 N1 B Q b g D T L gu T' L' gu' c h R r U U' A q (acA a) (unZ gu ⟨m, S, x⟩ a.pa).m (unZ gu ⟨m, S, x⟩ a.pa).S (unZ gu ⟨m, S, x⟩ a.pa).x y m S x y) := H2.out.prog h3 t3
  have a3 := H3.out.acs.2.2.1
  have lA3 := H3.out.acs.2.2.2.2.2.2.2
  have C2 := runmap_uz H3.out.pf.u HIV.out a.pa
  rw [hre, hqe] at C2
  clear h3 t3 C1 a2 a0 lA
  go_wp2_with fail
  refine C2.mono ?_
  rintro e y4 ⟨rfl, h4, t4⟩
  have H4 : Hid (PB w0 y4 N1 B Q b g D T L gu T' L' gu' c h R r U U' A q (acA a) (unZ gu ⟨m, S, x⟩ a.pa).m (unZ gu ⟨m, S, x⟩ a.pa).S (unZ gu ⟨m, S, x⟩ a.pa).x y (unZ gu ⟨m, S, x⟩ a.pa).m (unZ gu ⟨m, S, x⟩ a.pa).S (unZ gu ⟨m, S, x⟩ a.pa).x y) := H3.out.doc h4 t4
  clear h4 t4 C2 H3
  go_wp2_with fail
  go_ret
  exact ⟨rfl, H4.out.pf⟩
set_option maxHeartbeats 6400000 in
theorem does_k2 (p : PF w0 w N1 B Q b g D T L gu T' L' gu' c h R r U U' q m S x y m S x y) (iv : Iv n (TF y) ⟨m, S, x⟩) (hg : 1 ≤ gu ∧ gu ≤ 16) (hq : QB q i D T R U) (hi : i < 2) (hgu : (1 : Int) + i = gu) (a : Ac) (hw : bits .and .i64 a.wh 1 = (i : Int)) (hk : a.kd = 2) : Calls Tryz.prog 7 #[.pointer (some ⟨Q, 0, none⟩), .agg (acA a)] w fun e w' => e = .returned (.bool true) ∧ PF w0 w' N1 B Q b g D T L gu T' L' gu' c h R r U U' q (prZ ⟨m, S, x⟩ a.pa a.a a.b a.c).m (prZ ⟨m, S, x⟩ a.pa a.a a.b a.c).S (prZ ⟨m, S, x⟩ a.pa a.a a.b a.c).x y (prZ ⟨m, S, x⟩ a.pa a.a a.b a.c).m (prZ ⟨m, S, x⟩ a.pa a.a a.b a.c).S (prZ ⟨m, S, x⟩ a.pa a.a a.b a.c).x y := by
  have hi2 : (i : Int) < 2 := by omega
  have HL : Hid (∃ y1 A, w.alloc (.cells (acA a) 31) = y1 ∧ w.heap.size = A ∧ PB w0 y1 N1 B Q b g D T L gu T' L' gu' c h R r U U' A q (acA a) m S x y m S x y) := ⟨_, _, rfl, rfl, p.box (acA a)⟩
  have HIV : Hid (_) := iv
  have HQ : Hid (_) := hq
  have HG : Hid (_) := hg
  clear p iv hq hg
  go_enter Tryz.func7, Tryz.ntmps7
  go_upto_region 1 with fail
  obtain ⟨y1, A, hy, hA, P1⟩ := HL.out
  rw [hy, hA]
  have H1 : Hid (_) := P1
  obtain ⟨a0, a1, a2, a3, a4, a5, a6, lA⟩ := P1.acs
  obtain ⟨q0, q1, q2, q3, lQ⟩ := P1.qs HQ.out
  clear HL hy hA P1
  rw [hk] at a0
  obtain ⟨wh, hwh⟩ : ∃ wh, a.wh = wh := ⟨_, rfl⟩
  rw [hwh] at a1 hw
  go_quiet (fail)
  have H2 : Hid (PB w0 (y1.drewN nq) N1 B Q b g D T L gu T' L' gu' c h R r U U' A q (acA a) m S x y m S x y) := H1.out.below (below_drewN' (Below.refl _ _) nq)
  clear H1 a1 a2 a3 a4 a5 a6 lA q0 q1 q2 q3 lQ
  have a0 : (y1.drewN nq).cell? ⟨A, 0, none⟩ = _ := a0
  generalize y1.drewN nq = y2 at *
  have lA := H2.out.acs.2.2.2.2.2.2.2
  go_upto_region 10 with fail
  have e1 : (fun W : World => W.cell? ⟨A, 2, none⟩ = some (.int .i64 a.pa) ∧ W.cell? ⟨A, 4, none⟩ = some (.bool a.a) ∧ W.cell? ⟨A, 5, none⟩ = some (.bool a.b) ∧ W.cell? ⟨A, 6, none⟩ = some (.bool a.c)) y2.drew := ⟨H2.out.drew.acs.2.2.1, H2.out.drew.acs.2.2.2.2.1, H2.out.drew.acs.2.2.2.2.2.1, H2.out.drew.acs.2.2.2.2.2.2.1⟩
  have C1 := protect_sx H2.out.drew.pf.s HIV.out a.pa a.a a.b a.c
  generalize hre : prQ ⟨m, S, x⟩ a.pa a.a a.b a.c = re at *
  go_region_held2 (fun W => W.cell? ⟨A, 2, none⟩ = some (.int .i64 a.pa) ∧ W.cell? ⟨A, 4, none⟩ = some (.bool a.a) ∧ W.cell? ⟨A, 5, none⟩ = some (.bool a.b) ∧ W.cell? ⟨A, 6, none⟩ = some (.bool a.c)) (first | exact e1 | exact e2 | exact e3)
    (first
      | (go_at_call 24; refine C1.mono ?_; rintro q y3 ⟨rfl, h3, t3⟩; (have H3 : Hid (PB w0 y3 N1 B Q b g D T L gu T' L' gu' c h R r U U' A q (acA a) (prZ ⟨m, S, x⟩ a.pa a.a a.b a.c).m (prZ ⟨m, S, x⟩ a.pa a.a a.b a.c).S (prZ ⟨m, S, x⟩ a.pa a.a a.b a.c).x y m S x y) := H2.out.drew.prog h3 t3); (have e2 : (fun W : World => W.cell? ⟨A, 2, none⟩ = some (.int .i64 a.pa) ∧ W.cell? ⟨A, 4, none⟩ = some (.bool a.a) ∧ W.cell? ⟨A, 5, none⟩ = some (.bool a.b) ∧ W.cell? ⟨A, 6, none⟩ = some (.bool a.c)) y3 := ⟨H3.out.acs.2.2.1, H3.out.acs.2.2.2.2.1, H3.out.acs.2.2.2.2.2.1, H3.out.acs.2.2.2.2.2.2.1⟩); (have C2 := rprotect_uz H3.out.pf.u HIV.out a.pa a.a a.b a.c); rw [hre] at C2)
      | (go_at_call 25; refine C2.mono ?_; rintro q y4 ⟨rfl, h4, t4⟩; (have H4 : Hid (PB w0 y4 N1 B Q b g D T L gu T' L' gu' c h R r U U' A q (acA a) (prZ ⟨m, S, x⟩ a.pa a.a a.b a.c).m (prZ ⟨m, S, x⟩ a.pa a.a a.b a.c).S (prZ ⟨m, S, x⟩ a.pa a.a a.b a.c).x y (prZ ⟨m, S, x⟩ a.pa a.a a.b a.c).m (prZ ⟨m, S, x⟩ a.pa a.a a.b a.c).S (prZ ⟨m, S, x⟩ a.pa a.a a.b a.c).x y) := H3.out.doc h4 t4); (have e3 : (fun W : World => W.cell? ⟨A, 2, none⟩ = some (.int .i64 a.pa) ∧ W.cell? ⟨A, 4, none⟩ = some (.bool a.a) ∧ W.cell? ⟨A, 5, none⟩ = some (.bool a.b) ∧ W.cell? ⟨A, 6, none⟩ = some (.bool a.c)) y4 := ⟨H4.out.acs.2.2.1, H4.out.acs.2.2.2.2.1, H4.out.acs.2.2.2.2.2.1, H4.out.acs.2.2.2.2.2.2.1⟩)))
  clear e1 e2 e3 C1 C2 h3 t3 h4 t4 H3
  go_wp2_with fail
  go_ret
  exact ⟨rfl, H4.out.pf⟩
end
end Go.Proofs.YteghkhdpdeiocaaGreatDoor
