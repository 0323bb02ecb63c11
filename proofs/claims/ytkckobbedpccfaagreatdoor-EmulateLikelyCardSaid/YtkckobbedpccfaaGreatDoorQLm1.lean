/-
  EmulateLikely: a program of one instruction, operation 23.
  EmulateLikely: a program of one instruction, operation 24.
  EmulateLikely: a program of one instruction, operation 25.
-/
import Derived.Test.YtkckobbedpccfaaGreatDoorQLk
namespace Go.Proofs.YtkckobbedpccfaaGreatDoor
open Go.RowKit
set_option linter.unusedVariables false
set_option maxRecDepth 100000
set_option maxHeartbeats 16000000 in
theorem lik_23 [E.Bits] {W : World} {cs : Array Value} {X R : Nat → Int} {pc mode sec : Int} {B off : Nat} {pa : Option Addr} {iC pN pC : Nat} {vw : Value} (hG : Looks cs X R pc mode sec (.slice (some ⟨B, off, none⟩) 1 iC) vw (.slice pa pN pC)) {rd rs1 rs2 imm : Int} (hB : B < W.heap.size) (c0 : W.cell? ⟨B, off, none⟩ = some (.int .i64 23)) (c1 : W.cell? ⟨B, off + 1, none⟩ = some (.int .i64 rd)) (c2 : W.cell? ⟨B, off + 2, none⟩ = some (.int .i64 rs1)) (c3 : W.cell? ⟨B, off + 3, none⟩ = some (.int .i64 rs2)) (c4 : W.cell? ⟨B, off + 4, none⟩ = some (.int .i64 imm)) {ps : List (Int × Int)} (hp : PokesIn W pa pN ps) (hpC : pN ≤ pC) (hpM : pC ≤ 9223372036854775807) (v : Int) (hv : C.U v) (hz : SZ W) (h1 : 1 < W.heap.size) (hT : ∀ p : Pl, p.o1 = W.heap[1]? → TransOK p TB) : Calls Tryz.prog 3 #[.agg cs, .int .u64 v] W fun e W' => e = .returned (.bool true) ∧ Below W.heap.size W W' := by
  obtain ⟨fs31, hu31⟩ := und31
  obtain ⟨fs25, hu25⟩ := und25
  have HXU : Hid (∀ n, n < 16 → C.U (X n)) := hG.hX
  rw [given_lit hG]
  unfold stCells
  have HP : Hid (PokesIn W pa pN ps) := hp
  have HZ : Hid (SZ W) := hz
  have HT : Hid (_) := hT
  have HV : Hid (C.U v) := hv
  have C1 := I.rencode_any 23 rd 5 rs2 imm
  unfold I.ins at C1
  clear hG hp hz hT hv
  go_enter Tryz.func3, Tryz.ntmps3
  go_wp2_with fail
  refine (C1 _).mono ?_
  rintro e y ⟨rfl, b1⟩
  clear C1
  generalize Value.agg #[.int .u64 (X 0), .int .u64 (X 1), .int .u64 (X 2), .int .u64 (X 3), .int .u64 (X 4), .int .u64 (X 5), .int .u64 (X 6), .int .u64 (X 7), .int .u64 (X 8), .int .u64 (X 9), .int .u64 (X 10), .int .u64 (X 11), .int .u64 (X 12), .int .u64 (X 13), .int .u64 (X 14), .int .u64 (X 15), .int .u64 pc, .int .i64 mode, .int .u64 (R 0), .int .u64 (R 1), .int .u64 (R 2), .int .u64 (R 3), .int .u64 (R 4), .int .u64 (R 5), .int .u64 (R 6), .int .u64 (R 7), .int .u64 (R 8), .int .u64 (R 9), .int .u64 (R 10), .int .u64 (R 11), .slice (some ⟨B, off, none⟩) 1 iC, vw, .slice pa pN pC, .int .i64 sec] = g0
  have b0 : Below W.heap.size W y := (((Below.refl _ _).alloc (Nat.le_refl _) _).alloc (by simp) _).trans (b1.mono (by simp <;> omega))
  obtain ⟨z1, a0, a1⟩ := two_at W (.cells #[.int .u64 0, .int .u64 (X 1), .int .u64 (X 2), .int .u64 (X 3), .int .u64 (X 4), .int .u64 (X 5), .int .u64 (X 6), .int .u64 (X 7), .int .u64 (X 8), .int .u64 (X 9), .int .u64 (X 10), .int .u64 (X 11), .int .u64 (X 12), .int .u64 (X 13), .int .u64 (X 14), .int .u64 (X 15), .int .u64 0, .int .i64 1, .int .u64 0, .int .u64 0, .int .u64 0, .int .u64 0, .int .u64 0, .int .u64 0, .int .u64 0, .int .u64 0, .int .u64 0, .int .u64 0, .int .u64 0, .int .u64 0, .slice (some ⟨B, off, none⟩) 1 iC, .slice none 0 0, .slice pa pN pC, .int .i64 (-1)] 31) (.cells #[.int .i64 23, .int .i64 rd, .int .i64 5, .int .i64 rs2, .int .i64 imm] 33)
  have e0 := keepB a0 b1
  have e1 := keepB a1 b1
  have HB0 : Hid (_) := b0
  have HE0 : Hid (_) := e0
  have HE1 : Hid (_) := e1
  have k0 : y.cell? ⟨W.heap.size + 1, 0, none⟩ = some (.int .i64 23) := (C.cell_at e1 0).trans rfl
  have k1 : y.cell? ⟨W.heap.size + 1, 1, none⟩ = some (.int .i64 rd) := (C.cell_at e1 1).trans rfl
  have k2 : y.cell? ⟨W.heap.size + 1, 2, none⟩ = some (.int .i64 5) := (C.cell_at e1 2).trans rfl
  have k3 : y.cell? ⟨W.heap.size + 1, 3, none⟩ = some (.int .i64 rs2) := (C.cell_at e1 3).trans rfl
  have k4 : y.cell? ⟨W.heap.size + 1, 4, none⟩ = some (.int .i64 imm) := (C.cell_at e1 4).trans rfl
  have j30 : y.cell? ⟨W.heap.size, 30, none⟩ = some (.slice (some ⟨B, off, none⟩) 1 iC) := (C.cell_at e0 30).trans rfl
  have j5 : y.cell? ⟨W.heap.size, 5, none⟩ = some (.int .u64 (X 5)) := (C.cell_at e0 5).trans rfl
  have f30 := K.fz_at e0 30
  have f5 := K.fz_at e0 5
  have l0 := lt_of_heap e0
  have l1 := lt_of_heap e1
  clear b0 b1 z1 a0 a1 e0 e1 c0 c1 c2 c3 c4
  by_cases he : I.encE 23 rd 5 rs2 imm = 0
  · have h9 := ins9_of (op := 23) (by decide) he
    have H9 : Hid (_) := h9
    rw [he]
    clear he h9
    obtain ⟨aw, haw⟩ : ∃ aw, I.encW 23 rd 5 rs2 imm = aw := ⟨_, rfl⟩
    rw [haw] at H9 ⊢
    go_upto_region 18 with fail
    have t1 := K.heap_setCell HE0.out 30 (.slice (some ⟨y.heap.size, 0, none⟩) 1 1)
    have t2 := K.heap_setCell t1 5 (.int .u64 (IntKind.u64.wrap (1024 - IntKind.u64.wrap imm)))
    have tt := (K.trn_set1 HE0.out 30 (.slice (some ⟨y.heap.size, 0, none⟩) 1 1)).trans (K.trn_set1 t1 5 (.int .u64 (IntKind.u64.wrap (1024 - IntKind.u64.wrap imm))))
    have sy : ((y.setCell ⟨W.heap.size, 30, none⟩ (.slice (some ⟨y.heap.size, 0, none⟩) 1 1)).setCell ⟨W.heap.size, 5, none⟩ (.int .u64 (IntKind.u64.wrap (1024 - IntKind.u64.wrap imm)))).heap.size = y.heap.size := by simp
    obtain ⟨bu, n0, n1⟩ := two_at ((y.setCell ⟨W.heap.size, 30, none⟩ (.slice (some ⟨y.heap.size, 0, none⟩) 1 1)).setCell ⟨W.heap.size, 5, none⟩ (.int .u64 (IntKind.u64.wrap (1024 - IntKind.u64.wrap imm)))) (.cells #[.int .i64 23, .int .i64 rd, .int .i64 5, .int .i64 rs2, .int .i64 imm] 33) (.cells #[.int .i64 8, .int .i64 4, .int .i64 1] 3)
    rw [sy] at n0
    have HA : Hid (((((y.setCell ⟨W.heap.size, 30, none⟩ (.slice (some ⟨y.heap.size, 0, none⟩) 1 1)).setCell ⟨W.heap.size, 5, none⟩ (.int .u64 (IntKind.u64.wrap (1024 - IntKind.u64.wrap imm)))).alloc (.cells #[.int .i64 23, .int .i64 rd, .int .i64 5, .int .i64 rs2, .int .i64 imm] 33)).alloc (.cells #[.int .i64 8, .int .i64 4, .int .i64 1] 3)).heap[W.heap.size]? = some (.cells (likC X (IntKind.u64.wrap (1024 - IntKind.u64.wrap imm)) y.heap.size pa pN pC) 31 (0, 0))) := keepB (t2.trans rfl) bu
    have HBU : Hid (Below W.heap.size W ((((y.setCell ⟨W.heap.size, 30, none⟩ (.slice (some ⟨y.heap.size, 0, none⟩) 1 1)).setCell ⟨W.heap.size, 5, none⟩ (.int .u64 (IntKind.u64.wrap (1024 - IntKind.u64.wrap imm)))).alloc (.cells #[.int .i64 23, .int .i64 rd, .int .i64 5, .int .i64 rs2, .int .i64 imm] 33)).alloc (.cells #[.int .i64 8, .int .i64 4, .int .i64 1] 3))) := (HB0.out.trans (tt.below HB0.out.size fun j e => by omega)).trans (bu.mono (by rw [sy]; exact HB0.out.size))
    have HI : Hid (InsnsIn ((((y.setCell ⟨W.heap.size, 30, none⟩ (.slice (some ⟨y.heap.size, 0, none⟩) 1 1)).setCell ⟨W.heap.size, 5, none⟩ (.int .u64 (IntKind.u64.wrap (1024 - IntKind.u64.wrap imm)))).alloc (.cells #[.int .i64 23, .int .i64 rd, .int .i64 5, .int .i64 rs2, .int .i64 imm] 33)).alloc (.cells #[.int .i64 8, .int .i64 4, .int .i64 1] 3)) (some ⟨y.heap.size, 0, none⟩) 1 [⟨23, rd, 5, rs2, imm⟩]) := ⟨rfl, .inr ⟨y.heap.size, 0, rfl, lt_of_heap n0, fun i hi => by
      obtain rfl : i = 0 := by omega
      refine ⟨?_, ?_, ?_, ?_, ?_⟩ <;> (rw [C.cell_at n0]; rfl)⟩⟩
    clear t1 t2 tt sy bu n0 n1 k0 k1 k2 k3 k4 j30 j5 f30 f5 HE0 HE1
    generalize ((((y.setCell ⟨W.heap.size, 30, none⟩ (.slice (some ⟨y.heap.size, 0, none⟩) 1 1)).setCell ⟨W.heap.size, 5, none⟩ (.int .u64 (IntKind.u64.wrap (1024 - IntKind.u64.wrap imm)))).alloc (.cells #[.int .i64 23, .int .i64 rd, .int .i64 5, .int .i64 rs2, .int .i64 imm] 33)).alloc (.cells #[.int .i64 8, .int .i64 4, .int .i64 1] 3)) = u at *
    generalize y.heap.size = k at *
    have hx5 : C.U (IntKind.u64.wrap (1024 - IntKind.u64.wrap imm)) := wrapU _
    obtain ⟨x5, hx⟩ : ∃ x5, (IntKind.u64.wrap (1024 - IntKind.u64.wrap imm)) = x5 := ⟨_, rfl⟩
    rw [hx] at hx5
    have HAu : Hid (u.heap[W.heap.size]? = some (.cells (likC X x5 k pa pN pC) 31 (0, 0))) := by rw [← hx]; exact HA.out
    have C2 := lik_begin u (HZ.out.below HBU.out) X x5 k pa pN pC ps 23 rd rs2 imm HI.out (HP.out.below rfl HBU.out) hpC hpM
    rw [haw] at C2
    clear HA HI
    go_wp2_with (first
      | refine wpList_load_row rfl 31 _ rfl W.heap.size rfl 31 (likC X x5 k pa pN pC) (0, 0) _ HAu.out hu31 rfl inf31 ?_
      | fail)
    refine C2.mono ?_
    rintro e x1 ⟨W1, b, g, c, h, F, G, B', Q, rfl, md, bW⟩
    generalize Value.agg (likC X x5 k pa pN pC) = g1
    clear C2
    have lA := lt_of_heap HAu.out
    have hW1 : 1 < (u.alloc (.cells (likC X x5 k pa pN pC) 31)).heap.size := by have := HBU.out.size; simp; omega
    have ux : Below u.heap.size u W1 := ((Below.refl _ _).alloc (Nat.le_refl _) _).trans (md.bl.mono (by simp))
    have ow1 := made_ow md hW1 ((HZ.out.below HBU.out).below ux) (likY X x5) (likY_U HXU.out x5 hx5) rfl 0 1 ⟨by decide, by decide⟩ (.inr rfl) (by decide)
    have e1 : W1.heap[1]? = W.heap[1]? := ((ux.block 1 (by have := HBU.out.size; omega)).trans (HBU.out.block 1 h1))
    rw [e1] at ow1
    obtain ⟨o0, o00⟩ := md.o0
    obtain ⟨o1, o2, o3, o4⟩ := md.o1
    obtain ⟨o5, o6⟩ := md.o2
    have o7 := md.o3
    obtain ⟨o8, o9, o10⟩ := md.o4
    have su : u.heap.size < (u.alloc (.cells (likC X x5 k pa pN pC) 31)).heap.size := by simp
    have ow2 := ow1.below bW
    have ub : Below u.heap.size u x1 := ux.trans (bW.mono ux.size)
    obtain ⟨p, hp⟩ : ∃ p : Pl, (⟨0, F, B', b, g, W.heap[1]?⟩ : Pl) = p := ⟨_, rfl⟩
    have hpF : F = p.F := by rw [← hp]
    have hpB : B' = p.B := by rw [← hp]
    have hpM : b = p.M := by rw [← hp]
    have hpg : g = p.g := by rw [← hp]
    have hpo : p.o1 = W.heap[1]? := by rw [← hp]
    rw [hp] at ow2
    have HL : Hid (u.heap.size ≤ p.F ∧ u.heap.size ≤ p.B ∧ u.heap.size ≤ p.M ∧ u.heap.size ≤ p.g) := by rw [← hp]; exact ⟨by show _ ≤ F; omega, by show _ ≤ B'; omega, by show _ ≤ b; omega, by show _ ≤ g; omega⟩
    have zl := likM_len ps pN ⟨23, rd, 5, rs2, imm⟩
    have zw := (likM_word ps pN ⟨23, rd, 5, rs2, imm⟩ v).trans haw
    generalize likM ps pN ⟨23, rd, 5, rs2, imm⟩ = zs at *
    have HO : Hid (Ow x1 p (likS (likY X x5) zs)) := ow2
    have HUB : Hid (Below u.heap.size u x1) := ub
    have cM : x1.cell? ⟨p.B, 0, none⟩ = some (.pointer (some ⟨p.M, 0, none⟩)) := (C.cell_at ow2.fl 0).trans rfl
    have lB := lt_of_heap ow2.fl
    have C3 := mstore_mm p.M p.g zs 1024 8 v x1 ow2.sz ow2.mm (by decide) (by decide) (by decide) HV.out.1 HV.out.2
    have n8 : numE zs.length 1024 8 = 0 := by rw [zl]; decide
    rw [n8] at C3
    have l8 : (storeV zs 1024 8 v).length = 3072 := by rw [storeV_len _ _ _ _ (by decide), zl]
    subst hpF hpB hpM hpg
    clear md ow1 ow2 ux ub bW o0 o00 o1 o2 o3 o4 o5 o6 o7 o8 o9 o10 su e1 hp hW1 lA n8
    go_wp2_with fail
    refine C3.mono ?_
    rintro e x2 ⟨rfl, m2, g2⟩
    have ow3 := HO.out.toM m2 g2
    have HO3 : Hid (Ow x2 p (likS (likY X x5) (storeV zs 1024 8 v))) := ow3
    have A2 : x2.heap[W.heap.size]? = some (.cells (likC X x5 k pa pN pC) 31 (0, 0)) := (C.gr_keep g2 (k := W.heap.size) (lt_of_heap (keepB HAu.out HUB.out)) (by have := HL.out.2.2.2; have := lt_of_heap HAu.out; omega)).trans (keepB HAu.out HUB.out)
    have HA2 : Hid (_) := A2
    have HB2 : Hid (Below W.heap.size W x2) := (HBU.out.trans (HUB.out.mono HBU.out.size)).trans (C.gr_below g2 (by have := HL.out.2.2.2; have := HBU.out.size; omega) (Nat.le_trans HBU.out.size HUB.out.size))
    have HL2 : Hid (W.heap.size < u.heap.size ∧ u.heap.size ≤ x2.heap.size) := ⟨lt_of_heap HAu.out, Nat.le_trans HUB.out.size g2.size⟩
    have HRG : Hid (x2.rangeAt W.heap.size 0 (regC (likY X x5) 0 1).toList) := lik_regs A2
    clear C3 HO m2 g2 cM lB ow3 A2 HUB HAu
    generalize storeV zs 1024 8 v = zt at *
    have rr1 := reg_one (likY X x5) 0 1
    go_upto_region 24 with (first
      | refine wpList_load_mid rfl 25 _ rfl W.heap.size 0 rfl _ _ HRG.out hu25 rfl inf25 ?_
      | refine wpList_store_row rfl 25 _ _ rfl x2.heap.size (regC (likY X x5) 0 1) rfl rfl 25 _ (C.heap_alloc_at x2 _) inf25 rfl rr1 ?_
      | fail)
    simp only [Act.put]
    have nr := fun old => new_row x2 old (regC (likY X x5) 0 1) 25
    generalize hy1 : World.setRow _ _ _ = x3
    obtain ⟨m1, m2, m3⟩ : x3.heap[x2.heap.size]? = some (.cells (regC (likY X x5) 0 1) 25 (0, 0)) ∧ Below x2.heap.size x2 x3 ∧ x3.heap.size = x2.heap.size + 1 := by rw [← hy1]; exact nr _
    have HM : Hid (x3.heap[x2.heap.size]? = some (.cells (regC (likY X x5) 0 1) 25 (0, 0)) ∧ Below x2.heap.size x2 x3 ∧ x3.heap.size = x2.heap.size + 1) := ⟨m1, m2, m3⟩
    clear m1 m2 m3 rr1 nr hy1
    have lr := lt_of_heap HM.out.1
    have HY : Hid (∀ n, n < 16 → C.U (likY X x5 n)) := likY_U HXU.out x5 hx5
    have C4 := fun w => K.decode_any aw H9.out.lo H9.out.hi (likY X x5) 0 1 HY.out w
    obtain ⟨kn, hkn⟩ : ∃ kn : Nat, rs2 = kn := ⟨rs2.toNat, by have := H9.out.r2l; omega⟩
    obtain ⟨dn, hdn⟩ : ∃ dn : Nat, rd = dn := ⟨rd.toNat, by have := H9.out.rdl; omega⟩
    have HKN : Hid (kn ≤ 15 ∧ dn ≤ 15) := ⟨by have := H9.out.r2l; omega, by have := H9.out.rdl; omega⟩
    obtain ⟨sv, hsv⟩ : ∃ sv, K.storedP (likY X x5) kn 8 = sv := ⟨_, rfl⟩
    have HSV : Hid (_) := hsv
    have ed : K.decE aw = 0 := by unfold K.decE; rw [if_pos ⟨H9.out.va, by rw [H9.out.op_]; decide, by rw [H9.out.op_]; decide⟩]
    have ep : (K.decP aw (likY X x5)).arr = #[.bool false, .int .i64 8, .int .i64 dn, .int .u64 0] := by
      unfold K.decP
      rw [if_pos H9.out.va, H9.out.op_, H9.out.rd_, H9.out.r2_]
      unfold K.wantP
      rw [if_neg (by decide), if_pos (by decide), hdn]
      rfl
    rw [ed, ep] at C4
    have X2 : Hid (C.U v) := HV.out
    clear ed ep hsv
    go_wp2_with (first
      | refine wpList_load_row rfl 25 _ rfl x2.heap.size rfl 25 (regC (likY X x5) 0 1) (0, 0) _ HM.out.1 hu25 rfl inf25 ?_
      | fail)
    refine (C4 _).mono ?_
    rintro e x4 ⟨rfl, b4⟩
    clear C4
    have bx := (Below.refl x4.heap.size x4).alloc (Nat.le_refl _) (.cells #[.bool false, .int .i64 8, .int .i64 dn, .int .u64 0] 49)
    have na := C.heap_alloc_at x4 (.cells #[.bool false, .int .i64 8, .int .i64 dn, .int .u64 0] 49)
    have b34 := b4.trans (bx.mono b4.size)
    have b24 : Below x2.heap.size x2 (x4.alloc (.cells #[.bool false, .int .i64 8, .int .i64 dn, .int .u64 0] 49)) := HM.out.2.1.trans (b34.mono (by have := HM.out.2.2; omega))
    have HO4 : Hid (Ow (x4.alloc (.cells #[.bool false, .int .i64 8, .int .i64 dn, .int .u64 0] 49)) p (likS (likY X x5) zt)) := HO3.out.below b24
    have HR4 : Hid (_) := keepB HM.out.1 b34
    have HA4 : Hid (_) := keepB HA2.out b24
    have HN4 : Hid (_) := na
    have HB4 : Hid (_) := HB2.out.trans (b24.mono HB2.out.size)
    have HL4 : Hid (x2.heap.size < x4.heap.size ∧ W.heap.size < x2.heap.size ∧ p.F < x2.heap.size ∧ p.B < x2.heap.size ∧ p.M < x2.heap.size ∧ p.g < x2.heap.size) := by
      obtain ⟨q1, q2, q3, q4⟩ := HO3.out.lt
      have := HM.out.2.2
      have := b4.size
      have := HL2.out
      exact ⟨by omega, by omega, q1, q2, q3, q4⟩
    have n4 : (x4.alloc (.cells #[.bool false, .int .i64 8, .int .i64 dn, .int .u64 0] 49)).heap.size = x4.heap.size + 1 := by simp
    clear bx na b34 b24 b4 HRG HM HO3 HA2 HB2 lr
    go_upto_region 25 with fail
    generalize x4.alloc (.cells #[.bool false, .int .i64 8, .int .i64 dn, .int .u64 0] 49) = x5' at *
    generalize x4.heap.size = N at *
    generalize x2.heap.size = rb at *
    have HN5 : Hid (x5'.heap.size = N + 1) := n4
    clear n4
    have d0 : x5'.cell? ⟨N, 0, none⟩ = some (.bool false) := (C.cell_at HN4.out 0).trans rfl
    have d1 : x5'.cell? ⟨N, 1, none⟩ = some (.int .i64 8) := (C.cell_at HN4.out 1).trans rfl
    have lN := lt_of_heap HN4.out
    have cM : x5'.cell? ⟨p.B, 0, none⟩ = some (.pointer (some ⟨p.M, 0, none⟩)) := (C.cell_at HO4.out.fl 0).trans rfl
    have lB := lt_of_heap HO4.out.fl
    have C5 := mload_mm p.M p.g zt 1024 8 x5' HO4.out.sz HO4.out.mm (by decide) (by decide) (by decide)
    have nw : numE zt.length 1024 8 = 0 := by rw [l8]; decide
    rw [nw] at C5
    obtain ⟨was, hwas⟩ : ∃ was, loadV zt 1024 8 = was := ⟨_, rfl⟩
    rw [hwas] at C5
    have HW : Hid (_) := hwas
    clear hwas nw
    go_wp2_with fail
    refine C5.mono ?_
    rintro e x6 ⟨rfl, b6⟩
    clear C5 d0 d1 cM lB lN
    have HO6 : Hid (_) := HO4.out.below b6
    have HR6 : Hid (_) := keepB HR4.out b6
    have HA6 : Hid (_) := keepB HA4.out b6
    have HN6 : Hid (_) := keepB HN4.out b6
    have HB6 : Hid (_) := HB4.out.trans (b6.mono HB4.out.size)
    have HS6 : Hid (N < x6.heap.size) := by have := b6.size; have := HN5.out; exact (by omega : N < x6.heap.size)
    clear HO4 HR4 HA4 HN4 HB4 b6
    have hOr : Ow.Off p rb := ⟨by have := HL4.out; omega, by have := HL4.out; omega, by have := HL4.out; omega, by have := HL4.out; omega, by have := HL4.out; have := HO6.out.F1; omega⟩
    have dp := lik_one zt (likY X x5) 23 rd rs2 imm aw H9.out (by decide) l8 zw (by show x5 = _; exact hx.symm)
    have ST := step_of p (likS (likY X x5) zt) (likY X x5) (fun _ _ _ => rfl) rb hOr _ (fun S => do_hw { p with S := S } TB (HT.out _ hpo) _ (.inr rfl)) x6 HO6.out HR6.out
    rw [dp] at ST
    clear dp hOr HR6
    go_wp2_with fail
    refine ST.mono ?_
    rintro e x7 ⟨rfl, o7, r7, t7⟩
    have q := HL4.out
    have q2 := HS6.out
    have q3 := HL.out
    have q4 := HL2.out
    have HO7 : Hid (_) := o7
    have HR7 : Hid (x7.heap[rb]? = some (.cells (regC (likX (likY X x5) zt 23 rd) 4 1) 25 (0, 0))) := r7
    have HA7 : Hid (_) := (t7.block _ (lt_of_heap HA6.out) (by omega) (by omega) (by omega) (by omega)).trans HA6.out
    have HN7 : Hid (_) := (t7.block _ (lt_of_heap HN6.out) (by omega) (by omega) (by omega) (by omega)).trans HN6.out
    have HB7 : Hid (Below W.heap.size W x7) := ts_below HB6.out t7 (by omega) (by have := HL.out; have := HL2.out; omega) (by have := HL.out; have := HL2.out; omega) (by have := HL.out; have := HL2.out; omega)
    have hby := HO6.out.mm.bytes
    have hwas := HW.out
    have HWU : Hid (0 ≤ was ∧ was < 18446744073709551616) := by have q := load_U zt hby 1024 8 (by decide); rw [hwas] at q; exact q
    have EQ : K.finX (likY X x5) false 8 dn was = likX (likY X x5) zt 23 rd := by
      unfold K.finX likX
      rw [if_pos (show (23 : Int) ≤ 25 by decide)]
      have hd15 := HKN.out.2
      by_cases hd : dn = 0
      · rw [if_neg (show ¬(false = false ∧ 1 ≤ (dn : Int) ∧ (dn : Int) ≤ 15) from fun h => by have := h.2.1; omega), if_pos (show rd.toNat = 0 by omega)]
      · rw [if_pos (show false = false ∧ 1 ≤ (dn : Int) ∧ (dn : Int) ≤ 15 from ⟨rfl, by omega, by omega⟩), if_neg (show ¬rd.toNat = 0 by omega)]
        rw [← hwas, ld_back zt hby l8 8 (by decide), hdn]
        rfl
    have HEQ : Hid (_) := EQ
    clear ST o7 r7 t7 q q2 q3 q4 HO6 HA6 HN6 HB6 EQ hby hwas
    dsimp only [Rs.val, resV, Rs.ok]
    have EN := eq_none
    have bx8 := (Below.refl x7.heap.size x7).alloc (Nat.le_refl _) (.cells #[.int .i64 0, .int .i64 0, .int .u64 0, .int .u64 0, .bool false, .bool false] 57)
    have n8' := C.heap_alloc_at x7 (.cells #[.int .i64 0, .int .i64 0, .int .u64 0, .int .u64 0, .bool false, .bool false] 57)
    have HO8 : Hid (_) := HO7.out.below bx8
    have HR8 : Hid (_) := keepB HR7.out bx8
    have HA8 : Hid (_) := keepB HA7.out bx8
    have HN8 : Hid (_) := keepB HN7.out bx8
    have HB8 : Hid (_) := HB7.out.trans (bx8.mono HB7.out.size)
    clear HO7 HR7 HA7 HN7 HB7 bx8 n8'
    go_upto_region 31 with (first
      | (refine wpList_neq_agg (by rfl) 57 _ _ rfl #[.int .i64 0, .int .i64 0, .int .u64 0, .int .u64 0, .bool false, .bool false] #[.int .i64 0, .int .i64 0, .int .u64 0, .int .u64 0, .bool false, .bool false] rfl rfl (by kernel_rfl) true (EN _) ?_
         simp only [Act.put, Bool.not_true])
      | fail)
    generalize x7.alloc (.cells #[.int .i64 0, .int .i64 0, .int .u64 0, .int .u64 0, .bool false, .bool false] 57) = x8 at *
    generalize x7.heap.size = T8 at *
    have hwu : 0 ≤ was ∧ was < 18446744073709551616 := HWU.out
    have hne := K.above_here x8
    have hab : ∀ (s : K.Above x8) b o, b < x8.heap.size → s.wld.cell? ⟨b, o, none⟩ = x8.cell? ⟨b, o, none⟩ := fun s b o h => s.bel.cell (p := ⟨b, o, none⟩) h
    have hsz : ∀ (s : K.Above x8) b, b < x8.heap.size → b < s.wld.heap.size := fun s b h => Nat.lt_of_lt_of_le h s.bel.size
    have E1 : ∀ s : K.Above x8, Calls Tryz.prog 11 #[.agg (regC (likY X x5) 0 1), .agg #[.bool false, .int .i64 8, .int .i64 dn, .int .u64 0], .int .u64 was] s.wld fun r w' => r = .returned (.agg (regC (likX (likY X x5) zt 23 rd) 4 1)) ∧ Below s.wld.heap.size s.wld w' := fun s => by
      have h := K.finish_any (likY X x5) 0 1 false 8 dn 0 was hwu.1 hwu.2 s.wld (HO8.out.sz.below s.bel)
      rw [HEQ.out] at h
      exact h
    have HQ1 : Hid (∀ s : K.Above x8, s.wld.rangeAt W.heap.size 0 (regC (likY X x5) 0 1).toList) := fun s => lik_regs (keepB HA8.out s.bel)
    have HQ2 : Hid (∀ s : K.Above x8, s.wld.rangeAt N 0 (#[.bool false, .int .i64 8, .int .i64 dn, .int .u64 0] : Array Value).toList) := fun s => K.range_of (keepB HN8.out s.bel)
    have HQ3 : Hid (∀ s : K.Above x8, s.wld.rangeAt rb 0 (regC (likX (likY X x5) zt 23 rd) 4 1).toList) := fun s => K.range_of (keepB HR8.out s.bel)
    have ER := eq_regs (regC (likX (likY X x5) zt 23 rd) 4 1) (likX (likY X x5) zt 23 rd) 4 1 (fun n hn => K.regC_at _ _ _ n hn) rfl rfl
    have hrl : (regC (likX (likY X x5) zt 23 rd) 4 1).toList.length = 18 := rfl
    generalize regC (likX (likY X x5) zt 23 rd) 4 1 = rc at *
    refine K.wp_region_above (by kernel_rfl) (by kernel_rfl) ?_
    repeat (first
      | go_big_quiet_skip
      | (go_big_quiet_want; refine K.quiet_load 25 _ rfl W.heap.size 0 rfl (regC (likY X x5) 0 1).toList _ (fun w' ⟨s, hs⟩ => by rw [hs]; exact HQ1.out s) hu25 rfl inf25 ?_; simp only [Act.put, List.setIfInBounds_toArray, List.set_cons_zero, List.set_cons_succ]; go_big_quiet_on)
      | (go_big_quiet_want; refine K.quiet_load 49 _ rfl N 0 rfl (#[.bool false, .int .i64 8, .int .i64 dn, .int .u64 0] : Array Value).toList _ (fun w' ⟨s, hs⟩ => by rw [hs]; exact HQ2.out s) Tryz.underlying49 rfl (by kernel_rfl) ?_; simp only [Act.put, List.setIfInBounds_toArray, List.set_cons_zero, List.set_cons_succ]; go_big_quiet_on)
      | (go_big_quiet_want; refine K.quiet_load 25 _ rfl rb 0 rfl rc.toList _ (fun w' ⟨s, hs⟩ => by rw [hs]; exact HQ3.out s) hu25 rfl (by rw [hrl]; exact inf25) ?_; simp only [Act.put, List.setIfInBounds_toArray, List.set_cons_zero, List.set_cons_succ]; go_big_quiet_on)
      | (go_big_quiet_want; refine K.quiet_neq 25 _ _ rfl rc rc rfl rfl (by kernel_rfl) true ER ?_; simp only [Act.put, Bool.not_true, List.setIfInBounds_toArray, List.set_cons_zero, List.set_cons_succ]; go_big_quiet_on)
      | (go_big_quiet_want; go_big_quiet_op; go_big_quiet_on)
      | (go_big_quiet_want; go_big_quiet_op; apply Exists.intro; refine ⟨fun s => ?_, ?_⟩; exact K.above_call s (E1 s); go_big_quiet_on))
    refine wpQuiet_nil ?_
    rintro _ ⟨s, rfl⟩
    have HO9 : Hid (Ow s.wld p (likT (likY X x5) zt 23 rd rs2 imm aw)) := HO8.out.below s.bel
    have HN9 : Hid (_) := keepB HN8.out s.bel
    have HB9 : Hid (_) := HB8.out.trans (s.bel.mono HB8.out.size)
    clear HO8 HR8 HA8 HN8 HB8 E1 HQ1 HQ2 HQ3 ER hrl hab hsz hne HEQ
    generalize s.wld = x9 at *
    clear s
    have cM : x9.cell? ⟨p.B, 0, none⟩ = some (.pointer (some ⟨p.M, 0, none⟩)) := (C.cell_at HO9.out.fl 0).trans rfl
    have lB := lt_of_heap HO9.out.fl
    have C6 := mload_mm p.M p.g (likZ (likY X x5) zt 23 rs2) 1024 8 x9 HO9.out.sz HO9.out.mm (by decide) (by decide) (by decide)
    have nw : numE (likZ (likY X x5) zt 23 rs2).length 1024 8 = 0 := by
      unfold likZ
      rw [if_pos (by decide)]
      rw [l8]
      decide
    rw [nw] at C6
    have HNOW : Hid (loadV (likZ (likY X x5) zt 23 rs2) 1024 8 = was) := by
      unfold likZ
      rw [if_pos (by decide)]
      exact HW.out
    rw [HNOW.out] at C6
    clear HNOW
    clear nw
    go_wp2_with fail
    refine C6.mono ?_
    rintro e xA ⟨rfl, bA⟩
    clear C6 cM lB
    have HNA : Hid (_) := keepB HN9.out bA
    have HBA : Hid (_) := HB9.out.trans (bA.mono HB9.out.size)
    have C7 := C.get_ff p.F zeroR 0 (by decide) xA (HO9.out.below bA).ff
    have d0 : xA.cell? ⟨N, 0, none⟩ = some (.bool false) := (C.cell_at HNA.out 0).trans rfl
    have d3 : xA.cell? ⟨N, 3, none⟩ = some (.int .u64 0) := (C.cell_at HNA.out 3).trans rfl
    have lN := lt_of_heap HNA.out
    clear HO9 HN9 HB9 bA
    clear C7
    go_wp2_with fail
    go_ret
    exact ⟨rfl, HBA.out⟩
  · have he2 : (I.encE 23 rd 5 rs2 imm == 0) = false := beq_false_of_ne he
    have he3 : (I.encE 23 rd 5 rs2 imm != 0) = true := by rw [bne_iff_ne]; exact he
    clear k0 k1 k2 k3 k4 j30 j5 f30 f5 HE0 HE1
    go_wp2_with fail
    refine (skip_zero _).mono ?_
    rintro e y2 ⟨rfl, b2⟩
    have HE : Hid (_) := HB0.out.trans (b2.mono HB0.out.size)
    clear b2
    go_wp2_with fail
    rw [field_pc]
    simp only [Result.andThen_ok, Oper.upon_value]
    go_wp2_with fail
    go_ret
    exact ⟨rfl, HE.out⟩
end Go.Proofs.YtkckobbedpccfaaGreatDoor
namespace Go.Proofs.YtkckobbedpccfaaGreatDoor
open Go.RowKit
set_option linter.unusedVariables false
set_option maxRecDepth 100000
set_option maxHeartbeats 16000000 in
theorem lik_24 [E.Bits] {W : World} {cs : Array Value} {X R : Nat → Int} {pc mode sec : Int} {B off : Nat} {pa : Option Addr} {iC pN pC : Nat} {vw : Value} (hG : Looks cs X R pc mode sec (.slice (some ⟨B, off, none⟩) 1 iC) vw (.slice pa pN pC)) {rd rs1 rs2 imm : Int} (hB : B < W.heap.size) (c0 : W.cell? ⟨B, off, none⟩ = some (.int .i64 24)) (c1 : W.cell? ⟨B, off + 1, none⟩ = some (.int .i64 rd)) (c2 : W.cell? ⟨B, off + 2, none⟩ = some (.int .i64 rs1)) (c3 : W.cell? ⟨B, off + 3, none⟩ = some (.int .i64 rs2)) (c4 : W.cell? ⟨B, off + 4, none⟩ = some (.int .i64 imm)) {ps : List (Int × Int)} (hp : PokesIn W pa pN ps) (hpC : pN ≤ pC) (hpM : pC ≤ 9223372036854775807) (v : Int) (hv : C.U v) (hz : SZ W) (h1 : 1 < W.heap.size) (hT : ∀ p : Pl, p.o1 = W.heap[1]? → TransOK p TB) : Calls Tryz.prog 3 #[.agg cs, .int .u64 v] W fun e W' => e = .returned (.bool true) ∧ Below W.heap.size W W' := by
  obtain ⟨fs31, hu31⟩ := und31
  obtain ⟨fs25, hu25⟩ := und25
  have HXU : Hid (∀ n, n < 16 → C.U (X n)) := hG.hX
  rw [given_lit hG]
  unfold stCells
  have HP : Hid (PokesIn W pa pN ps) := hp
  have HZ : Hid (SZ W) := hz
  have HT : Hid (_) := hT
  have HV : Hid (C.U v) := hv
  have C1 := I.rencode_any 24 rd 5 rs2 imm
  unfold I.ins at C1
  clear hG hp hz hT hv
  go_enter Tryz.func3, Tryz.ntmps3
  go_wp2_with fail
  refine (C1 _).mono ?_
  rintro e y ⟨rfl, b1⟩
  clear C1
  generalize Value.agg #[.int .u64 (X 0), .int .u64 (X 1), .int .u64 (X 2), .int .u64 (X 3), .int .u64 (X 4), .int .u64 (X 5), .int .u64 (X 6), .int .u64 (X 7), .int .u64 (X 8), .int .u64 (X 9), .int .u64 (X 10), .int .u64 (X 11), .int .u64 (X 12), .int .u64 (X 13), .int .u64 (X 14), .int .u64 (X 15), .int .u64 pc, .int .i64 mode, .int .u64 (R 0), .int .u64 (R 1), .int .u64 (R 2), .int .u64 (R 3), .int .u64 (R 4), .int .u64 (R 5), .int .u64 (R 6), .int .u64 (R 7), .int .u64 (R 8), .int .u64 (R 9), .int .u64 (R 10), .int .u64 (R 11), .slice (some ⟨B, off, none⟩) 1 iC, vw, .slice pa pN pC, .int .i64 sec] = g0
  have b0 : Below W.heap.size W y := (((Below.refl _ _).alloc (Nat.le_refl _) _).alloc (by simp) _).trans (b1.mono (by simp <;> omega))
  obtain ⟨z1, a0, a1⟩ := two_at W (.cells #[.int .u64 0, .int .u64 (X 1), .int .u64 (X 2), .int .u64 (X 3), .int .u64 (X 4), .int .u64 (X 5), .int .u64 (X 6), .int .u64 (X 7), .int .u64 (X 8), .int .u64 (X 9), .int .u64 (X 10), .int .u64 (X 11), .int .u64 (X 12), .int .u64 (X 13), .int .u64 (X 14), .int .u64 (X 15), .int .u64 0, .int .i64 1, .int .u64 0, .int .u64 0, .int .u64 0, .int .u64 0, .int .u64 0, .int .u64 0, .int .u64 0, .int .u64 0, .int .u64 0, .int .u64 0, .int .u64 0, .int .u64 0, .slice (some ⟨B, off, none⟩) 1 iC, .slice none 0 0, .slice pa pN pC, .int .i64 (-1)] 31) (.cells #[.int .i64 24, .int .i64 rd, .int .i64 5, .int .i64 rs2, .int .i64 imm] 33)
  have e0 := keepB a0 b1
  have e1 := keepB a1 b1
  have HB0 : Hid (_) := b0
  have HE0 : Hid (_) := e0
  have HE1 : Hid (_) := e1
  have k0 : y.cell? ⟨W.heap.size + 1, 0, none⟩ = some (.int .i64 24) := (C.cell_at e1 0).trans rfl
  have k1 : y.cell? ⟨W.heap.size + 1, 1, none⟩ = some (.int .i64 rd) := (C.cell_at e1 1).trans rfl
  have k2 : y.cell? ⟨W.heap.size + 1, 2, none⟩ = some (.int .i64 5) := (C.cell_at e1 2).trans rfl
  have k3 : y.cell? ⟨W.heap.size + 1, 3, none⟩ = some (.int .i64 rs2) := (C.cell_at e1 3).trans rfl
  have k4 : y.cell? ⟨W.heap.size + 1, 4, none⟩ = some (.int .i64 imm) := (C.cell_at e1 4).trans rfl
  have j30 : y.cell? ⟨W.heap.size, 30, none⟩ = some (.slice (some ⟨B, off, none⟩) 1 iC) := (C.cell_at e0 30).trans rfl
  have j5 : y.cell? ⟨W.heap.size, 5, none⟩ = some (.int .u64 (X 5)) := (C.cell_at e0 5).trans rfl
  have f30 := K.fz_at e0 30
  have f5 := K.fz_at e0 5
  have l0 := lt_of_heap e0
  have l1 := lt_of_heap e1
  clear b0 b1 z1 a0 a1 e0 e1 c0 c1 c2 c3 c4
  by_cases he : I.encE 24 rd 5 rs2 imm = 0
  · have h9 := ins9_of (op := 24) (by decide) he
    have H9 : Hid (_) := h9
    rw [he]
    clear he h9
    obtain ⟨aw, haw⟩ : ∃ aw, I.encW 24 rd 5 rs2 imm = aw := ⟨_, rfl⟩
    rw [haw] at H9 ⊢
    go_upto_region 18 with fail
    have t1 := K.heap_setCell HE0.out 30 (.slice (some ⟨y.heap.size, 0, none⟩) 1 1)
    have t2 := K.heap_setCell t1 5 (.int .u64 (IntKind.u64.wrap (1024 - IntKind.u64.wrap imm)))
    have tt := (K.trn_set1 HE0.out 30 (.slice (some ⟨y.heap.size, 0, none⟩) 1 1)).trans (K.trn_set1 t1 5 (.int .u64 (IntKind.u64.wrap (1024 - IntKind.u64.wrap imm))))
    have sy : ((y.setCell ⟨W.heap.size, 30, none⟩ (.slice (some ⟨y.heap.size, 0, none⟩) 1 1)).setCell ⟨W.heap.size, 5, none⟩ (.int .u64 (IntKind.u64.wrap (1024 - IntKind.u64.wrap imm)))).heap.size = y.heap.size := by simp
    obtain ⟨bu, n0, n1⟩ := two_at ((y.setCell ⟨W.heap.size, 30, none⟩ (.slice (some ⟨y.heap.size, 0, none⟩) 1 1)).setCell ⟨W.heap.size, 5, none⟩ (.int .u64 (IntKind.u64.wrap (1024 - IntKind.u64.wrap imm)))) (.cells #[.int .i64 24, .int .i64 rd, .int .i64 5, .int .i64 rs2, .int .i64 imm] 33) (.cells #[.int .i64 8, .int .i64 4, .int .i64 1] 3)
    rw [sy] at n0
    have HA : Hid (((((y.setCell ⟨W.heap.size, 30, none⟩ (.slice (some ⟨y.heap.size, 0, none⟩) 1 1)).setCell ⟨W.heap.size, 5, none⟩ (.int .u64 (IntKind.u64.wrap (1024 - IntKind.u64.wrap imm)))).alloc (.cells #[.int .i64 24, .int .i64 rd, .int .i64 5, .int .i64 rs2, .int .i64 imm] 33)).alloc (.cells #[.int .i64 8, .int .i64 4, .int .i64 1] 3)).heap[W.heap.size]? = some (.cells (likC X (IntKind.u64.wrap (1024 - IntKind.u64.wrap imm)) y.heap.size pa pN pC) 31 (0, 0))) := keepB (t2.trans rfl) bu
    have HBU : Hid (Below W.heap.size W ((((y.setCell ⟨W.heap.size, 30, none⟩ (.slice (some ⟨y.heap.size, 0, none⟩) 1 1)).setCell ⟨W.heap.size, 5, none⟩ (.int .u64 (IntKind.u64.wrap (1024 - IntKind.u64.wrap imm)))).alloc (.cells #[.int .i64 24, .int .i64 rd, .int .i64 5, .int .i64 rs2, .int .i64 imm] 33)).alloc (.cells #[.int .i64 8, .int .i64 4, .int .i64 1] 3))) := (HB0.out.trans (tt.below HB0.out.size fun j e => by omega)).trans (bu.mono (by rw [sy]; exact HB0.out.size))
    have HI : Hid (InsnsIn ((((y.setCell ⟨W.heap.size, 30, none⟩ (.slice (some ⟨y.heap.size, 0, none⟩) 1 1)).setCell ⟨W.heap.size, 5, none⟩ (.int .u64 (IntKind.u64.wrap (1024 - IntKind.u64.wrap imm)))).alloc (.cells #[.int .i64 24, .int .i64 rd, .int .i64 5, .int .i64 rs2, .int .i64 imm] 33)).alloc (.cells #[.int .i64 8, .int .i64 4, .int .i64 1] 3)) (some ⟨y.heap.size, 0, none⟩) 1 [⟨24, rd, 5, rs2, imm⟩]) := ⟨rfl, .inr ⟨y.heap.size, 0, rfl, lt_of_heap n0, fun i hi => by
      obtain rfl : i = 0 := by omega
      refine ⟨?_, ?_, ?_, ?_, ?_⟩ <;> (rw [C.cell_at n0]; rfl)⟩⟩
    clear t1 t2 tt sy bu n0 n1 k0 k1 k2 k3 k4 j30 j5 f30 f5 HE0 HE1
    generalize ((((y.setCell ⟨W.heap.size, 30, none⟩ (.slice (some ⟨y.heap.size, 0, none⟩) 1 1)).setCell ⟨W.heap.size, 5, none⟩ (.int .u64 (IntKind.u64.wrap (1024 - IntKind.u64.wrap imm)))).alloc (.cells #[.int .i64 24, .int .i64 rd, .int .i64 5, .int .i64 rs2, .int .i64 imm] 33)).alloc (.cells #[.int .i64 8, .int .i64 4, .int .i64 1] 3)) = u at *
    generalize y.heap.size = k at *
    have hx5 : C.U (IntKind.u64.wrap (1024 - IntKind.u64.wrap imm)) := wrapU _
    obtain ⟨x5, hx⟩ : ∃ x5, (IntKind.u64.wrap (1024 - IntKind.u64.wrap imm)) = x5 := ⟨_, rfl⟩
    rw [hx] at hx5
    have HAu : Hid (u.heap[W.heap.size]? = some (.cells (likC X x5 k pa pN pC) 31 (0, 0))) := by rw [← hx]; exact HA.out
    have C2 := lik_begin u (HZ.out.below HBU.out) X x5 k pa pN pC ps 24 rd rs2 imm HI.out (HP.out.below rfl HBU.out) hpC hpM
    rw [haw] at C2
    clear HA HI
    go_wp2_with (first
      | refine wpList_load_row rfl 31 _ rfl W.heap.size rfl 31 (likC X x5 k pa pN pC) (0, 0) _ HAu.out hu31 rfl inf31 ?_
      | fail)
    refine C2.mono ?_
    rintro e x1 ⟨W1, b, g, c, h, F, G, B', Q, rfl, md, bW⟩
    generalize Value.agg (likC X x5 k pa pN pC) = g1
    clear C2
    have lA := lt_of_heap HAu.out
    have hW1 : 1 < (u.alloc (.cells (likC X x5 k pa pN pC) 31)).heap.size := by have := HBU.out.size; simp; omega
    have ux : Below u.heap.size u W1 := ((Below.refl _ _).alloc (Nat.le_refl _) _).trans (md.bl.mono (by simp))
    have ow1 := made_ow md hW1 ((HZ.out.below HBU.out).below ux) (likY X x5) (likY_U HXU.out x5 hx5) rfl 0 1 ⟨by decide, by decide⟩ (.inr rfl) (by decide)
    have e1 : W1.heap[1]? = W.heap[1]? := ((ux.block 1 (by have := HBU.out.size; omega)).trans (HBU.out.block 1 h1))
    rw [e1] at ow1
    obtain ⟨o0, o00⟩ := md.o0
    obtain ⟨o1, o2, o3, o4⟩ := md.o1
    obtain ⟨o5, o6⟩ := md.o2
    have o7 := md.o3
    obtain ⟨o8, o9, o10⟩ := md.o4
    have su : u.heap.size < (u.alloc (.cells (likC X x5 k pa pN pC) 31)).heap.size := by simp
    have ow2 := ow1.below bW
    have ub : Below u.heap.size u x1 := ux.trans (bW.mono ux.size)
    obtain ⟨p, hp⟩ : ∃ p : Pl, (⟨0, F, B', b, g, W.heap[1]?⟩ : Pl) = p := ⟨_, rfl⟩
    have hpF : F = p.F := by rw [← hp]
    have hpB : B' = p.B := by rw [← hp]
    have hpM : b = p.M := by rw [← hp]
    have hpg : g = p.g := by rw [← hp]
    have hpo : p.o1 = W.heap[1]? := by rw [← hp]
    rw [hp] at ow2
    have HL : Hid (u.heap.size ≤ p.F ∧ u.heap.size ≤ p.B ∧ u.heap.size ≤ p.M ∧ u.heap.size ≤ p.g) := by rw [← hp]; exact ⟨by show _ ≤ F; omega, by show _ ≤ B'; omega, by show _ ≤ b; omega, by show _ ≤ g; omega⟩
    have zl := likM_len ps pN ⟨24, rd, 5, rs2, imm⟩
    have zw := (likM_word ps pN ⟨24, rd, 5, rs2, imm⟩ v).trans haw
    generalize likM ps pN ⟨24, rd, 5, rs2, imm⟩ = zs at *
    have HO : Hid (Ow x1 p (likS (likY X x5) zs)) := ow2
    have HUB : Hid (Below u.heap.size u x1) := ub
    have cM : x1.cell? ⟨p.B, 0, none⟩ = some (.pointer (some ⟨p.M, 0, none⟩)) := (C.cell_at ow2.fl 0).trans rfl
    have lB := lt_of_heap ow2.fl
    have C3 := mstore_mm p.M p.g zs 1024 8 v x1 ow2.sz ow2.mm (by decide) (by decide) (by decide) HV.out.1 HV.out.2
    have n8 : numE zs.length 1024 8 = 0 := by rw [zl]; decide
    rw [n8] at C3
    have l8 : (storeV zs 1024 8 v).length = 3072 := by rw [storeV_len _ _ _ _ (by decide), zl]
    subst hpF hpB hpM hpg
    clear md ow1 ow2 ux ub bW o0 o00 o1 o2 o3 o4 o5 o6 o7 o8 o9 o10 su e1 hp hW1 lA n8
    go_wp2_with fail
    refine C3.mono ?_
    rintro e x2 ⟨rfl, m2, g2⟩
    have ow3 := HO.out.toM m2 g2
    have HO3 : Hid (Ow x2 p (likS (likY X x5) (storeV zs 1024 8 v))) := ow3
    have A2 : x2.heap[W.heap.size]? = some (.cells (likC X x5 k pa pN pC) 31 (0, 0)) := (C.gr_keep g2 (k := W.heap.size) (lt_of_heap (keepB HAu.out HUB.out)) (by have := HL.out.2.2.2; have := lt_of_heap HAu.out; omega)).trans (keepB HAu.out HUB.out)
    have HA2 : Hid (_) := A2
    have HB2 : Hid (Below W.heap.size W x2) := (HBU.out.trans (HUB.out.mono HBU.out.size)).trans (C.gr_below g2 (by have := HL.out.2.2.2; have := HBU.out.size; omega) (Nat.le_trans HBU.out.size HUB.out.size))
    have HL2 : Hid (W.heap.size < u.heap.size ∧ u.heap.size ≤ x2.heap.size) := ⟨lt_of_heap HAu.out, Nat.le_trans HUB.out.size g2.size⟩
    have HRG : Hid (x2.rangeAt W.heap.size 0 (regC (likY X x5) 0 1).toList) := lik_regs A2
    clear C3 HO m2 g2 cM lB ow3 A2 HUB HAu
    generalize storeV zs 1024 8 v = zt at *
    have rr1 := reg_one (likY X x5) 0 1
    go_upto_region 24 with (first
      | refine wpList_load_mid rfl 25 _ rfl W.heap.size 0 rfl _ _ HRG.out hu25 rfl inf25 ?_
      | refine wpList_store_row rfl 25 _ _ rfl x2.heap.size (regC (likY X x5) 0 1) rfl rfl 25 _ (C.heap_alloc_at x2 _) inf25 rfl rr1 ?_
      | fail)
    simp only [Act.put]
    have nr := fun old => new_row x2 old (regC (likY X x5) 0 1) 25
    generalize hy1 : World.setRow _ _ _ = x3
    obtain ⟨m1, m2, m3⟩ : x3.heap[x2.heap.size]? = some (.cells (regC (likY X x5) 0 1) 25 (0, 0)) ∧ Below x2.heap.size x2 x3 ∧ x3.heap.size = x2.heap.size + 1 := by rw [← hy1]; exact nr _
    have HM : Hid (x3.heap[x2.heap.size]? = some (.cells (regC (likY X x5) 0 1) 25 (0, 0)) ∧ Below x2.heap.size x2 x3 ∧ x3.heap.size = x2.heap.size + 1) := ⟨m1, m2, m3⟩
    clear m1 m2 m3 rr1 nr hy1
    have lr := lt_of_heap HM.out.1
    have HY : Hid (∀ n, n < 16 → C.U (likY X x5 n)) := likY_U HXU.out x5 hx5
    have C4 := fun w => K.decode_any aw H9.out.lo H9.out.hi (likY X x5) 0 1 HY.out w
    obtain ⟨kn, hkn⟩ : ∃ kn : Nat, rs2 = kn := ⟨rs2.toNat, by have := H9.out.r2l; omega⟩
    obtain ⟨dn, hdn⟩ : ∃ dn : Nat, rd = dn := ⟨rd.toNat, by have := H9.out.rdl; omega⟩
    have HKN : Hid (kn ≤ 15 ∧ dn ≤ 15) := ⟨by have := H9.out.r2l; omega, by have := H9.out.rdl; omega⟩
    obtain ⟨sv, hsv⟩ : ∃ sv, K.storedP (likY X x5) kn 4 = sv := ⟨_, rfl⟩
    have HSV : Hid (_) := hsv
    have ed : K.decE aw = 0 := by unfold K.decE; rw [if_pos ⟨H9.out.va, by rw [H9.out.op_]; decide, by rw [H9.out.op_]; decide⟩]
    have ep : (K.decP aw (likY X x5)).arr = #[.bool false, .int .i64 4, .int .i64 dn, .int .u64 0] := by
      unfold K.decP
      rw [if_pos H9.out.va, H9.out.op_, H9.out.rd_, H9.out.r2_]
      unfold K.wantP
      rw [if_neg (by decide), if_pos (by decide), hdn]
      rfl
    rw [ed, ep] at C4
    have X2 : Hid (C.U v) := HV.out
    clear ed ep hsv
    go_wp2_with (first
      | refine wpList_load_row rfl 25 _ rfl x2.heap.size rfl 25 (regC (likY X x5) 0 1) (0, 0) _ HM.out.1 hu25 rfl inf25 ?_
      | fail)
    refine (C4 _).mono ?_
    rintro e x4 ⟨rfl, b4⟩
    clear C4
    have bx := (Below.refl x4.heap.size x4).alloc (Nat.le_refl _) (.cells #[.bool false, .int .i64 4, .int .i64 dn, .int .u64 0] 49)
    have na := C.heap_alloc_at x4 (.cells #[.bool false, .int .i64 4, .int .i64 dn, .int .u64 0] 49)
    have b34 := b4.trans (bx.mono b4.size)
    have b24 : Below x2.heap.size x2 (x4.alloc (.cells #[.bool false, .int .i64 4, .int .i64 dn, .int .u64 0] 49)) := HM.out.2.1.trans (b34.mono (by have := HM.out.2.2; omega))
    have HO4 : Hid (Ow (x4.alloc (.cells #[.bool false, .int .i64 4, .int .i64 dn, .int .u64 0] 49)) p (likS (likY X x5) zt)) := HO3.out.below b24
    have HR4 : Hid (_) := keepB HM.out.1 b34
    have HA4 : Hid (_) := keepB HA2.out b24
    have HN4 : Hid (_) := na
    have HB4 : Hid (_) := HB2.out.trans (b24.mono HB2.out.size)
    have HL4 : Hid (x2.heap.size < x4.heap.size ∧ W.heap.size < x2.heap.size ∧ p.F < x2.heap.size ∧ p.B < x2.heap.size ∧ p.M < x2.heap.size ∧ p.g < x2.heap.size) := by
      obtain ⟨q1, q2, q3, q4⟩ := HO3.out.lt
      have := HM.out.2.2
      have := b4.size
      have := HL2.out
      exact ⟨by omega, by omega, q1, q2, q3, q4⟩
    have n4 : (x4.alloc (.cells #[.bool false, .int .i64 4, .int .i64 dn, .int .u64 0] 49)).heap.size = x4.heap.size + 1 := by simp
    clear bx na b34 b24 b4 HRG HM HO3 HA2 HB2 lr
    go_upto_region 25 with fail
    generalize x4.alloc (.cells #[.bool false, .int .i64 4, .int .i64 dn, .int .u64 0] 49) = x5' at *
    generalize x4.heap.size = N at *
    generalize x2.heap.size = rb at *
    have HN5 : Hid (x5'.heap.size = N + 1) := n4
    clear n4
    have d0 : x5'.cell? ⟨N, 0, none⟩ = some (.bool false) := (C.cell_at HN4.out 0).trans rfl
    have d1 : x5'.cell? ⟨N, 1, none⟩ = some (.int .i64 4) := (C.cell_at HN4.out 1).trans rfl
    have lN := lt_of_heap HN4.out
    have cM : x5'.cell? ⟨p.B, 0, none⟩ = some (.pointer (some ⟨p.M, 0, none⟩)) := (C.cell_at HO4.out.fl 0).trans rfl
    have lB := lt_of_heap HO4.out.fl
    have C5 := mload_mm p.M p.g zt 1024 4 x5' HO4.out.sz HO4.out.mm (by decide) (by decide) (by decide)
    have nw : numE zt.length 1024 4 = 0 := by rw [l8]; decide
    rw [nw] at C5
    obtain ⟨was, hwas⟩ : ∃ was, loadV zt 1024 4 = was := ⟨_, rfl⟩
    rw [hwas] at C5
    have HW : Hid (_) := hwas
    clear hwas nw
    go_wp2_with fail
    refine C5.mono ?_
    rintro e x6 ⟨rfl, b6⟩
    clear C5 d0 d1 cM lB lN
    have HO6 : Hid (_) := HO4.out.below b6
    have HR6 : Hid (_) := keepB HR4.out b6
    have HA6 : Hid (_) := keepB HA4.out b6
    have HN6 : Hid (_) := keepB HN4.out b6
    have HB6 : Hid (_) := HB4.out.trans (b6.mono HB4.out.size)
    have HS6 : Hid (N < x6.heap.size) := by have := b6.size; have := HN5.out; exact (by omega : N < x6.heap.size)
    clear HO4 HR4 HA4 HN4 HB4 b6
    have hOr : Ow.Off p rb := ⟨by have := HL4.out; omega, by have := HL4.out; omega, by have := HL4.out; omega, by have := HL4.out; omega, by have := HL4.out; have := HO6.out.F1; omega⟩
    have dp := lik_one zt (likY X x5) 24 rd rs2 imm aw H9.out (by decide) l8 zw (by show x5 = _; exact hx.symm)
    have ST := step_of p (likS (likY X x5) zt) (likY X x5) (fun _ _ _ => rfl) rb hOr _ (fun S => do_hw { p with S := S } TB (HT.out _ hpo) _ (.inr rfl)) x6 HO6.out HR6.out
    rw [dp] at ST
    clear dp hOr HR6
    go_wp2_with fail
    refine ST.mono ?_
    rintro e x7 ⟨rfl, o7, r7, t7⟩
    have q := HL4.out
    have q2 := HS6.out
    have q3 := HL.out
    have q4 := HL2.out
    have HO7 : Hid (_) := o7
    have HR7 : Hid (x7.heap[rb]? = some (.cells (regC (likX (likY X x5) zt 24 rd) 4 1) 25 (0, 0))) := r7
    have HA7 : Hid (_) := (t7.block _ (lt_of_heap HA6.out) (by omega) (by omega) (by omega) (by omega)).trans HA6.out
    have HN7 : Hid (_) := (t7.block _ (lt_of_heap HN6.out) (by omega) (by omega) (by omega) (by omega)).trans HN6.out
    have HB7 : Hid (Below W.heap.size W x7) := ts_below HB6.out t7 (by omega) (by have := HL.out; have := HL2.out; omega) (by have := HL.out; have := HL2.out; omega) (by have := HL.out; have := HL2.out; omega)
    have hby := HO6.out.mm.bytes
    have hwas := HW.out
    have HWU : Hid (0 ≤ was ∧ was < 18446744073709551616) := by have q := load_U zt hby 1024 4 (by decide); rw [hwas] at q; exact q
    have EQ : K.finX (likY X x5) false 4 dn was = likX (likY X x5) zt 24 rd := by
      unfold K.finX likX
      rw [if_pos (show (24 : Int) ≤ 25 by decide)]
      have hd15 := HKN.out.2
      by_cases hd : dn = 0
      · rw [if_neg (show ¬(false = false ∧ 1 ≤ (dn : Int) ∧ (dn : Int) ≤ 15) from fun h => by have := h.2.1; omega), if_pos (show rd.toNat = 0 by omega)]
      · rw [if_pos (show false = false ∧ 1 ≤ (dn : Int) ∧ (dn : Int) ≤ 15 from ⟨rfl, by omega, by omega⟩), if_neg (show ¬rd.toNat = 0 by omega)]
        rw [← hwas, ld_back zt hby l8 4 (by decide), hdn]
        rfl
    have HEQ : Hid (_) := EQ
    clear ST o7 r7 t7 q q2 q3 q4 HO6 HA6 HN6 HB6 EQ hby hwas
    dsimp only [Rs.val, resV, Rs.ok]
    have EN := eq_none
    have bx8 := (Below.refl x7.heap.size x7).alloc (Nat.le_refl _) (.cells #[.int .i64 0, .int .i64 0, .int .u64 0, .int .u64 0, .bool false, .bool false] 57)
    have n8' := C.heap_alloc_at x7 (.cells #[.int .i64 0, .int .i64 0, .int .u64 0, .int .u64 0, .bool false, .bool false] 57)
    have HO8 : Hid (_) := HO7.out.below bx8
    have HR8 : Hid (_) := keepB HR7.out bx8
    have HA8 : Hid (_) := keepB HA7.out bx8
    have HN8 : Hid (_) := keepB HN7.out bx8
    have HB8 : Hid (_) := HB7.out.trans (bx8.mono HB7.out.size)
    clear HO7 HR7 HA7 HN7 HB7 bx8 n8'
    go_upto_region 31 with (first
      | (refine wpList_neq_agg (by rfl) 57 _ _ rfl #[.int .i64 0, .int .i64 0, .int .u64 0, .int .u64 0, .bool false, .bool false] #[.int .i64 0, .int .i64 0, .int .u64 0, .int .u64 0, .bool false, .bool false] rfl rfl (by kernel_rfl) true (EN _) ?_
         simp only [Act.put, Bool.not_true])
      | fail)
    generalize x7.alloc (.cells #[.int .i64 0, .int .i64 0, .int .u64 0, .int .u64 0, .bool false, .bool false] 57) = x8 at *
    generalize x7.heap.size = T8 at *
    have hwu : 0 ≤ was ∧ was < 18446744073709551616 := HWU.out
    have hne := K.above_here x8
    have hab : ∀ (s : K.Above x8) b o, b < x8.heap.size → s.wld.cell? ⟨b, o, none⟩ = x8.cell? ⟨b, o, none⟩ := fun s b o h => s.bel.cell (p := ⟨b, o, none⟩) h
    have hsz : ∀ (s : K.Above x8) b, b < x8.heap.size → b < s.wld.heap.size := fun s b h => Nat.lt_of_lt_of_le h s.bel.size
    have E1 : ∀ s : K.Above x8, Calls Tryz.prog 11 #[.agg (regC (likY X x5) 0 1), .agg #[.bool false, .int .i64 4, .int .i64 dn, .int .u64 0], .int .u64 was] s.wld fun r w' => r = .returned (.agg (regC (likX (likY X x5) zt 24 rd) 4 1)) ∧ Below s.wld.heap.size s.wld w' := fun s => by
      have h := K.finish_any (likY X x5) 0 1 false 4 dn 0 was hwu.1 hwu.2 s.wld (HO8.out.sz.below s.bel)
      rw [HEQ.out] at h
      exact h
    have HQ1 : Hid (∀ s : K.Above x8, s.wld.rangeAt W.heap.size 0 (regC (likY X x5) 0 1).toList) := fun s => lik_regs (keepB HA8.out s.bel)
    have HQ2 : Hid (∀ s : K.Above x8, s.wld.rangeAt N 0 (#[.bool false, .int .i64 4, .int .i64 dn, .int .u64 0] : Array Value).toList) := fun s => K.range_of (keepB HN8.out s.bel)
    have HQ3 : Hid (∀ s : K.Above x8, s.wld.rangeAt rb 0 (regC (likX (likY X x5) zt 24 rd) 4 1).toList) := fun s => K.range_of (keepB HR8.out s.bel)
    have ER := eq_regs (regC (likX (likY X x5) zt 24 rd) 4 1) (likX (likY X x5) zt 24 rd) 4 1 (fun n hn => K.regC_at _ _ _ n hn) rfl rfl
    have hrl : (regC (likX (likY X x5) zt 24 rd) 4 1).toList.length = 18 := rfl
    generalize regC (likX (likY X x5) zt 24 rd) 4 1 = rc at *
    refine K.wp_region_above (by kernel_rfl) (by kernel_rfl) ?_
    repeat (first
      | go_big_quiet_skip
      | (go_big_quiet_want; refine K.quiet_load 25 _ rfl W.heap.size 0 rfl (regC (likY X x5) 0 1).toList _ (fun w' ⟨s, hs⟩ => by rw [hs]; exact HQ1.out s) hu25 rfl inf25 ?_; simp only [Act.put, List.setIfInBounds_toArray, List.set_cons_zero, List.set_cons_succ]; go_big_quiet_on)
      | (go_big_quiet_want; refine K.quiet_load 49 _ rfl N 0 rfl (#[.bool false, .int .i64 4, .int .i64 dn, .int .u64 0] : Array Value).toList _ (fun w' ⟨s, hs⟩ => by rw [hs]; exact HQ2.out s) Tryz.underlying49 rfl (by kernel_rfl) ?_; simp only [Act.put, List.setIfInBounds_toArray, List.set_cons_zero, List.set_cons_succ]; go_big_quiet_on)
      | (go_big_quiet_want; refine K.quiet_load 25 _ rfl rb 0 rfl rc.toList _ (fun w' ⟨s, hs⟩ => by rw [hs]; exact HQ3.out s) hu25 rfl (by rw [hrl]; exact inf25) ?_; simp only [Act.put, List.setIfInBounds_toArray, List.set_cons_zero, List.set_cons_succ]; go_big_quiet_on)
      | (go_big_quiet_want; refine K.quiet_neq 25 _ _ rfl rc rc rfl rfl (by kernel_rfl) true ER ?_; simp only [Act.put, Bool.not_true, List.setIfInBounds_toArray, List.set_cons_zero, List.set_cons_succ]; go_big_quiet_on)
      | (go_big_quiet_want; go_big_quiet_op; go_big_quiet_on)
      | (go_big_quiet_want; go_big_quiet_op; apply Exists.intro; refine ⟨fun s => ?_, ?_⟩; exact K.above_call s (E1 s); go_big_quiet_on))
    refine wpQuiet_nil ?_
    rintro _ ⟨s, rfl⟩
    have HO9 : Hid (Ow s.wld p (likT (likY X x5) zt 24 rd rs2 imm aw)) := HO8.out.below s.bel
    have HN9 : Hid (_) := keepB HN8.out s.bel
    have HB9 : Hid (_) := HB8.out.trans (s.bel.mono HB8.out.size)
    clear HO8 HR8 HA8 HN8 HB8 E1 HQ1 HQ2 HQ3 ER hrl hab hsz hne HEQ
    generalize s.wld = x9 at *
    clear s
    have cM : x9.cell? ⟨p.B, 0, none⟩ = some (.pointer (some ⟨p.M, 0, none⟩)) := (C.cell_at HO9.out.fl 0).trans rfl
    have lB := lt_of_heap HO9.out.fl
    have C6 := mload_mm p.M p.g (likZ (likY X x5) zt 24 rs2) 1024 4 x9 HO9.out.sz HO9.out.mm (by decide) (by decide) (by decide)
    have nw : numE (likZ (likY X x5) zt 24 rs2).length 1024 4 = 0 := by
      unfold likZ
      rw [if_pos (by decide)]
      rw [l8]
      decide
    rw [nw] at C6
    have HNOW : Hid (loadV (likZ (likY X x5) zt 24 rs2) 1024 4 = was) := by
      unfold likZ
      rw [if_pos (by decide)]
      exact HW.out
    rw [HNOW.out] at C6
    clear HNOW
    clear nw
    go_wp2_with fail
    refine C6.mono ?_
    rintro e xA ⟨rfl, bA⟩
    clear C6 cM lB
    have HNA : Hid (_) := keepB HN9.out bA
    have HBA : Hid (_) := HB9.out.trans (bA.mono HB9.out.size)
    have C7 := C.get_ff p.F zeroR 0 (by decide) xA (HO9.out.below bA).ff
    have d0 : xA.cell? ⟨N, 0, none⟩ = some (.bool false) := (C.cell_at HNA.out 0).trans rfl
    have d3 : xA.cell? ⟨N, 3, none⟩ = some (.int .u64 0) := (C.cell_at HNA.out 3).trans rfl
    have lN := lt_of_heap HNA.out
    clear HO9 HN9 HB9 bA
    clear C7
    go_wp2_with fail
    go_ret
    exact ⟨rfl, HBA.out⟩
  · have he2 : (I.encE 24 rd 5 rs2 imm == 0) = false := beq_false_of_ne he
    have he3 : (I.encE 24 rd 5 rs2 imm != 0) = true := by rw [bne_iff_ne]; exact he
    clear k0 k1 k2 k3 k4 j30 j5 f30 f5 HE0 HE1
    go_wp2_with fail
    refine (skip_zero _).mono ?_
    rintro e y2 ⟨rfl, b2⟩
    have HE : Hid (_) := HB0.out.trans (b2.mono HB0.out.size)
    clear b2
    go_wp2_with fail
    rw [field_pc]
    simp only [Result.andThen_ok, Oper.upon_value]
    go_wp2_with fail
    go_ret
    exact ⟨rfl, HE.out⟩
end Go.Proofs.YtkckobbedpccfaaGreatDoor
namespace Go.Proofs.YtkckobbedpccfaaGreatDoor
open Go.RowKit
set_option linter.unusedVariables false
set_option maxRecDepth 100000
set_option maxHeartbeats 16000000 in
theorem lik_25 [E.Bits] {W : World} {cs : Array Value} {X R : Nat → Int} {pc mode sec : Int} {B off : Nat} {pa : Option Addr} {iC pN pC : Nat} {vw : Value} (hG : Looks cs X R pc mode sec (.slice (some ⟨B, off, none⟩) 1 iC) vw (.slice pa pN pC)) {rd rs1 rs2 imm : Int} (hB : B < W.heap.size) (c0 : W.cell? ⟨B, off, none⟩ = some (.int .i64 25)) (c1 : W.cell? ⟨B, off + 1, none⟩ = some (.int .i64 rd)) (c2 : W.cell? ⟨B, off + 2, none⟩ = some (.int .i64 rs1)) (c3 : W.cell? ⟨B, off + 3, none⟩ = some (.int .i64 rs2)) (c4 : W.cell? ⟨B, off + 4, none⟩ = some (.int .i64 imm)) {ps : List (Int × Int)} (hp : PokesIn W pa pN ps) (hpC : pN ≤ pC) (hpM : pC ≤ 9223372036854775807) (v : Int) (hv : C.U v) (hz : SZ W) (h1 : 1 < W.heap.size) (hT : ∀ p : Pl, p.o1 = W.heap[1]? → TransOK p TB) : Calls Tryz.prog 3 #[.agg cs, .int .u64 v] W fun e W' => e = .returned (.bool true) ∧ Below W.heap.size W W' := by
  obtain ⟨fs31, hu31⟩ := und31
  obtain ⟨fs25, hu25⟩ := und25
  have HXU : Hid (∀ n, n < 16 → C.U (X n)) := hG.hX
  rw [given_lit hG]
  unfold stCells
  have HP : Hid (PokesIn W pa pN ps) := hp
  have HZ : Hid (SZ W) := hz
  have HT : Hid (_) := hT
  have HV : Hid (C.U v) := hv
  have C1 := I.rencode_any 25 rd 5 rs2 imm
  unfold I.ins at C1
  clear hG hp hz hT hv
  go_enter Tryz.func3, Tryz.ntmps3
  go_wp2_with fail
  refine (C1 _).mono ?_
  rintro e y ⟨rfl, b1⟩
  clear C1
  generalize Value.agg #[.int .u64 (X 0), .int .u64 (X 1), .int .u64 (X 2), .int .u64 (X 3), .int .u64 (X 4), .int .u64 (X 5), .int .u64 (X 6), .int .u64 (X 7), .int .u64 (X 8), .int .u64 (X 9), .int .u64 (X 10), .int .u64 (X 11), .int .u64 (X 12), .int .u64 (X 13), .int .u64 (X 14), .int .u64 (X 15), .int .u64 pc, .int .i64 mode, .int .u64 (R 0), .int .u64 (R 1), .int .u64 (R 2), .int .u64 (R 3), .int .u64 (R 4), .int .u64 (R 5), .int .u64 (R 6), .int .u64 (R 7), .int .u64 (R 8), .int .u64 (R 9), .int .u64 (R 10), .int .u64 (R 11), .slice (some ⟨B, off, none⟩) 1 iC, vw, .slice pa pN pC, .int .i64 sec] = g0
  have b0 : Below W.heap.size W y := (((Below.refl _ _).alloc (Nat.le_refl _) _).alloc (by simp) _).trans (b1.mono (by simp <;> omega))
  obtain ⟨z1, a0, a1⟩ := two_at W (.cells #[.int .u64 0, .int .u64 (X 1), .int .u64 (X 2), .int .u64 (X 3), .int .u64 (X 4), .int .u64 (X 5), .int .u64 (X 6), .int .u64 (X 7), .int .u64 (X 8), .int .u64 (X 9), .int .u64 (X 10), .int .u64 (X 11), .int .u64 (X 12), .int .u64 (X 13), .int .u64 (X 14), .int .u64 (X 15), .int .u64 0, .int .i64 1, .int .u64 0, .int .u64 0, .int .u64 0, .int .u64 0, .int .u64 0, .int .u64 0, .int .u64 0, .int .u64 0, .int .u64 0, .int .u64 0, .int .u64 0, .int .u64 0, .slice (some ⟨B, off, none⟩) 1 iC, .slice none 0 0, .slice pa pN pC, .int .i64 (-1)] 31) (.cells #[.int .i64 25, .int .i64 rd, .int .i64 5, .int .i64 rs2, .int .i64 imm] 33)
  have e0 := keepB a0 b1
  have e1 := keepB a1 b1
  have HB0 : Hid (_) := b0
  have HE0 : Hid (_) := e0
  have HE1 : Hid (_) := e1
  have k0 : y.cell? ⟨W.heap.size + 1, 0, none⟩ = some (.int .i64 25) := (C.cell_at e1 0).trans rfl
  have k1 : y.cell? ⟨W.heap.size + 1, 1, none⟩ = some (.int .i64 rd) := (C.cell_at e1 1).trans rfl
  have k2 : y.cell? ⟨W.heap.size + 1, 2, none⟩ = some (.int .i64 5) := (C.cell_at e1 2).trans rfl
  have k3 : y.cell? ⟨W.heap.size + 1, 3, none⟩ = some (.int .i64 rs2) := (C.cell_at e1 3).trans rfl
  have k4 : y.cell? ⟨W.heap.size + 1, 4, none⟩ = some (.int .i64 imm) := (C.cell_at e1 4).trans rfl
  have j30 : y.cell? ⟨W.heap.size, 30, none⟩ = some (.slice (some ⟨B, off, none⟩) 1 iC) := (C.cell_at e0 30).trans rfl
  have j5 : y.cell? ⟨W.heap.size, 5, none⟩ = some (.int .u64 (X 5)) := (C.cell_at e0 5).trans rfl
  have f30 := K.fz_at e0 30
  have f5 := K.fz_at e0 5
  have l0 := lt_of_heap e0
  have l1 := lt_of_heap e1
  clear b0 b1 z1 a0 a1 e0 e1 c0 c1 c2 c3 c4
  by_cases he : I.encE 25 rd 5 rs2 imm = 0
  · have h9 := ins9_of (op := 25) (by decide) he
    have H9 : Hid (_) := h9
    rw [he]
    clear he h9
    obtain ⟨aw, haw⟩ : ∃ aw, I.encW 25 rd 5 rs2 imm = aw := ⟨_, rfl⟩
    rw [haw] at H9 ⊢
    go_upto_region 18 with fail
    have t1 := K.heap_setCell HE0.out 30 (.slice (some ⟨y.heap.size, 0, none⟩) 1 1)
    have t2 := K.heap_setCell t1 5 (.int .u64 (IntKind.u64.wrap (1024 - IntKind.u64.wrap imm)))
    have tt := (K.trn_set1 HE0.out 30 (.slice (some ⟨y.heap.size, 0, none⟩) 1 1)).trans (K.trn_set1 t1 5 (.int .u64 (IntKind.u64.wrap (1024 - IntKind.u64.wrap imm))))
    have sy : ((y.setCell ⟨W.heap.size, 30, none⟩ (.slice (some ⟨y.heap.size, 0, none⟩) 1 1)).setCell ⟨W.heap.size, 5, none⟩ (.int .u64 (IntKind.u64.wrap (1024 - IntKind.u64.wrap imm)))).heap.size = y.heap.size := by simp
    obtain ⟨bu, n0, n1⟩ := two_at ((y.setCell ⟨W.heap.size, 30, none⟩ (.slice (some ⟨y.heap.size, 0, none⟩) 1 1)).setCell ⟨W.heap.size, 5, none⟩ (.int .u64 (IntKind.u64.wrap (1024 - IntKind.u64.wrap imm)))) (.cells #[.int .i64 25, .int .i64 rd, .int .i64 5, .int .i64 rs2, .int .i64 imm] 33) (.cells #[.int .i64 8, .int .i64 4, .int .i64 1] 3)
    rw [sy] at n0
    have HA : Hid (((((y.setCell ⟨W.heap.size, 30, none⟩ (.slice (some ⟨y.heap.size, 0, none⟩) 1 1)).setCell ⟨W.heap.size, 5, none⟩ (.int .u64 (IntKind.u64.wrap (1024 - IntKind.u64.wrap imm)))).alloc (.cells #[.int .i64 25, .int .i64 rd, .int .i64 5, .int .i64 rs2, .int .i64 imm] 33)).alloc (.cells #[.int .i64 8, .int .i64 4, .int .i64 1] 3)).heap[W.heap.size]? = some (.cells (likC X (IntKind.u64.wrap (1024 - IntKind.u64.wrap imm)) y.heap.size pa pN pC) 31 (0, 0))) := keepB (t2.trans rfl) bu
    have HBU : Hid (Below W.heap.size W ((((y.setCell ⟨W.heap.size, 30, none⟩ (.slice (some ⟨y.heap.size, 0, none⟩) 1 1)).setCell ⟨W.heap.size, 5, none⟩ (.int .u64 (IntKind.u64.wrap (1024 - IntKind.u64.wrap imm)))).alloc (.cells #[.int .i64 25, .int .i64 rd, .int .i64 5, .int .i64 rs2, .int .i64 imm] 33)).alloc (.cells #[.int .i64 8, .int .i64 4, .int .i64 1] 3))) := (HB0.out.trans (tt.below HB0.out.size fun j e => by omega)).trans (bu.mono (by rw [sy]; exact HB0.out.size))
    have HI : Hid (InsnsIn ((((y.setCell ⟨W.heap.size, 30, none⟩ (.slice (some ⟨y.heap.size, 0, none⟩) 1 1)).setCell ⟨W.heap.size, 5, none⟩ (.int .u64 (IntKind.u64.wrap (1024 - IntKind.u64.wrap imm)))).alloc (.cells #[.int .i64 25, .int .i64 rd, .int .i64 5, .int .i64 rs2, .int .i64 imm] 33)).alloc (.cells #[.int .i64 8, .int .i64 4, .int .i64 1] 3)) (some ⟨y.heap.size, 0, none⟩) 1 [⟨25, rd, 5, rs2, imm⟩]) := ⟨rfl, .inr ⟨y.heap.size, 0, rfl, lt_of_heap n0, fun i hi => by
      obtain rfl : i = 0 := by omega
      refine ⟨?_, ?_, ?_, ?_, ?_⟩ <;> (rw [C.cell_at n0]; rfl)⟩⟩
    clear t1 t2 tt sy bu n0 n1 k0 k1 k2 k3 k4 j30 j5 f30 f5 HE0 HE1
    generalize ((((y.setCell ⟨W.heap.size, 30, none⟩ (.slice (some ⟨y.heap.size, 0, none⟩) 1 1)).setCell ⟨W.heap.size, 5, none⟩ (.int .u64 (IntKind.u64.wrap (1024 - IntKind.u64.wrap imm)))).alloc (.cells #[.int .i64 25, .int .i64 rd, .int .i64 5, .int .i64 rs2, .int .i64 imm] 33)).alloc (.cells #[.int .i64 8, .int .i64 4, .int .i64 1] 3)) = u at *
    generalize y.heap.size = k at *
    have hx5 : C.U (IntKind.u64.wrap (1024 - IntKind.u64.wrap imm)) := wrapU _
    obtain ⟨x5, hx⟩ : ∃ x5, (IntKind.u64.wrap (1024 - IntKind.u64.wrap imm)) = x5 := ⟨_, rfl⟩
    rw [hx] at hx5
    have HAu : Hid (u.heap[W.heap.size]? = some (.cells (likC X x5 k pa pN pC) 31 (0, 0))) := by rw [← hx]; exact HA.out
    have C2 := lik_begin u (HZ.out.below HBU.out) X x5 k pa pN pC ps 25 rd rs2 imm HI.out (HP.out.below rfl HBU.out) hpC hpM
    rw [haw] at C2
    clear HA HI
    go_wp2_with (first
      | refine wpList_load_row rfl 31 _ rfl W.heap.size rfl 31 (likC X x5 k pa pN pC) (0, 0) _ HAu.out hu31 rfl inf31 ?_
      | fail)
    refine C2.mono ?_
    rintro e x1 ⟨W1, b, g, c, h, F, G, B', Q, rfl, md, bW⟩
    generalize Value.agg (likC X x5 k pa pN pC) = g1
    clear C2
    have lA := lt_of_heap HAu.out
    have hW1 : 1 < (u.alloc (.cells (likC X x5 k pa pN pC) 31)).heap.size := by have := HBU.out.size; simp; omega
    have ux : Below u.heap.size u W1 := ((Below.refl _ _).alloc (Nat.le_refl _) _).trans (md.bl.mono (by simp))
    have ow1 := made_ow md hW1 ((HZ.out.below HBU.out).below ux) (likY X x5) (likY_U HXU.out x5 hx5) rfl 0 1 ⟨by decide, by decide⟩ (.inr rfl) (by decide)
    have e1 : W1.heap[1]? = W.heap[1]? := ((ux.block 1 (by have := HBU.out.size; omega)).trans (HBU.out.block 1 h1))
    rw [e1] at ow1
    obtain ⟨o0, o00⟩ := md.o0
    obtain ⟨o1, o2, o3, o4⟩ := md.o1
    obtain ⟨o5, o6⟩ := md.o2
    have o7 := md.o3
    obtain ⟨o8, o9, o10⟩ := md.o4
    have su : u.heap.size < (u.alloc (.cells (likC X x5 k pa pN pC) 31)).heap.size := by simp
    have ow2 := ow1.below bW
    have ub : Below u.heap.size u x1 := ux.trans (bW.mono ux.size)
    obtain ⟨p, hp⟩ : ∃ p : Pl, (⟨0, F, B', b, g, W.heap[1]?⟩ : Pl) = p := ⟨_, rfl⟩
    have hpF : F = p.F := by rw [← hp]
    have hpB : B' = p.B := by rw [← hp]
    have hpM : b = p.M := by rw [← hp]
    have hpg : g = p.g := by rw [← hp]
    have hpo : p.o1 = W.heap[1]? := by rw [← hp]
    rw [hp] at ow2
    have HL : Hid (u.heap.size ≤ p.F ∧ u.heap.size ≤ p.B ∧ u.heap.size ≤ p.M ∧ u.heap.size ≤ p.g) := by rw [← hp]; exact ⟨by show _ ≤ F; omega, by show _ ≤ B'; omega, by show _ ≤ b; omega, by show _ ≤ g; omega⟩
    have zl := likM_len ps pN ⟨25, rd, 5, rs2, imm⟩
    have zw := (likM_word ps pN ⟨25, rd, 5, rs2, imm⟩ v).trans haw
    generalize likM ps pN ⟨25, rd, 5, rs2, imm⟩ = zs at *
    have HO : Hid (Ow x1 p (likS (likY X x5) zs)) := ow2
    have HUB : Hid (Below u.heap.size u x1) := ub
    have cM : x1.cell? ⟨p.B, 0, none⟩ = some (.pointer (some ⟨p.M, 0, none⟩)) := (C.cell_at ow2.fl 0).trans rfl
    have lB := lt_of_heap ow2.fl
    have C3 := mstore_mm p.M p.g zs 1024 8 v x1 ow2.sz ow2.mm (by decide) (by decide) (by decide) HV.out.1 HV.out.2
    have n8 : numE zs.length 1024 8 = 0 := by rw [zl]; decide
    rw [n8] at C3
    have l8 : (storeV zs 1024 8 v).length = 3072 := by rw [storeV_len _ _ _ _ (by decide), zl]
    subst hpF hpB hpM hpg
    clear md ow1 ow2 ux ub bW o0 o00 o1 o2 o3 o4 o5 o6 o7 o8 o9 o10 su e1 hp hW1 lA n8
    go_wp2_with fail
    refine C3.mono ?_
    rintro e x2 ⟨rfl, m2, g2⟩
    have ow3 := HO.out.toM m2 g2
    have HO3 : Hid (Ow x2 p (likS (likY X x5) (storeV zs 1024 8 v))) := ow3
    have A2 : x2.heap[W.heap.size]? = some (.cells (likC X x5 k pa pN pC) 31 (0, 0)) := (C.gr_keep g2 (k := W.heap.size) (lt_of_heap (keepB HAu.out HUB.out)) (by have := HL.out.2.2.2; have := lt_of_heap HAu.out; omega)).trans (keepB HAu.out HUB.out)
    have HA2 : Hid (_) := A2
    have HB2 : Hid (Below W.heap.size W x2) := (HBU.out.trans (HUB.out.mono HBU.out.size)).trans (C.gr_below g2 (by have := HL.out.2.2.2; have := HBU.out.size; omega) (Nat.le_trans HBU.out.size HUB.out.size))
    have HL2 : Hid (W.heap.size < u.heap.size ∧ u.heap.size ≤ x2.heap.size) := ⟨lt_of_heap HAu.out, Nat.le_trans HUB.out.size g2.size⟩
    have HRG : Hid (x2.rangeAt W.heap.size 0 (regC (likY X x5) 0 1).toList) := lik_regs A2
    clear C3 HO m2 g2 cM lB ow3 A2 HUB HAu
    generalize storeV zs 1024 8 v = zt at *
    have rr1 := reg_one (likY X x5) 0 1
    go_upto_region 24 with (first
      | refine wpList_load_mid rfl 25 _ rfl W.heap.size 0 rfl _ _ HRG.out hu25 rfl inf25 ?_
      | refine wpList_store_row rfl 25 _ _ rfl x2.heap.size (regC (likY X x5) 0 1) rfl rfl 25 _ (C.heap_alloc_at x2 _) inf25 rfl rr1 ?_
      | fail)
    simp only [Act.put]
    have nr := fun old => new_row x2 old (regC (likY X x5) 0 1) 25
    generalize hy1 : World.setRow _ _ _ = x3
    obtain ⟨m1, m2, m3⟩ : x3.heap[x2.heap.size]? = some (.cells (regC (likY X x5) 0 1) 25 (0, 0)) ∧ Below x2.heap.size x2 x3 ∧ x3.heap.size = x2.heap.size + 1 := by rw [← hy1]; exact nr _
    have HM : Hid (x3.heap[x2.heap.size]? = some (.cells (regC (likY X x5) 0 1) 25 (0, 0)) ∧ Below x2.heap.size x2 x3 ∧ x3.heap.size = x2.heap.size + 1) := ⟨m1, m2, m3⟩
    clear m1 m2 m3 rr1 nr hy1
    have lr := lt_of_heap HM.out.1
    have HY : Hid (∀ n, n < 16 → C.U (likY X x5 n)) := likY_U HXU.out x5 hx5
    have C4 := fun w => K.decode_any aw H9.out.lo H9.out.hi (likY X x5) 0 1 HY.out w
    obtain ⟨kn, hkn⟩ : ∃ kn : Nat, rs2 = kn := ⟨rs2.toNat, by have := H9.out.r2l; omega⟩
    obtain ⟨dn, hdn⟩ : ∃ dn : Nat, rd = dn := ⟨rd.toNat, by have := H9.out.rdl; omega⟩
    have HKN : Hid (kn ≤ 15 ∧ dn ≤ 15) := ⟨by have := H9.out.r2l; omega, by have := H9.out.rdl; omega⟩
    obtain ⟨sv, hsv⟩ : ∃ sv, K.storedP (likY X x5) kn 1 = sv := ⟨_, rfl⟩
    have HSV : Hid (_) := hsv
    have ed : K.decE aw = 0 := by unfold K.decE; rw [if_pos ⟨H9.out.va, by rw [H9.out.op_]; decide, by rw [H9.out.op_]; decide⟩]
    have ep : (K.decP aw (likY X x5)).arr = #[.bool false, .int .i64 1, .int .i64 dn, .int .u64 0] := by
      unfold K.decP
      rw [if_pos H9.out.va, H9.out.op_, H9.out.rd_, H9.out.r2_]
      unfold K.wantP
      rw [if_neg (by decide), if_pos (by decide), hdn]
      rfl
    rw [ed, ep] at C4
    have X2 : Hid (C.U v) := HV.out
    clear ed ep hsv
    go_wp2_with (first
      | refine wpList_load_row rfl 25 _ rfl x2.heap.size rfl 25 (regC (likY X x5) 0 1) (0, 0) _ HM.out.1 hu25 rfl inf25 ?_
      | fail)
    refine (C4 _).mono ?_
    rintro e x4 ⟨rfl, b4⟩
    clear C4
    have bx := (Below.refl x4.heap.size x4).alloc (Nat.le_refl _) (.cells #[.bool false, .int .i64 1, .int .i64 dn, .int .u64 0] 49)
    have na := C.heap_alloc_at x4 (.cells #[.bool false, .int .i64 1, .int .i64 dn, .int .u64 0] 49)
    have b34 := b4.trans (bx.mono b4.size)
    have b24 : Below x2.heap.size x2 (x4.alloc (.cells #[.bool false, .int .i64 1, .int .i64 dn, .int .u64 0] 49)) := HM.out.2.1.trans (b34.mono (by have := HM.out.2.2; omega))
    have HO4 : Hid (Ow (x4.alloc (.cells #[.bool false, .int .i64 1, .int .i64 dn, .int .u64 0] 49)) p (likS (likY X x5) zt)) := HO3.out.below b24
    have HR4 : Hid (_) := keepB HM.out.1 b34
    have HA4 : Hid (_) := keepB HA2.out b24
    have HN4 : Hid (_) := na
    have HB4 : Hid (_) := HB2.out.trans (b24.mono HB2.out.size)
    have HL4 : Hid (x2.heap.size < x4.heap.size ∧ W.heap.size < x2.heap.size ∧ p.F < x2.heap.size ∧ p.B < x2.heap.size ∧ p.M < x2.heap.size ∧ p.g < x2.heap.size) := by
      obtain ⟨q1, q2, q3, q4⟩ := HO3.out.lt
      have := HM.out.2.2
      have := b4.size
      have := HL2.out
      exact ⟨by omega, by omega, q1, q2, q3, q4⟩
    have n4 : (x4.alloc (.cells #[.bool false, .int .i64 1, .int .i64 dn, .int .u64 0] 49)).heap.size = x4.heap.size + 1 := by simp
    clear bx na b34 b24 b4 HRG HM HO3 HA2 HB2 lr
    go_upto_region 25 with fail
    generalize x4.alloc (.cells #[.bool false, .int .i64 1, .int .i64 dn, .int .u64 0] 49) = x5' at *
    generalize x4.heap.size = N at *
    generalize x2.heap.size = rb at *
    have HN5 : Hid (x5'.heap.size = N + 1) := n4
    clear n4
    have d0 : x5'.cell? ⟨N, 0, none⟩ = some (.bool false) := (C.cell_at HN4.out 0).trans rfl
    have d1 : x5'.cell? ⟨N, 1, none⟩ = some (.int .i64 1) := (C.cell_at HN4.out 1).trans rfl
    have lN := lt_of_heap HN4.out
    have cM : x5'.cell? ⟨p.B, 0, none⟩ = some (.pointer (some ⟨p.M, 0, none⟩)) := (C.cell_at HO4.out.fl 0).trans rfl
    have lB := lt_of_heap HO4.out.fl
    have C5 := mload_mm p.M p.g zt 1024 1 x5' HO4.out.sz HO4.out.mm (by decide) (by decide) (by decide)
    have nw : numE zt.length 1024 1 = 0 := by rw [l8]; decide
    rw [nw] at C5
    obtain ⟨was, hwas⟩ : ∃ was, loadV zt 1024 1 = was := ⟨_, rfl⟩
    rw [hwas] at C5
    have HW : Hid (_) := hwas
    clear hwas nw
    go_wp2_with fail
    refine C5.mono ?_
    rintro e x6 ⟨rfl, b6⟩
    clear C5 d0 d1 cM lB lN
    have HO6 : Hid (_) := HO4.out.below b6
    have HR6 : Hid (_) := keepB HR4.out b6
    have HA6 : Hid (_) := keepB HA4.out b6
    have HN6 : Hid (_) := keepB HN4.out b6
    have HB6 : Hid (_) := HB4.out.trans (b6.mono HB4.out.size)
    have HS6 : Hid (N < x6.heap.size) := by have := b6.size; have := HN5.out; exact (by omega : N < x6.heap.size)
    clear HO4 HR4 HA4 HN4 HB4 b6
    have hOr : Ow.Off p rb := ⟨by have := HL4.out; omega, by have := HL4.out; omega, by have := HL4.out; omega, by have := HL4.out; omega, by have := HL4.out; have := HO6.out.F1; omega⟩
    have dp := lik_one zt (likY X x5) 25 rd rs2 imm aw H9.out (by decide) l8 zw (by show x5 = _; exact hx.symm)
    have ST := step_of p (likS (likY X x5) zt) (likY X x5) (fun _ _ _ => rfl) rb hOr _ (fun S => do_hw { p with S := S } TB (HT.out _ hpo) _ (.inr rfl)) x6 HO6.out HR6.out
    rw [dp] at ST
    clear dp hOr HR6
    go_wp2_with fail
    refine ST.mono ?_
    rintro e x7 ⟨rfl, o7, r7, t7⟩
    have q := HL4.out
    have q2 := HS6.out
    have q3 := HL.out
    have q4 := HL2.out
    have HO7 : Hid (_) := o7
    have HR7 : Hid (x7.heap[rb]? = some (.cells (regC (likX (likY X x5) zt 25 rd) 4 1) 25 (0, 0))) := r7
    have HA7 : Hid (_) := (t7.block _ (lt_of_heap HA6.out) (by omega) (by omega) (by omega) (by omega)).trans HA6.out
    have HN7 : Hid (_) := (t7.block _ (lt_of_heap HN6.out) (by omega) (by omega) (by omega) (by omega)).trans HN6.out
    have HB7 : Hid (Below W.heap.size W x7) := ts_below HB6.out t7 (by omega) (by have := HL.out; have := HL2.out; omega) (by have := HL.out; have := HL2.out; omega) (by have := HL.out; have := HL2.out; omega)
    have hby := HO6.out.mm.bytes
    have hwas := HW.out
    have HWU : Hid (0 ≤ was ∧ was < 18446744073709551616) := by have q := load_U zt hby 1024 1 (by decide); rw [hwas] at q; exact q
    have EQ : K.finX (likY X x5) false 1 dn was = likX (likY X x5) zt 25 rd := by
      unfold K.finX likX
      rw [if_pos (show (25 : Int) ≤ 25 by decide)]
      have hd15 := HKN.out.2
      by_cases hd : dn = 0
      · rw [if_neg (show ¬(false = false ∧ 1 ≤ (dn : Int) ∧ (dn : Int) ≤ 15) from fun h => by have := h.2.1; omega), if_pos (show rd.toNat = 0 by omega)]
      · rw [if_pos (show false = false ∧ 1 ≤ (dn : Int) ∧ (dn : Int) ≤ 15 from ⟨rfl, by omega, by omega⟩), if_neg (show ¬rd.toNat = 0 by omega)]
        rw [← hwas, ld_back zt hby l8 1 (by decide), hdn]
        rfl
    have HEQ : Hid (_) := EQ
    clear ST o7 r7 t7 q q2 q3 q4 HO6 HA6 HN6 HB6 EQ hby hwas
    dsimp only [Rs.val, resV, Rs.ok]
    have EN := eq_none
    have bx8 := (Below.refl x7.heap.size x7).alloc (Nat.le_refl _) (.cells #[.int .i64 0, .int .i64 0, .int .u64 0, .int .u64 0, .bool false, .bool false] 57)
    have n8' := C.heap_alloc_at x7 (.cells #[.int .i64 0, .int .i64 0, .int .u64 0, .int .u64 0, .bool false, .bool false] 57)
    have HO8 : Hid (_) := HO7.out.below bx8
    have HR8 : Hid (_) := keepB HR7.out bx8
    have HA8 : Hid (_) := keepB HA7.out bx8
    have HN8 : Hid (_) := keepB HN7.out bx8
    have HB8 : Hid (_) := HB7.out.trans (bx8.mono HB7.out.size)
    clear HO7 HR7 HA7 HN7 HB7 bx8 n8'
    go_upto_region 31 with (first
      | (refine wpList_neq_agg (by rfl) 57 _ _ rfl #[.int .i64 0, .int .i64 0, .int .u64 0, .int .u64 0, .bool false, .bool false] #[.int .i64 0, .int .i64 0, .int .u64 0, .int .u64 0, .bool false, .bool false] rfl rfl (by kernel_rfl) true (EN _) ?_
         simp only [Act.put, Bool.not_true])
      | fail)
    generalize x7.alloc (.cells #[.int .i64 0, .int .i64 0, .int .u64 0, .int .u64 0, .bool false, .bool false] 57) = x8 at *
    generalize x7.heap.size = T8 at *
    have hwu : 0 ≤ was ∧ was < 18446744073709551616 := HWU.out
    have hne := K.above_here x8
    have hab : ∀ (s : K.Above x8) b o, b < x8.heap.size → s.wld.cell? ⟨b, o, none⟩ = x8.cell? ⟨b, o, none⟩ := fun s b o h => s.bel.cell (p := ⟨b, o, none⟩) h
    have hsz : ∀ (s : K.Above x8) b, b < x8.heap.size → b < s.wld.heap.size := fun s b h => Nat.lt_of_lt_of_le h s.bel.size
    have E1 : ∀ s : K.Above x8, Calls Tryz.prog 11 #[.agg (regC (likY X x5) 0 1), .agg #[.bool false, .int .i64 1, .int .i64 dn, .int .u64 0], .int .u64 was] s.wld fun r w' => r = .returned (.agg (regC (likX (likY X x5) zt 25 rd) 4 1)) ∧ Below s.wld.heap.size s.wld w' := fun s => by
      have h := K.finish_any (likY X x5) 0 1 false 1 dn 0 was hwu.1 hwu.2 s.wld (HO8.out.sz.below s.bel)
      rw [HEQ.out] at h
      exact h
    have HQ1 : Hid (∀ s : K.Above x8, s.wld.rangeAt W.heap.size 0 (regC (likY X x5) 0 1).toList) := fun s => lik_regs (keepB HA8.out s.bel)
    have HQ2 : Hid (∀ s : K.Above x8, s.wld.rangeAt N 0 (#[.bool false, .int .i64 1, .int .i64 dn, .int .u64 0] : Array Value).toList) := fun s => K.range_of (keepB HN8.out s.bel)
    have HQ3 : Hid (∀ s : K.Above x8, s.wld.rangeAt rb 0 (regC (likX (likY X x5) zt 25 rd) 4 1).toList) := fun s => K.range_of (keepB HR8.out s.bel)
    have ER := eq_regs (regC (likX (likY X x5) zt 25 rd) 4 1) (likX (likY X x5) zt 25 rd) 4 1 (fun n hn => K.regC_at _ _ _ n hn) rfl rfl
    have hrl : (regC (likX (likY X x5) zt 25 rd) 4 1).toList.length = 18 := rfl
    generalize regC (likX (likY X x5) zt 25 rd) 4 1 = rc at *
    refine K.wp_region_above (by kernel_rfl) (by kernel_rfl) ?_
    repeat (first
      | go_big_quiet_skip
      | (go_big_quiet_want; refine K.quiet_load 25 _ rfl W.heap.size 0 rfl (regC (likY X x5) 0 1).toList _ (fun w' ⟨s, hs⟩ => by rw [hs]; exact HQ1.out s) hu25 rfl inf25 ?_; simp only [Act.put, List.setIfInBounds_toArray, List.set_cons_zero, List.set_cons_succ]; go_big_quiet_on)
      | (go_big_quiet_want; refine K.quiet_load 49 _ rfl N 0 rfl (#[.bool false, .int .i64 1, .int .i64 dn, .int .u64 0] : Array Value).toList _ (fun w' ⟨s, hs⟩ => by rw [hs]; exact HQ2.out s) Tryz.underlying49 rfl (by kernel_rfl) ?_; simp only [Act.put, List.setIfInBounds_toArray, List.set_cons_zero, List.set_cons_succ]; go_big_quiet_on)
      | (go_big_quiet_want; refine K.quiet_load 25 _ rfl rb 0 rfl rc.toList _ (fun w' ⟨s, hs⟩ => by rw [hs]; exact HQ3.out s) hu25 rfl (by rw [hrl]; exact inf25) ?_; simp only [Act.put, List.setIfInBounds_toArray, List.set_cons_zero, List.set_cons_succ]; go_big_quiet_on)
      | (go_big_quiet_want; refine K.quiet_neq 25 _ _ rfl rc rc rfl rfl (by kernel_rfl) true ER ?_; simp only [Act.put, Bool.not_true, List.setIfInBounds_toArray, List.set_cons_zero, List.set_cons_succ]; go_big_quiet_on)
      | (go_big_quiet_want; go_big_quiet_op; go_big_quiet_on)
      | (go_big_quiet_want; go_big_quiet_op; apply Exists.intro; refine ⟨fun s => ?_, ?_⟩; exact K.above_call s (E1 s); go_big_quiet_on))
    refine wpQuiet_nil ?_
    rintro _ ⟨s, rfl⟩
    have HO9 : Hid (Ow s.wld p (likT (likY X x5) zt 25 rd rs2 imm aw)) := HO8.out.below s.bel
    have HN9 : Hid (_) := keepB HN8.out s.bel
    have HB9 : Hid (_) := HB8.out.trans (s.bel.mono HB8.out.size)
    clear HO8 HR8 HA8 HN8 HB8 E1 HQ1 HQ2 HQ3 ER hrl hab hsz hne HEQ
    generalize s.wld = x9 at *
    clear s
    have cM : x9.cell? ⟨p.B, 0, none⟩ = some (.pointer (some ⟨p.M, 0, none⟩)) := (C.cell_at HO9.out.fl 0).trans rfl
    have lB := lt_of_heap HO9.out.fl
    have C6 := mload_mm p.M p.g (likZ (likY X x5) zt 25 rs2) 1024 1 x9 HO9.out.sz HO9.out.mm (by decide) (by decide) (by decide)
    have nw : numE (likZ (likY X x5) zt 25 rs2).length 1024 1 = 0 := by
      unfold likZ
      rw [if_pos (by decide)]
      rw [l8]
      decide
    rw [nw] at C6
    have HNOW : Hid (loadV (likZ (likY X x5) zt 25 rs2) 1024 1 = was) := by
      unfold likZ
      rw [if_pos (by decide)]
      exact HW.out
    rw [HNOW.out] at C6
    clear HNOW
    clear nw
    go_wp2_with fail
    refine C6.mono ?_
    rintro e xA ⟨rfl, bA⟩
    clear C6 cM lB
    have HNA : Hid (_) := keepB HN9.out bA
    have HBA : Hid (_) := HB9.out.trans (bA.mono HB9.out.size)
    have C7 := C.get_ff p.F zeroR 0 (by decide) xA (HO9.out.below bA).ff
    have d0 : xA.cell? ⟨N, 0, none⟩ = some (.bool false) := (C.cell_at HNA.out 0).trans rfl
    have d3 : xA.cell? ⟨N, 3, none⟩ = some (.int .u64 0) := (C.cell_at HNA.out 3).trans rfl
    have lN := lt_of_heap HNA.out
    clear HO9 HN9 HB9 bA
    clear C7
    go_wp2_with fail
    go_ret
    exact ⟨rfl, HBA.out⟩
  · have he2 : (I.encE 25 rd 5 rs2 imm == 0) = false := beq_false_of_ne he
    have he3 : (I.encE 25 rd 5 rs2 imm != 0) = true := by rw [bne_iff_ne]; exact he
    clear k0 k1 k2 k3 k4 j30 j5 f30 f5 HE0 HE1
    go_wp2_with fail
    refine (skip_zero _).mono ?_
    rintro e y2 ⟨rfl, b2⟩
    have HE : Hid (_) := HB0.out.trans (b2.mono HB0.out.size)
    clear b2
    go_wp2_with fail
    rw [field_pc]
    simp only [Result.andThen_ok, Oper.upon_value]
    go_wp2_with fail
    go_ret
    exact ⟨rfl, HE.out⟩
end Go.Proofs.YtkckobbedpccfaaGreatDoor
