/-
  A load or store of a hart in Kernel without tables, as a plain function: what the step leaves, and that the device's way leaves the same.
  What Begin makes of the law's state.
  EmulateLikely: what is no program of one load or store.
-/
import Derived.Test.YtkckobbedpccfaaGreatDoorQMath
import Derived.Test.YtkckobbedpccfaaGreatDoorQK2
import Derived.Test.YtkckobbedpccfaaGreatDoorQK1
import Derived.Test.YtkckobbedpccfaaGreatDoorQO
import Derived.Deep.CutRange
namespace Go.Proofs.YtkckobbedpccfaaGreatDoor
open Go.RowKit
set_option linter.unusedVariables false
set_option maxRecDepth 100000
/-- what is read out of such an instruction's word -/
structure Ins9 (op rd rs2 imm a : Int) : Prop where
  va : I.validW a = true
  op_ : I.opW a = op
  rd_ : I.rdW a = rd
  r1_ : I.rs1W a = 5
  r2_ : I.rs2W a = rs2
  im_ : I.immW a = imm
  lo : 0 ≤ a
  hi : a ≤ 4294967295
  rdl : 0 ≤ rd ∧ rd ≤ 15
  r2l : 0 ≤ rs2 ∧ rs2 ≤ 15
  iml : -8192 ≤ imm ∧ imm ≤ 8191
theorem ins9_of {op rd rs2 imm : Int} (ho : 23 ≤ op ∧ op ≤ 28) (hv : I.encE op rd 5 rs2 imm = 0) : Ins9 op rd rs2 imm (I.encW op rd 5 rs2 imm) := by
  have hp : I.validP op rd 5 rs2 imm = true := by
    unfold I.encE at hv
    cases h : I.validP op rd 5 rs2 imm
    · rw [h] at hv; simp at hv
    · rfl
  have e : I.encW op rd 5 rs2 imm = I.wordP op rd 5 rs2 imm := by unfold I.encW; rw [if_pos hp]
  have hb := I.insn_back hp
  have hr := I.word_range hp
  have hf := I.valid_facts hp
  rw [e]
  have hs : I.shapeR op ≠ 5 := by
    have := I.shape_cases op
    omega
  obtain ⟨b1, b2, b3, b4, b5⟩ := hb
  have va : I.validW (I.wordP op rd 5 rs2 imm) = true := by
    unfold I.validW
    rw [b1, b2, b3, b4, b5]
    exact hp
  exact ⟨va, b1, b2, b3, b4, b5, hr.1, hr.2, ⟨hf.2.2.1, hf.2.2.2.1⟩, ⟨hf.2.2.2.2.2.2.1, hf.2.2.2.2.2.2.2.1⟩, hf.2.2.2.2.2.2.2.2.2 hs⟩
theorem lik_asked (imm : Int) : IntKind.u64.wrap (IntKind.u64.wrap (1024 - IntKind.u64.wrap imm) + IntKind.u64.wrap imm) = 1024 := by
  simp only [IntKind.wrap_u64]
  omega
/-- the hart ahead of its step -/
def likS (X : Nat → Int) (zs : List Int) : Hs := ⟨X, 0, 1, zeroR, zs, -1, false, 0, 0, 0, 0, 0, 0, 0⟩
/-- the registers and the memory behind it -/
def likX (X : Nat → Int) (zs : List Int) (op rd : Int) : Nat → Int := if op ≤ 25 then (if rd.toNat = 0 then X else C.upd X rd.toNat (loadV zs 1024 (widthP op))) else X
def likZ (X : Nat → Int) (zs : List Int) (op rs2 : Int) : List Int := if op ≤ 25 then zs else storeV zs 1024 (widthP op) (X rs2.toNat)
def likT (X : Nat → Int) (zs : List Int) (op rd rs2 imm a : Int) : Hs := ⟨likX X zs op rd, 4, 1, zeroR, likZ X zs op rs2, -1, false, 0, a, op, rd.toNat, 5, rs2.toNat, imm⟩
theorem lik_num (zs : List Int) (zl : zs.length = 3072) (op : Int) : numE zs.length 1024 (widthP op) = 0 := by
  rw [zl]
  rcases width_cases op with h | h | h <;> rw [h] <;> decide
theorem lik_one [E.Bits] (zs : List Int) (X : Nat → Int) (op rd rs2 imm a : Int) (h9 : Ins9 op rd rs2 imm a) (ho : 23 ≤ op ∧ op ≤ 28) (zl : zs.length = 3072) (zw : IntKind.u32.wrap (loadV zs 0 4) = a) (hx : X 5 = IntKind.u64.wrap (1024 - IntKind.u64.wrap imm)) : (likS X zs).fresh.doP TB = (Rs.ok, likT X zs op rd rs2 imm a) := by
  unfold likS
  rw [do_plain _ (by show (-1 : Int) < 0; decide) (due_none rfl rfl) (by show (0 : Int) % 4 = 0; decide) (by show numE zs.length 0 4 = 0; rw [zl]; decide)]
  unfold Hs.fresh
  dsimp only
  rw [zw]
  unfold Hs.insP
  dsimp only
  rw [if_pos ⟨h9.va, fun h => by omega⟩]
  unfold Hs.laid
  dsimp only
  rw [h9.op_, h9.rd_, h9.r1_, h9.r2_, h9.im_]
  obtain ⟨s, hs⟩ : ∃ s : Hs, (⟨X, 0, 1, zeroR, zs, -1, false, 0, a, op, rd.toNat, (5 : Int).toNat, rs2.toNat, imm⟩ : Hs) = s := ⟨_, rfl⟩
  have ea : s.asked = 1024 := by
    rw [← hs]
    unfold Hs.asked Hs.reg
    dsimp only
    show IntKind.u64.wrap (X 5 + IntKind.u64.wrap imm) = 1024
    rw [hx]
    exact lik_asked imm
  have e1 : s.sec < 0 := by rw [← hs]; show (-1 : Int) < 0; decide
  have er : ∀ k, s.rch TB k = ⟨1024, 0, 0, 0⟩ := fun k => by
    unfold Hs.rch
    rw [ea, if_pos (by rcases width_cases s.op with h | h | h <;> rw [h] <;> decide)]
    unfold Hs.tr TB
    rw [if_pos e1]
  have eo : s.op = op := by rw [← hs]
  have ez : s.zs = zs := by rw [← hs]
  rw [hs]
  unfold Hs.perP
  rw [eo, if_neg (by omega), if_neg (by omega)]
  by_cases hl : op ≤ 25
  · rw [if_pos hl]
    unfold Hs.loadsP Hs.tk Hs.ld Hs.got
    rw [er, eo, ez]
    dsimp only
    rw [if_pos (lik_num zs zl op)]
    rw [if_pos (show ((⟨1024, 0, 0, 0⟩ : Tr).none = true) from by rfl), if_pos (show ((⟨1024, 0, 0, 0⟩ : Tr).none = true) from by rfl)]
    subst hs
    unfold Hs.told Hs.puts Hs.went Hs.next likT likX likZ
    dsimp only
    rw [if_pos hl, if_pos hl]
    rfl
  · rw [if_neg hl, if_pos ho.2]
    unfold Hs.storesP Hs.ld
    rw [er, eo, ez]
    dsimp only
    rw [if_pos (show ((⟨1024, 0, 0, 0⟩ : Tr).none = true) from by rfl), if_pos (lik_num zs zl op)]
    subst hs
    unfold Hs.stored Hs.went Hs.next Hs.reg likT likX likZ
    dsimp only
    rw [if_neg hl, if_neg hl]
    rfl
theorem ld_back (zs : List Int) (hb : Bytes zs) (zl : zs.length = 3072) (n : Int) (hn : n = 1 ∨ n = 4 ∨ n = 8) : K.ldV (loadV zs 1024 n) n = loadV zs 1024 n := by
  unfold K.ldV
  rw [if_pos hn]
  have hz : numE zs.length 1024 n = 0 := by rw [zl]; rcases hn with rfl | rfl | rfl <;> decide
  unfold loadV
  rw [if_pos hz]
  have b := leFrom_bound zs hb n.toNat (1024 : Int).toNat
  generalize leFrom zs (1024 : Int).toNat n.toNat = y at *
  rcases hn with rfl | rfl | rfl
  · have e : y % 2 ^ (8 * (1 : Int).toNat) = y := Int.emod_eq_of_lt b.1 b.2
    unfold extW
    rw [if_neg (by omega), if_neg (by omega), e]
  · have b2 : y < 4294967296 := b.2
    by_cases h : 2147483648 ≤ y
    · have e5 : extW 4 y = y + 18446744069414584320 := by unfold extW; rw [if_pos ⟨rfl, h⟩]
      have e : (y + 18446744069414584320) % 2 ^ (8 * (4 : Int).toNat) = y := by
        show (y + 18446744069414584320) % 4294967296 = y
        omega
      rw [e5, e, e5]
    · have e5 : extW 4 y = y := by unfold extW; rw [if_neg (by omega)]
      have e : y % 2 ^ (8 * (4 : Int).toNat) = y := Int.emod_eq_of_lt b.1 b.2
      rw [e5, e, e5]
  · have e : y % 2 ^ (8 * (8 : Int).toNat) = y := Int.emod_eq_of_lt b.1 b.2
    unfold extW
    rw [if_neg (by omega), if_neg (by omega), e]
theorem st_back (zs : List Int) (zl : zs.length = 3072) (n : Int) (hn : n = 1 ∨ n = 4 ∨ n = 8) (v : Int) : loadV (storeV zs 1024 n v) 1024 n = extW n (v % 2 ^ (8 * n.toNat)) := by
  have hz : numE zs.length 1024 n = 0 := by rw [zl]; rcases hn with rfl | rfl | rfl <;> decide
  have hl : (storeV zs 1024 n v).length = zs.length := storeV_len zs 1024 n v (by decide)
  unfold loadV
  rw [hl, if_pos hz]
  unfold storeV
  rw [if_pos hz]
  have hb : (bytesOf v n.toNat).length = n.toNat := bytesOf_len v _
  have hn8 : n.toNat ≤ 8 := by omega
  have e : leFrom (splice zs (1024 : Int).toNat (bytesOf v n.toNat)) (1024 : Int).toNat n.toNat = leFrom (bytesOf v n.toNat) 0 n.toNat := by
    refine leFrom_congr _ _ n.toNat _ _ (fun i hi => ?_)
    rw [splice_at _ _ _ _ (by rw [hb, zl]; show 1024 + n.toNat ≤ 3072; omega), if_pos (by rw [hb]; omega)]
    congr 1
    omega
  rw [e, le_bytes v n.toNat n.toNat (by omega)]
theorem mask_ext (n y : Int) (hn : n = 1 ∨ n = 4 ∨ n = 8) (h0 : 0 ≤ y) (h1 : y < 2 ^ (8 * n.toNat)) (M : Int) (hM : M = 2 ^ (8 * n.toNat) - 1) : bits .and .u64 (extW n y) M = y := by
  subst hM
  rcases hn with rfl | rfl | rfl
  · have h2 : y < 256 := h1
    unfold extW
    rw [if_neg (by omega)]
    exact (bits_mask .u64 64 (by decide) wraps_u64 8 (by decide) y h0 (by omega)).trans (Int.emod_eq_of_lt h0 h2)
  · have h2 : y < 4294967296 := h1
    unfold extW
    by_cases h : 2147483648 ≤ y
    · rw [if_pos ⟨rfl, h⟩]
      refine (bits_mask .u64 64 (by decide) wraps_u64 32 (by decide) (y + 18446744069414584320) (by omega) (by omega)).trans ?_
      show (y + 18446744069414584320) % 4294967296 = y
      omega
    · rw [if_neg (by omega)]
      exact (bits_mask .u64 64 (by decide) wraps_u64 32 (by decide) y h0 (by omega)).trans (Int.emod_eq_of_lt h0 h2)
  · have h2 : y < 18446744073709551616 := h1
    unfold extW
    rw [if_neg (by omega)]
    exact (bits_mask .u64 64 (by decide) wraps_u64 64 (by decide) y h0 (by omega)).trans (Int.emod_eq_of_lt h0 h2)
end Go.Proofs.YtkckobbedpccfaaGreatDoor
namespace Go.Proofs.YtkckobbedpccfaaGreatDoor
open Go.RowKit
set_option linter.unusedVariables false
set_option maxRecDepth 100000
/-- what the law makes of its state -/
def likC (X : Nat → Int) (x5 : Int) (k : Nat) (pa : Option Addr) (pN pC : Nat) : Array Value := #[.int .u64 0, .int .u64 (X 1), .int .u64 (X 2), .int .u64 (X 3), .int .u64 (X 4), .int .u64 x5, .int .u64 (X 6), .int .u64 (X 7), .int .u64 (X 8), .int .u64 (X 9), .int .u64 (X 10), .int .u64 (X 11), .int .u64 (X 12), .int .u64 (X 13), .int .u64 (X 14), .int .u64 (X 15), .int .u64 0, .int .i64 1, .int .u64 0, .int .u64 0, .int .u64 0, .int .u64 0, .int .u64 0, .int .u64 0, .int .u64 0, .int .u64 0, .int .u64 0, .int .u64 0, .int .u64 0, .int .u64 0, .slice (some ⟨k, 0, none⟩) 1 1, .slice none 0 0, .slice pa pN pC, .int .i64 (-1)]
def likY (X : Nat → Int) (x5 : Int) : Nat → Int := fun n => if n = 0 then 0 else if n = 5 then x5 else X n
/-- the memory that Begin makes -/
def likM (ps : List (Int × Int)) (pN : Nat) (o : I5) : List Int := memW 0 ([] ++ ([o] : List I5).map I5.enc) (memP ps (List.replicate 3072 0) pN) (0 + 1)
theorem likM_is (ps : List (Int × Int)) (pN : Nat) (o : I5) : likM ps pN o = storeV (memP ps (List.replicate 3072 0) pN) 0 4 o.enc := by
  unfold likM
  rw [memW_next]
  rfl
theorem likM_len (ps : List (Int × Int)) (pN : Nat) (o : I5) : (likM ps pN o).length = 3072 := by
  rw [likM_is, storeV_len _ _ _ _ (by decide), memP_len]
  simp
theorem likM_word (ps : List (Int × Int)) (pN : Nat) (o : I5) (v : Int) : IntKind.u32.wrap (loadV (storeV (likM ps pN o) 1024 8 v) 0 4) = o.enc := by
  obtain ⟨a, b⟩ := enc_range o
  rw [load_off _ 1024 0 _ 8 4 (by decide) (by decide) (by decide) (by decide) (by decide), likM_is]
  refine word_at _ 0 _ (by decide) ?_ a b
  rw [memP_len]
  decide
theorem likY_U {X : Nat → Int} (hX : ∀ n, n < 16 → C.U (X n)) (x5 : Int) (h5 : C.U x5) : ∀ n, n < 16 → C.U (likY X x5 n) := fun n hn => by
  unfold likY
  split
  · exact ⟨by decide, by decide⟩
  · split
    · exact h5
    · exact hX n hn
theorem lik_regs {w : World} {A k : Nat} {X : Nat → Int} {x5 : Int} {pa : Option Addr} {pN pC : Nat} (h : w.heap[A]? = some (.cells (likC X x5 k pa pN pC) 31 (0, 0))) : w.rangeAt A 0 (regC (likY X x5) 0 1).toList := by
  intro j v hv
  rw [Nat.zero_add, C.cell_at h]
  have hv' : (regC (likY X x5) 0 1)[j]? = some v := by simpa using hv
  have hj : j < 18 := (Array.getElem?_eq_some_iff.1 hv').1
  rw [← hv']
  match j, hj with
  | 0, _ | 1, _ | 2, _ | 3, _ | 4, _ | 5, _ | 6, _ | 7, _ | 8, _ | 9, _ | 10, _ | 11, _ | 12, _ | 13, _ | 14, _ | 15, _ | 16, _ | 17, _ => rfl
  | k + 18, h => omega
theorem lik_both (W : World) (hz : SZ W) (X : Nat → Int) (x5 : Int) (k : Nat) (pa : Option Addr) (pN pC : Nat) (ps : List (Int × Int)) (o : I5) (hi : InsnsIn W (some ⟨k, 0, none⟩) 1 [o]) (hp : PokesIn W pa pN ps) (hpC : pN ≤ pC) (hpM : pC ≤ 9223372036854775807) : Calls Tryz.prog 16 #[.agg (likC X x5 k pa pN pC)] W fun e W' => ∃ b g c h F G B Q, e = .returned (.tuple #[.pointer (some ⟨F, 0, none⟩), .pointer (some ⟨G, 0, none⟩), .pointer (some ⟨B, 0, none⟩), .pointer (some ⟨Q, 0, none⟩), .bool true]) ∧
      Made W W' b g c h F G B Q (likM ps pN o) zeroR (-1) := by
  refine both_any (likC X x5 k pa pN pC) zeroR 0 (-1) (some ⟨k, 0, none⟩) none pa 1 1 0 0 pN pC [o] [] ps _ rfl rfl rfl rfl rfl (fun n hn => ?_) hz ⟨by decide, by decide⟩ (fun n hn => ?_) rfl hi (Nat.le_refl _) (by decide) ⟨rfl, .inl rfl, fun i => ?_⟩ (Nat.le_refl _) (by decide) (fun h => ⟨rfl, rfl⟩) hp hpC hpM (by decide)
  · match n, hn with
    | 0, _ | 1, _ | 2, _ | 3, _ | 4, _ | 5, _ | 6, _ | 7, _ | 8, _ | 9, _ | 10, _ | 11, _ => rfl
  · exact ⟨by show (0 : Int) ≤ 0; decide, by show (0 : Int) < 18446744073709551616; decide⟩
  · exact ⟨by simp, by simp⟩
set_option maxHeartbeats 3200000 in
theorem lik_begin (W : World) (hz : SZ W) (X : Nat → Int) (x5 : Int) (k : Nat) (pa : Option Addr) (pN pC : Nat) (ps : List (Int × Int)) (op rd rs2 imm : Int) (hi : InsnsIn W (some ⟨k, 0, none⟩) 1 [⟨op, rd, 5, rs2, imm⟩]) (hp : PokesIn W pa pN ps) (hpC : pN ≤ pC) (hpM : pC ≤ 9223372036854775807) : Calls Tryz.prog 6 #[.agg (likC X x5 k pa pN pC)] W fun e W' => ∃ W1 b g c h F G B Q, e = .returned (.tuple #[.pointer (some ⟨B, 0, none⟩), .pointer (some ⟨F, 0, none⟩), .int .u32 (I.encW op rd 5 rs2 imm), .bool true]) ∧
      Made (W.alloc (.cells (likC X x5 k pa pN pC) 31)) W1 b g c h F G B Q (likM ps pN ⟨op, rd, 5, rs2, imm⟩) zeroR (-1) ∧ Below W1.heap.size W1 W' := by
  obtain ⟨fs31, hu31⟩ := und31
  obtain ⟨x, hx⟩ : ∃ x, W.alloc (.cells (likC X x5 k pa pN pC) 31) = x := ⟨_, rfl⟩
  have bx : Below W.heap.size W x := by rw [← hx]; exact (Below.refl _ _).alloc (Nat.le_refl _) _
  have a0 : x.heap[W.heap.size]? = some (.cells (likC X x5 k pa pN pC) 31 (0, 0)) := by rw [← hx]; exact C.heap_alloc_at W _
  have lk : k < W.heap.size := by
    obtain ⟨_, h2⟩ := hi
    rcases h2 with h2 | ⟨B, off, e, hB, _⟩
    · omega
    · cases e; exact hB
  have hi' : InsnsIn x (some ⟨k, 0, none⟩) 1 [⟨op, rd, 5, rs2, imm⟩] := by
    obtain ⟨h1, h2⟩ := hi
    rcases h2 with h2 | ⟨B, off, e, hB, hc⟩
    · omega
    · refine ⟨h1, .inr ⟨B, off, e, Nat.lt_of_lt_of_le hB bx.size, fun i hi => ?_⟩⟩
      obtain ⟨c0, c1, c2, c3, c4⟩ := hc i hi
      have q := fun o => bx.cell (p := ⟨B, o, none⟩) hB
      exact ⟨(q _).trans c0, (q _).trans c1, (q _).trans c2, (q _).trans c3, (q _).trans c4⟩
  have C1 := lik_both x (hz.below bx) X x5 k pa pN pC ps ⟨op, rd, 5, rs2, imm⟩ hi' (hp.below rfl bx) hpC hpM
  have HA : Hid (_) := a0
  have HI : Hid (_) := hi'
  have lx := bx.size
  clear a0 hi' hi hp hz bx
  rw [hx]
  go_enter Tryz.func6, Tryz.ntmps6
  go_wp2_with (first
    | refine wpList_load_row rfl 31 _ rfl W.heap.size rfl 31 (likC X x5 k pa pN pC) (0, 0) _ HA.out hu31 rfl inf31 ?_
    | fail)
  clear hx
  refine C1.mono ?_
  rintro e W1 ⟨b, g, c, h, F, G, B, Q, rfl, md⟩
  have HMD : Hid (_) := md
  have hb := md.bl
  have a1 := keepB HA.out hb
  have c30 : W1.cell? ⟨W.heap.size, 30, none⟩ = some (.slice (some ⟨k, 0, none⟩) 1 1) := (C.cell_at a1 30).trans rfl
  have l30 := lt_of_heap a1
  obtain ⟨d0, d1, d2, d3, d4⟩ : W1.cell? ⟨k, 0, none⟩ = some (.int .i64 op) ∧ W1.cell? ⟨k, 1, none⟩ = some (.int .i64 rd) ∧ W1.cell? ⟨k, 2, none⟩ = some (.int .i64 5) ∧ W1.cell? ⟨k, 3, none⟩ = some (.int .i64 rs2) ∧ W1.cell? ⟨k, 4, none⟩ = some (.int .i64 imm) := by
    obtain ⟨_, h2⟩ := HI.out
    rcases h2 with h2 | ⟨B', off, e, hB, hc⟩
    · omega
    · cases e
      obtain ⟨c0, c1, c2, c3, c4⟩ := hc 0 (by decide)
      have q := fun o => hb.cell (p := ⟨k, o, none⟩) hB
      exact ⟨(q _).trans c0, (q _).trans c1, (q _).trans c2, (q _).trans c3, (q _).trans c4⟩
  have lk1 : k < W1.heap.size := by have := hb.size; omega
  have C2 := I.rencode_any op rd 5 rs2 imm W1
  unfold I.ins at C2
  clear C1 md hb a1 HA HI lx lk
  go_wp2_with fail
  refine C2.mono ?_
  rintro e W2 ⟨rfl, b2⟩
  have HB : Hid (_) := b2
  clear C2 b2 c30 d0 d1 d2 d3 d4
  go_wp2_with fail
  refine bodyPost_ret (v := _) ?h1 rfl ⟨W1, b, g, c, h, F, G, B, Q, rfl, HMD.out, HB.out⟩
  case h1 => simp [results, Tryz.results6, go_sem]
end Go.Proofs.YtkckobbedpccfaaGreatDoor
namespace Go.Proofs.YtkckobbedpccfaaGreatDoor
open Go.RowKit
set_option linter.unusedVariables false
set_option maxRecDepth 100000
theorem skip_zero (w : World) : Calls Tryz.prog 4 #[.agg #[.int .u64 0, .int .u64 0, .int .u64 0, .int .u64 0, .int .u64 0, .int .u64 0, .int .u64 0, .int .u64 0, .int .u64 0, .int .u64 0, .int .u64 0, .int .u64 0, .int .u64 0, .int .u64 0, .int .u64 0, .int .u64 0, .int .u64 0, .int .i64 0]] w fun r w' => r = .returned (.agg #[.int .u64 0, .int .u64 0, .int .u64 0, .int .u64 0, .int .u64 0, .int .u64 0, .int .u64 0, .int .u64 0, .int .u64 0, .int .u64 0, .int .u64 0, .int .u64 0, .int .u64 0, .int .u64 0, .int .u64 0, .int .u64 0, .int .u64 4, .int .i64 0]) ∧ Below w.heap.size w w' := K.skip_any (fun _ => 0) 0 0 w
theorem field_pc (v : Int) (w : World) : (Instr.field 25 (.agg #[.int .u64 0, .int .u64 0, .int .u64 0, .int .u64 0, .int .u64 0, .int .u64 0, .int .u64 0, .int .u64 0, .int .u64 0, .int .u64 0, .int .u64 0, .int .u64 0, .int .u64 0, .int .u64 0, .int .u64 0, .int .u64 0, .int .u64 v, .int .i64 0]) 1).run Tryz.prog w = .ok (.int .u64 v) w := by kernel_rfl
set_option maxHeartbeats 3200000 in
theorem lik_many {W : World} {cs : Array Value} {X R : Nat → Int} {pc mode sec : Int} {ia pa : Option Addr} {iN iC pN pC : Nat} {vw : Value} (hG : Looks cs X R pc mode sec (.slice ia iN iC) vw (.slice pa pN pC)) (hn : iN ≠ 1) (v : Int) : Calls Tryz.prog 3 #[.agg cs, .int .u64 v] W fun e W' => e = .returned (.bool true) ∧ Below W.heap.size W W' := by
  rw [given_lit hG]
  unfold stCells
  have hb0 : Below W.heap.size W (W.alloc (.cells (stCells X R pc mode sec (.slice ia iN iC) vw (.slice pa pN pC)) 31)) := (Below.refl _ _).alloc (Nat.le_refl _) _
  have HB0 : Hid (_) := hb0
  clear hb0 hG
  have en : ((iN : Int) == 1) = false := beq_false_of_ne (by omega)
  have en2 : ((iN : Int) != 1) = true := by rw [bne_iff_ne]; omega
  unfold stCells at HB0
  go_enter Tryz.func3, Tryz.ntmps3
  go_wp2_with fail
  refine (skip_zero _).mono ?_
  rintro e y ⟨rfl, b1⟩
  have HE : Hid (_) := HB0.out.trans (b1.mono HB0.out.size)
  clear b1
  go_wp2_with fail
  rw [field_pc]
  simp only [Result.andThen_ok, Oper.upon_value]
  go_wp2_with fail
  go_ret
  exact ⟨rfl, HE.out⟩
set_option maxHeartbeats 3200000 in
theorem lik_other {W : World} {cs : Array Value} {X R : Nat → Int} {pc mode sec : Int} {B off : Nat} {pa : Option Addr} {iC pN pC : Nat} {vw : Value} (hG : Looks cs X R pc mode sec (.slice (some ⟨B, off, none⟩) 1 iC) vw (.slice pa pN pC)) {op : Int} (hB : B < W.heap.size) (c0 : W.cell? ⟨B, off, none⟩ = some (.int .i64 op)) (ho : op < 23 ∨ 28 < op) (v : Int) : Calls Tryz.prog 3 #[.agg cs, .int .u64 v] W fun e W' => e = .returned (.bool true) ∧ Below W.heap.size W W' := by
  rw [given_lit hG]
  unfold stCells
  have hb0 : Below W.heap.size W (W.alloc (.cells (stCells X R pc mode sec (.slice (some ⟨B, off, none⟩) 1 iC) vw (.slice pa pN pC)) 31)) := (Below.refl _ _).alloc (Nat.le_refl _) _
  have HB0 : Hid (_) := hb0
  clear hb0 hG
  unfold stCells at HB0
  rcases ho with ho | ho
  · go_enter Tryz.func3, Tryz.ntmps3
    go_wp2_with fail
    refine (skip_zero _).mono ?_
    rintro e y ⟨rfl, b1⟩
    have HE : Hid (_) := HB0.out.trans (b1.mono HB0.out.size)
    clear b1
    go_wp2_with fail
    rw [field_pc]
    simp only [Result.andThen_ok, Oper.upon_value]
    go_wp2_with fail
    go_ret
    exact ⟨rfl, HE.out⟩
  · have ho2 : ¬ op < 23 := by omega
    go_enter Tryz.func3, Tryz.ntmps3
    go_wp2_with fail
    refine (skip_zero _).mono ?_
    rintro e y ⟨rfl, b1⟩
    have HE : Hid (_) := HB0.out.trans (b1.mono HB0.out.size)
    clear b1
    go_wp2_with fail
    rw [field_pc]
    simp only [Result.andThen_ok, Oper.upon_value]
    go_wp2_with fail
    go_ret
    exact ⟨rfl, HE.out⟩
end Go.Proofs.YtkckobbedpccfaaGreatDoor
