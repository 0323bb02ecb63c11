/-
  A line of a program, read: a line without a mark.
  A line of a program, read: an empty line, and a line with a mark and more.
-/
import Derived.Test.YtopankjjlapfbaaGreatDoorRead
import Derived.Deep.DeepCutAuto
import Derived.RegionCalls
import Derived.Deep.RegionWith
import Derived.Deep.RegionLaw
namespace Go.Proofs.YtopankjjlapfbaaGreatDoor
open Go.RowKit
set_option linter.unusedVariables false
set_option maxRecDepth 100000

/-- an append in a region, by what it comes to -/
theorem step_append_run {P : Program} {ops : Array Oper} {o : Oper} {a : Act} {w : World} {K : Act → World → Prop} {Q : Exit → Act → World → Prop} {E : Prop}
    (hg : o.guard = none) (s x : Operand) (t : TypeId) (hop : o.op = Op.call { callee := Callee.builtin Builtin.append, args := #[s, x], argTypes := #[t, t] })
    (vs vx v' : Value) (w' : World) (hs : a.eval s = vs) (hx : a.eval x = vx) (hrun : (Builtin.append_ #[t, t] o.type #[vs, vx]).run P w = .ok v' w') (hK : K (a.put o.dst v') w') :
    if Region.wanted o (yielded ops a.tmps) = true then Oper.wp P o a w K Q else E := by
  have hw : Region.wanted o (yielded ops a.tmps) = true := by simp [Region.wanted, hg]
  rw [if_pos hw]
  unfold Oper.wp
  simp [execOp, hop, resolve, invoke, builtin, hs, hx, hrun, Result.andThen]
  exact hK

theorem set_c {w : World} {B : Nat} {c : Nat → Value} (h : ∀ j, j < 9 → w.cell? ⟨B, j, none⟩ = some (c j)) (i : Nat) (v : Value) : ∀ j, j < 9 → (w.setCell ⟨B, i, none⟩ v).cell? ⟨B, j, none⟩ = some (if j = i then v else c j) := fun j hj => by
  by_cases hji : j = i
  · subst hji
    rw [if_pos rfl]
    exact World.cell?_setCell_same w ⟨B, j, none⟩ v (h j hj)
  · rw [if_neg hji, World.cell?_setCell_other _ _ _ _ (by simp)]
    exact h j hj
theorem st_set9 {w : World} {B : Nat} (h : Nine w B) (s : St) :
    StAt (((((((((w.setCell ⟨B, 0, none⟩ (.int .i64 s.line)).setCell ⟨B, 1, none⟩ (.int .i64 s.op)).setCell ⟨B, 2, none⟩ (.int .i64 s.rd)).setCell ⟨B, 3, none⟩ (.int .i64 s.rs1)).setCell ⟨B, 4, none⟩ (.int .i64 s.rs2)).setCell ⟨B, 5, none⟩ (.int .i64 s.imm)).setCell ⟨B, 6, none⟩ (.string s.target)).setCell ⟨B, 7, none⟩ (.int .u32 s.value)).setCell ⟨B, 8, none⟩ (.int .i64 s.count)) B s := by
  obtain ⟨v0, h0⟩ := h.c0
  obtain ⟨v1, h1⟩ := h.c1
  obtain ⟨v2, h2⟩ := h.c2
  obtain ⟨v3, h3⟩ := h.c3
  obtain ⟨v4, h4⟩ := h.c4
  obtain ⟨v5, h5⟩ := h.c5
  obtain ⟨v6, h6⟩ := h.c6
  obtain ⟨v7, h7⟩ := h.c7
  obtain ⟨v8, h8⟩ := h.c8
  have k : ∀ j, j < 9 → w.cell? ⟨B, j, none⟩ = some ([v0, v1, v2, v3, v4, v5, v6, v7, v8].getD j v0) := fun j hj => by
    match j, hj with
    | 0, _ => exact h0
    | 1, _ => exact h1
    | 2, _ => exact h2
    | 3, _ => exact h3
    | 4, _ => exact h4
    | 5, _ => exact h5
    | 6, _ => exact h6
    | 7, _ => exact h7
    | 8, _ => exact h8
  have q := set_c (set_c (set_c (set_c (set_c (set_c (set_c (set_c (set_c k 0 (.int .i64 s.line)) 1 (.int .i64 s.op)) 2 (.int .i64 s.rd)) 3 (.int .i64 s.rs1)) 4 (.int .i64 s.rs2)) 5 (.int .i64 s.imm)) 6 (.string s.target)) 7 (.int .u32 s.value)) 8 (.int .i64 s.count)
  refine ⟨q 0 (by omega), q 1 (by omega), q 2 (by omega), q 3 (by omega), q 4 (by omega), q 5 (by omega), q 6 (by omega), q 7 (by omega), q 8 (by omega), fun i => ?_, ?_⟩
  · rw [World.frozen?_setCell, World.frozen?_setCell, World.frozen?_setCell, World.frozen?_setCell, World.frozen?_setCell, World.frozen?_setCell, World.frozen?_setCell, World.frozen?_setCell, World.frozen?_setCell]
    exact h.fz i
  · exact Nat.lt_of_lt_of_le h.lt (below_set9 (Below.refl 0 w) (Nat.zero_le B) _ _ _ _ _ _ _ _ _).size
theorem st_alloc (w : World) (s : St) : StAt (w.alloc (.cells #[.int .i64 s.line, .int .i64 s.op, .int .i64 s.rd, .int .i64 s.rs1, .int .i64 s.rs2, .int .i64 s.imm, .string s.target, .int .u32 s.value, .int .i64 s.count] 95)) w.heap.size s :=
  ⟨by simp, by simp, by simp, by simp, by simp, by simp, by simp, by simp, by simp, fun i => World.frozen?_alloc_new _ _ _ _, by simp⟩

/-- what a line that is read leaves alone -/
def Fr (w w' : World) (PB mk : Nat) (sv sv' : Value) : Prop :=
  (∀ b, b < w.heap.size → b ≠ PB → b ≠ mk → sv.ownBlock ≠ some b → w'.heap[b]? = w.heap[b]?) ∧ w.heap.size ≤ w'.heap.size ∧ (∀ b, sv'.ownBlock = some b → sv.ownBlock = some b ∨ w.heap.size ≤ b)
theorem Fr.of_below {w w' : World} (PB mk : Nat) (sv : Value) (hb : Below w.heap.size w w') : Fr w w' PB mk sv sv := ⟨fun b hb1 _ _ _ => hb.block b hb1, hb.size, fun b hb => Or.inl hb⟩
theorem Fr.of_push {w w1 w2 W w' : World} {PB mk : Nat} {sv sv' : Value} (hb1 : Below w.heap.size w w1) (hg1 : w1.grownBy w2 (some mk)) (hbW : Below w2.heap.size w2 W) (hr2 : W.grownBy w' sv.ownBlock) (h4 : sv'.ownBlock = sv.ownBlock ∨ sv'.ownBlock = some W.heap.size) (x y : Value) :
    Fr w (((w'.setCell ⟨PB, 2, none⟩ x).setCell ⟨PB, 3, none⟩ y).drew) PB mk sv sv' := by
  have hs1 := hb1.size
  have hs2 := hg1.size
  have hs3 := hbW.size
  refine ⟨fun b h1 h2 h3 h5 => ?_, ?_, fun b hb => ?_⟩
  · show ((w'.setCell ⟨PB, 2, none⟩ x).setCell ⟨PB, 3, none⟩ y).heap[b]? = _
    rw [Below.heap_setCell _ ⟨PB, 3, none⟩ _ b h2, Below.heap_setCell _ ⟨PB, 2, none⟩ _ b h2, hr2.block b (by omega) (fun e => h5 e.symm), hbW.block b (by omega), hg1.block b (by omega) (by simpa using h3), hb1.block b h1]
  · have hq : w'.heap.size ≤ (((w'.setCell ⟨PB, 2, none⟩ x).setCell ⟨PB, 3, none⟩ y).drew).heap.size := ((((Below.refl 0 w').setCell (p := ⟨PB, 2, none⟩) (Nat.zero_le _) x).setCell (p := ⟨PB, 3, none⟩) (Nat.zero_le _) y).drew).size
    have := hr2.size
    omega
  · rcases h4 with e | e
    · rw [e] at hb; exact Or.inl hb
    · rw [e] at hb
      injection hb with hb
      right; omega

theorem PW.push {w0 W w' : World} {PB mo mk nm : Nat} {OM M : ByteArray → Option Int} {sv sv' : Value} {sts : List St} {len : Int} (hW : PW w0 W PB mo mk nm OM M sv sts len) (s : St) (len' : Int)
    (h1 : w'.ownsRow w0.heap.size 95 9 sv' (sts ++ [s]).length ((sts ++ [s]).flatMap stC)) (h2 : W.grownBy w' sv.ownBlock) (h4 : sv'.ownBlock = sv.ownBlock ∨ sv'.ownBlock = some W.heap.size) :
    PW w0 (((w'.setCell ⟨PB, 2, none⟩ sv').setCell ⟨PB, 3, none⟩ (.int .i64 len')).drew) PB mo mk nm OM M sv' (sts ++ [s]) len' := by
  have hPl := hW.lt
  have hOl := hW.mO.lt
  have hMl := hW.mM.lt
  have n1 : sv'.ownBlock ≠ some PB := by
    rcases h4 with e | e
    · rw [e]; exact hW.s1
    · rw [e]; intro h; injection h; omega
  have n2 : sv'.ownBlock ≠ some mo := by
    rcases h4 with e | e
    · rw [e]; exact hW.s2
    · rw [e]; intro h; injection h; omega
  have n3 : sv'.ownBlock ≠ some mk := by
    rcases h4 with e | e
    · rw [e]; exact hW.s3
    · rw [e]; intro h; injection h; omega
  have hbl : ∀ b, b ≠ PB → (((w'.setCell ⟨PB, 2, none⟩ sv').setCell ⟨PB, 3, none⟩ (.int .i64 len')).drew).heap[b]? = w'.heap[b]? := fun b hb => by
    show ((w'.setCell ⟨PB, 2, none⟩ sv').setCell ⟨PB, 3, none⟩ (.int .i64 len')).heap[b]? = _
    rw [Below.heap_setCell _ ⟨PB, 3, none⟩ _ b hb, Below.heap_setCell _ ⟨PB, 2, none⟩ _ b hb]
  have hPB : w'.heap[PB]? = W.heap[PB]? := h2.block PB hPl (fun e => hW.s1 e.symm)
  have e : ∀ i, w'.cell? ⟨PB, i, none⟩ = W.cell? ⟨PB, i, none⟩ := fun i => World.cell?_of_block (a := ⟨PB, i, none⟩) hPB
  have f : ∀ i, w'.frozen? ⟨PB, i, none⟩ = W.frozen? ⟨PB, i, none⟩ := fun i => World.frozen?_of_block (a := ⟨PB, i, none⟩) hPB
  have g2 : (w'.setCell ⟨PB, 2, none⟩ sv').cell? ⟨PB, 2, none⟩ = some sv' := World.cell?_setCell_same _ _ _ ((e 2).trans hW.p2)
  have g3 : (w'.setCell ⟨PB, 2, none⟩ sv').cell? ⟨PB, 3, none⟩ = some (.int .i64 len) := by
    rw [World.cell?_setCell_other _ _ _ _ (by simp)]
    exact (e 3).trans hW.p3
  refine ⟨?_, ?_, ?_, ?_, fun i => ?_, row_keep h1 (fun b hb => hbl b (fun hbp => n1 (by rw [hb, hbp]))), (hW.mO.keep (h2.block _ hOl (fun e => hW.s2 e.symm))).keep (hbl _ (Ne.symm hW.d1)), (hW.mM.keep (h2.block _ hMl (fun e => hW.s3 e.symm))).keep (hbl _ (Ne.symm hW.d2)), hW.d1, hW.d2, hW.d3, n1, n2, n3, hW.h1, hW.h2, hW.h3, ?_⟩
  · show ((w'.setCell ⟨PB, 2, none⟩ sv').setCell ⟨PB, 3, none⟩ (.int .i64 len')).cell? ⟨PB, 0, none⟩ = _
    rw [World.cell?_setCell_other _ _ _ _ (by simp), World.cell?_setCell_other _ _ _ _ (by simp), e]
    exact hW.p0
  · show ((w'.setCell ⟨PB, 2, none⟩ sv').setCell ⟨PB, 3, none⟩ (.int .i64 len')).cell? ⟨PB, 1, none⟩ = _
    rw [World.cell?_setCell_other _ _ _ _ (by simp), World.cell?_setCell_other _ _ _ _ (by simp), e]
    exact hW.p1
  · show ((w'.setCell ⟨PB, 2, none⟩ sv').setCell ⟨PB, 3, none⟩ (.int .i64 len')).cell? ⟨PB, 2, none⟩ = _
    rw [World.cell?_setCell_other _ _ _ _ (by simp)]
    exact g2
  · exact World.cell?_setCell_same _ ⟨PB, 3, none⟩ _ g3
  · show ((w'.setCell ⟨PB, 2, none⟩ sv').setCell ⟨PB, 3, none⟩ (.int .i64 len')).frozen? ⟨PB, i, none⟩ = _
    rw [World.frozen?_setCell, World.frozen?_setCell, f]
    exact hW.fz i
  · refine ((((hW.bel.grown h2 hW.bel.size (fun k hk => ?_)).setCell hW.h1 _).setCell hW.h1 _).drew)
    exact (hW.row.lt k hk).1

set_option maxHeartbeats 6400000 in
theorem read_plain (w0 w : World) (PB mo mk nm : Nat) (OM M : ByteArray → Option Int) (sv : Value) (sts : List St) (len n : Int) (line h : ByteArray) (os : List ByteArray) (hs : line.size ≤ 65536) (he : Errs w0)
    (hst : sts.length < 100000) (hws : wordsL line = h :: os) (hsf : Lib.hasSuffix h.data.toList [58] = false) (hsz : ∀ o ∈ h :: os, o.size ≤ 65536) (hlen : 0 ≤ len ∧ len ≤ 1000000000) (hcnt : ∀ s, stmtO OM h os = some s → 0 ≤ s.count ∧ s.count ≤ 4096)
    (hp : PW w0 w PB mo mk nm OM M sv sts len) :
    Calls Tryz.prog 24 #[.pointer (some ⟨PB, 0, none⟩), .int .i64 n, .string line] w fun e w' =>
      match stmtO OM h os with
      | some s => e = .returned .nilIface ∧ ∃ sv', PW w0 w' PB mo mk nm OM M sv' (sts ++ [{ s with line := n }]) (len + s.count) ∧ Fr w w' PB mk sv sv'
      | none => e = .returned (.iface 77 (.agg #[.int .i64 n])) ∧ Below w0.heap.size w0 w' := by
  have C1 := split_any line hs w (he.below hp.bel)
  rw [hws] at C1
  generalize hO : stmtO OM h os = O
  have HO : Hid (stmtO OM h os = O) := hO
  rw [hO] at hcnt
  have hL0 : (h :: os).length = os.length + 1 := rfl
  generalize hLL : (h :: os).length = L at *
  have hLi : (0 : Int) < (L : Int) := by omega
  have hLi1 : (1 : Int) ≤ (L : Int) := by omega
  have hLi2 : ((L : Int) == 0) = false := by rw [beq_eq_false_iff_ne]; omega
  have hLi3 : decide ((0 : Int) < (L : Int)) = true := by simp; omega
  have CS := Tryz.strings_HasSuffix h ⟨#[58]⟩
  rw [show (⟨#[58]⟩ : ByteArray).data.toList = [58] from rfl, hsf] at CS
  have hhz : h.size ≤ 65536 := hsz h (by simp)
  have HL : Hid (L = os.length + 1) := hL0
  have hLn : 1 ≤ L := by omega
  clear hO hws hsf hL0 hLL
  go_enter Tryz.func24, Tryz.ntmps24
  go_wp2_with fail
  refine C1.mono ?_
  rintro e w1 ⟨⟨A, rfl, hA, hAw, hc⟩, hb1⟩
  have hp1 := hp.below hb1
  have hc0 : w1.cell? ⟨A, 0, none⟩ = some (.string h) := hc 0 (by omega)
  obtain ⟨sv1, hsl, hsl1⟩ := tail_slice A L hLn w1 os h HL.out.symm hA hc
  have HP1 : Hid (PW w0 w1 PB mo mk nm OM M sv sts len) := hp1
  have HSL : Hid (SlS w1 sv1 os) := hsl1
  have HB1 : Hid (Below w.heap.size w w1) := hb1
  clear hp hp1 hc hb1 hsl1 C1
  go_wp2_with fail
  refine (CS _ (by omega)).mono ?_
  rintro e w2 ⟨rfl, rfl⟩
  go_wp2_with fail
  have HC : Hid (∀ W, Below w2.heap.size w2 W → Calls Tryz.prog 41 #[.pointer (some ⟨PB, 0, none⟩), .string h, sv1] W fun e w' =>
      (∃ s' : St, e = .returned (.tuple #[.agg #[.int .i64 s'.line, .int .i64 s'.op, .int .i64 s'.rd, .int .i64 s'.rs1, .int .i64 s'.rs2, .int .i64 s'.imm, .string s'.target, .int .u32 s'.value, .int .i64 s'.count], .bool O.isSome]) ∧ ∀ s, O = some s → s' = s) ∧ Below W.heap.size W w') := fun W hW => by
    have hpW := HP1.out.below hW
    have hq := statement_any PB mo 48 OM h os sv1 W hpW.p0 hpW.mO hhz (HSL.out.below hW) (fun o ho => hsz o (by simp [ho])) (he.below hpW.bel)
    rw [HO.out] at hq
    exact hq
  go_cut [8, 9] (fun p8 b9 wx => ∃ SB s', p8 = .pointer (some ⟨SB, 0, none⟩) ∧ b9 = .bool O.isSome ∧ (∀ s, O = some s → s' = s) ∧ StAt wx SB s' ∧ w2.heap.size ≤ SB ∧ Below w2.heap.size w2 wx)
  case first =>
    go_region_with (go_at_call 41; refine (HC.out _ (by first | exact (Below.refl _ _).drew | exact ((Below.refl _ _).alloc (Nat.le_refl _) _).drew)).mono ?_; rintro e w3 ⟨⟨s', rfl, hs'⟩, hb3⟩; obtain ⟨hcc3, hff3⟩ := bcell hb3; try simp only [World.size_alloc] at hcc3 hff3)
    · have hbA : Below w2.heap.size w2 w3 := (Below.refl _ _).drew.trans hb3
      have hbB : Hid (Below w2.heap.size w2 w3) := hbA
      clear hcc3 hff3 hb3 hbA
      go_wp2_with fail
      go_meet
      exact ⟨w3.heap.size, s', rfl, rfl, hs', st_alloc w3 s', hbB.out.size, hbB.out.alloc hbB.out.size _⟩
    all_goals
      have hbB : Hid (Below w2.heap.size w2 w3) := ((Below.refl _ _).alloc (Nat.le_refl _) _).drew.trans (hb3.mono (by simp [World.drew]))
      have hNi : Hid (Nine w3 w2.heap.size) := (nine_zero w2).keep (w' := w3) (hb3.block _ (by simp [World.drew])) (by have := hb3.size; simp [World.drew] at this; omega)
      clear hcc3 hff3 hb3
      go_wp2_with fail
      go_meet
      exact ⟨w2.heap.size, s', rfl, rfl, hs', st_set9 hNi.out s', Nat.le_refl _, below_set9 hbB.out (Nat.le_refl _) _ _ _ _ _ _ _ _ _⟩
  case rest =>
    obtain ⟨SB, s', rfl, rfl, hs', hS, hSB, hbc⟩ := hcut
    cases O with
    | none =>
      have HBF : Hid (Below w0.heap.size w0 wc) := HP1.out.bel.trans (hbc.mono HP1.out.bel.size)
      clear hs' hS hbc
      go_wp2_with fail
      go_ret
      exact ⟨rfl, HBF.out⟩
    | some s =>
      obtain rfl := hs' s rfl
      have hct := hcnt _ rfl
      have hS1 : StAt (wc.setCell ⟨SB, 0, none⟩ (.int .i64 n)) SB { s' with line := n } :=
        hS.set 0 _ (fun j hj => by match j, hj with | 1, _ => rfl | 2, _ => rfl | 3, _ => rfl | 4, _ => rfl | 5, _ => rfl | 6, _ => rfl | 7, _ => rfl | 8, _ => rfl | n + 9, _ => rfl) rfl (by decide)
      have hbc1 : Below w2.heap.size w2 (wc.setCell ⟨SB, 0, none⟩ (.int .i64 n)) := hbc.setCell hSB _
      have y0 := hS.c0
      have yf := hS.fz
      clear hs' hS hbc hcnt
      go_wp2_with fail
      clear y0 yf
      generalize wc.setCell ⟨SB, 0, none⟩ (.int .i64 n) = wc1 at *
      have hbW : Below w2.heap.size w2 ((wc1.alloc (.cells #[Value.int .i64 n, .int .i64 s'.op, .int .i64 s'.rd, .int .i64 s'.rs1, .int .i64 s'.rs2, .int .i64 s'.imm, .string s'.target, .int .u32 s'.value, .int .i64 s'.count] 95)).drew) := (hbc1.alloc hbc1.size _).drew
      have hPW := HP1.out.below hbW
      obtain ⟨sv', w', hrun, hr1, hr2, hr4⟩ := append_st _ w0.heap.size sv sts { s' with line := n } 68 wc1.heap.size hPW.row hPW.bel.size hst (fun j u hu => by
        have hq := World.cell?_alloc_new wc1 #[Value.int .i64 n, .int .i64 s'.op, .int .i64 s'.rd, .int .i64 s'.rs1, .int .i64 s'.rs2, .int .i64 s'.imm, .string s'.target, .int .u32 s'.value, .int .i64 s'.count] 95 j
        rw [show ((wc1.alloc (.cells #[Value.int .i64 n, .int .i64 s'.op, .int .i64 s'.rd, .int .i64 s'.rs1, .int .i64 s'.rs2, .int .i64 s'.imm, .string s'.target, .int .u32 s'.value, .int .i64 s'.count] 95)).drew).cell? ⟨wc1.heap.size, j, none⟩ = (wc1.alloc (.cells #[Value.int .i64 n, .int .i64 s'.op, .int .i64 s'.rd, .int .i64 s'.rs1, .int .i64 s'.rs2, .int .i64 s'.imm, .string s'.target, .int .u32 s'.value, .int .i64 s'.count] 95)).cell? ⟨wc1.heap.size, j, none⟩ from rfl, hq]
        rw [← hu, ← List.getElem?_toArray]
        rfl)
      obtain ⟨g', c', k', rfl⟩ : ∃ g' c' k', sv' = .slice (some ⟨g', 0, none⟩) k' c' := by
        obtain ⟨_, hq | ⟨g, c, cur, hq, _⟩⟩ := hr1
        · simp at hq
        · exact ⟨g, c, _, hq⟩
      have HFin : Hid (PW w0 (((w'.setCell ⟨PB, 2, none⟩ (.slice (some ⟨g', 0, none⟩) k' c')).setCell ⟨PB, 3, none⟩ (.int .i64 (len + s'.count))).drew) PB mo mk nm OM M (.slice (some ⟨g', 0, none⟩) k' c') (sts ++ [{ s' with line := n }]) (len + s'.count)) := hPW.push _ _ hr1 hr2 hr4
      have HFr : Hid (Fr w (((w'.setCell ⟨PB, 2, none⟩ (.slice (some ⟨g', 0, none⟩) k' c')).setCell ⟨PB, 3, none⟩ (.int .i64 (len + s'.count))).drew) PB mk sv (.slice (some ⟨g', 0, none⟩) k' c')) := Fr.of_push HB1.out ⟨rfl, rfl, rfl, Nat.le_refl _, fun _ _ _ => rfl⟩ hbW hr2 hr4 _ _
      have hpc := HP1.out.below hbc1
      have x2 := hpc.p2
      have x3 := hpc.p3
      have hPBl : PB < wc1.heap.size := hpc.lt
      have hPB : w'.heap[PB]? = ((wc1.alloc (.cells #[Value.int .i64 n, .int .i64 s'.op, .int .i64 s'.rd, .int .i64 s'.rs1, .int .i64 s'.rs2, .int .i64 s'.imm, .string s'.target, .int .u32 s'.value, .int .i64 s'.count] 95)).drew).heap[PB]? := hr2.block PB hPW.lt (fun e => hPW.s1 e.symm)
      have z2 : w'.cell? ⟨PB, 2, none⟩ = some sv := (World.cell?_of_block (a := ⟨PB, 2, none⟩) hPB).trans hPW.p2
      have z3 : w'.cell? ⟨PB, 3, none⟩ = some (.int .i64 len) := (World.cell?_of_block (a := ⟨PB, 3, none⟩) hPB).trans hPW.p3
      have zf : ∀ i, w'.frozen? ⟨PB, i, none⟩ = false := fun i => (World.frozen?_of_block (a := ⟨PB, i, none⟩) hPB).trans (hPW.fz i)
      have c0 := hS1.c0
      have c1 := hS1.c1
      have c2 := hS1.c2
      have c3 := hS1.c3
      have c4 := hS1.c4
      have c5 := hS1.c5
      have c6 := hS1.c6
      have c7 := hS1.c7
      have c8 := hS1.c8
      have hSBl := hS1.lt
      have hnSB : sv.ownBlock ≠ some SB := fun e => by
        have := row_lt HP1.out.row SB e
        omega
      have hSBc : w'.heap[SB]? = ((wc1.alloc (.cells #[Value.int .i64 n, .int .i64 s'.op, .int .i64 s'.rd, .int .i64 s'.rs1, .int .i64 s'.rs2, .int .i64 s'.imm, .string s'.target, .int .u32 s'.value, .int .i64 s'.count] 95)).drew).heap[SB]? := hr2.block SB (by simp [World.drew]; omega) (fun e => hnSB e.symm)
      have z8 : w'.cell? ⟨SB, 8, none⟩ = some (.int .i64 s'.count) := by
        rw [World.cell?_of_block (a := ⟨SB, 8, none⟩) hSBc]
        show (wc1.alloc (.cells #[Value.int .i64 n, .int .i64 s'.op, .int .i64 s'.rd, .int .i64 s'.rs1, .int .i64 s'.rs2, .int .i64 s'.imm, .string s'.target, .int .u32 s'.value, .int .i64 s'.count] 95)).cell? ⟨SB, 8, none⟩ = _
        rw [World.cell?_alloc_lt _ _ ⟨SB, 8, none⟩ hSBl]
        exact c8
      have hne : SB ≠ PB := by
        have := HP1.out.lt
        omega
      clear hr1 hr2 hr4 hPW hbW hpc hbc1 hPB hSBc hS1
      go_region_law (refine step_append_run rfl (.tmp 57) (.tmp 59) 68 rfl _ _ _ w' (by simp [Act.eval]) (by simp [Act.eval]) hrun ?_)
      all_goals
        go_wp2_with fail
        go_region
        all_goals
          go_wp2_with fail
          go_ret
          exact ⟨rfl, _, HFin.out, HFr.out⟩
end Go.Proofs.YtopankjjlapfbaaGreatDoor
namespace Go.Proofs.YtopankjjlapfbaaGreatDoor
open Go.RowKit
set_option linter.unusedVariables false
set_option maxRecDepth 100000

theorem hid_in {p : Prop} (h : p) : Hid p := h
/-- slicing off the first -/
theorem tail_run (A off L : Nat) (hL : 1 ≤ L) : ∀ W, (Instr.sliceAt 71 (.slice (some ⟨A, off, none⟩) L L) (some (.int .i64 1)) none none).run Tryz.prog W = .ok (.slice (if L = 1 then some ⟨A, off, none⟩ else some ⟨A, off + 1, none⟩) (L - 1) (L - 1)) W := fun W => by
  have hsz : (sizeOf 9).run Tryz.prog W = .ok 1 W := Tryz.sizeOf9 W
  simp [go_sem, Tryz.underlying71]
  intro hlt
  omega

theorem read_none (w0 w : World) (PB mo mk nm : Nat) (OM M : ByteArray → Option Int) (sv : Value) (sts : List St) (len n : Int) (line : ByteArray) (hs : line.size ≤ 65536) (he : Errs w0) (hws : wordsL line = [])
    (hp : PW w0 w PB mo mk nm OM M sv sts len) :
    Calls Tryz.prog 24 #[.pointer (some ⟨PB, 0, none⟩), .int .i64 n, .string line] w fun e w' => e = .returned .nilIface ∧ PW w0 w' PB mo mk nm OM M sv sts len ∧ Fr w w' PB mk sv sv := by
  have C1 := split_any line hs w (he.below hp.bel)
  rw [hws] at C1
  have HP : Hid (PW w0 w PB mo mk nm OM M sv sts len) := hp
  clear hp hws
  simp only [List.length_nil] at C1
  go_enter Tryz.func24, Tryz.ntmps24
  go_wp2_with fail
  refine C1.mono ?_
  rintro e w1 ⟨⟨A, rfl, hA, hAw, hc⟩, hb1⟩
  clear hc
  go_wp2_with fail
  go_ret
  exact ⟨rfl, HP.out.below hb1, Fr.of_below _ _ _ hb1⟩

set_option maxHeartbeats 6400000 in
theorem read_marked (w0 w : World) (PB mo mk nm : Nat) (OM M : ByteArray → Option Int) (sv : Value) (sts : List St) (len n : Int) (line hm h : ByteArray) (os : List ByteArray) (hs : line.size ≤ 65536) (he : Errs w0) (hnm : nm < 1000000)
    (hst : sts.length < 100000) (hws : wordsL line = hm :: h :: os) (hsf : Lib.hasSuffix hm.data.toList [58] = true) (hok : ((M (markN hm)).isNone && nameB (markN hm)) = true) (hsz : ∀ o ∈ hm :: h :: os, o.size ≤ 65536) (hlen : 0 ≤ len ∧ len ≤ 1000000000) (hcnt : ∀ s, stmtO OM h os = some s → 0 ≤ s.count ∧ s.count ≤ 4096)
    (hp : PW w0 w PB mo mk nm OM M sv sts len) :
    Calls Tryz.prog 24 #[.pointer (some ⟨PB, 0, none⟩), .int .i64 n, .string line] w fun e w' =>
      match stmtO OM h os with
      | some s => e = .returned .nilIface ∧ ∃ sv', PW w0 w' PB mo mk (nm + 1) OM (putM M (markN hm) len) sv' (sts ++ [{ s with line := n }]) (len + s.count) ∧ Fr w w' PB mk sv sv'
      | none => e = .returned (.iface 77 (.agg #[.int .i64 n])) ∧ Below w0.heap.size w0 w' := by
  have C1 := split_any line hs w (he.below hp.bel)
  rw [hws] at C1
  generalize hO : stmtO OM h os = O
  have HO : Hid (stmtO OM h os = O) := hO
  rw [hO] at hcnt
  have hL0 : (h :: os).length = os.length + 1 := rfl
  have hL9 : (hm :: h :: os).length = (h :: os).length + 1 := rfl
  generalize hLL9 : (hm :: h :: os).length = L9 at *
  generalize hLL : (h :: os).length = L at *
  have hLi : (0 : Int) < (L : Int) := by omega
  have hLi1 : (1 : Int) ≤ (L : Int) := by omega
  have hLi2 : ((L : Int) == 0) = false := by rw [beq_eq_false_iff_ne]; omega
  have hLi3 : decide ((0 : Int) < (L : Int)) = true := by simp; omega
  have hKi : (0 : Int) < (L9 : Int) := by omega
  have hKi1 : (1 : Int) ≤ (L9 : Int) := by omega
  have hKi3 : decide ((0 : Int) < (L9 : Int)) = true := by simp; omega
  have CS := Tryz.strings_HasSuffix hm ⟨#[58]⟩
  rw [show (⟨#[58]⟩ : ByteArray).data.toList = [58] from rfl, hsf] at CS
  have CT := Tryz.strings_TrimSuffix hm ⟨#[58]⟩
  rw [show (⟨#[58]⟩ : ByteArray).data.toList = [58] from rfl, show (⟨(Lib.trimSuffix hm.data.toList [58]).toArray⟩ : ByteArray) = markN hm from rfl] at CT
  have hhz : h.size ≤ 65536 := hsz h (by simp)
  have hmz : hm.size ≤ 65536 := hsz hm (by simp)
  have hnz : (markN hm).size ≤ 65536 := by
    show (Lib.trimSuffix hm.data.toList [58]).toArray.size ≤ _
    have h2 : hm.data.toList.length = hm.size := by rw [Array.length_toList]; rfl
    unfold Lib.trimSuffix
    split <;> simp <;> omega
  have HL : Hid (L = os.length + 1) := hL0
  have HL9 : Hid (L9 = L + 1) := hL9
  have hLn : 1 ≤ L := by omega
  have CM := fun W (hW : PW w0 W PB mo mk nm OM M sv sts len) => mark_any w0 W PB mo mk nm OM M sv sts len (markN hm) hnz he hnm hW
  rw [hok, if_pos rfl] at CM
  generalize putM M (markN hm) len = M' at *
  generalize markN hm = nmk at *
  clear hO hws hsf hL0 hLL hL9 hLL9 hok
  go_enter Tryz.func24, Tryz.ntmps24
  go_wp2_with fail
  refine C1.mono ?_
  rintro e w1 ⟨⟨A, rfl, hA, hAw, hc⟩, hb1⟩
  have hp1 := hp.below hb1
  have hc0 : w1.cell? ⟨A, 0, none⟩ = some (.string hm) := hc 0 (by omega)
  have hsl9 : ∀ W, (Instr.sliceAt 71 (.slice (some ⟨A, 0, none⟩) L9 L9) (some (.int .i64 1)) none none).run Tryz.prog W = .ok (.slice (some ⟨A, 1, none⟩) L L) W := fun W => by
    have hq := HL9.out
    rw [tail_run A 0 L9 (by omega) W, if_neg (by omega), show L9 - 1 = L by omega]
  have hAm : A ≠ mk := by
    have := hp.mM.lt
    omega
  have HP0 : Hid (PW w0 w1 PB mo mk nm OM M sv sts len) := hp1
  have HCC : Hid (∀ i, i < L9 → w1.cell? ⟨A, i, none⟩ = some (.string ((hm :: h :: os).getD i ⟨#[]⟩))) := hc
  have HB1 : Hid (Below w.heap.size w w1) := hb1
  clear hp hp1 hc hb1 C1
  go_wp2_with fail
  refine (CS _ (by omega)).mono ?_
  rintro e w2 ⟨rfl, rfl⟩
  go_wp2_with fail
  refine (CT _ (by omega)).mono ?_
  rintro e w3 ⟨rfl, rfl⟩
  go_wp2_with fail
  refine (CM _ HP0.out).mono ?_
  rintro e w2 ⟨rfl, hp2, hg2⟩
  have hcA : ∀ i, i < L9 → w2.cell? ⟨A, i, none⟩ = some (.string ((hm :: h :: os).getD i ⟨#[]⟩)) := fun i hi => by
    rw [World.cell?_of_block (a := ⟨A, i, none⟩) (hg2.block A hA (by simpa using hAm))]
    exact HCC.out i hi
  have hA2 : A < w2.heap.size := Nat.lt_of_lt_of_le hA hg2.size
  have hc1 : w2.cell? ⟨A, 1, none⟩ = some (.string h) := hcA 1 (by have := HL9.out; omega)
  have hsl := tail_run A 1 L hLn
  have hsl1 : SlS w2 (.slice (if L = 1 then some ⟨A, 1, none⟩ else some ⟨A, 1 + 1, none⟩) (L - 1) (L - 1)) os := by
    refine ⟨_, _, by rw [HL.out, Nat.add_sub_cancel], fun hne => ?_⟩
    have : os.length ≠ 0 := fun e => hne (List.length_eq_zero_iff.1 e)
    have hLL := HL.out
    have hL9 := HL9.out
    refine ⟨A, 2, by rw [if_neg (by omega)], hA2, fun i hi => ?_⟩
    rw [Nat.add_comm]
    exact hcA (i + 2) (by omega)
  generalize (Value.slice (if L = 1 then some ⟨A, 1, none⟩ else some ⟨A, 1 + 1, none⟩) (L - 1) (L - 1)) = sv1 at *
  have HP1 : Hid (PW w0 w2 PB mo mk (nm + 1) OM M' sv sts len) := hp2
  have HSL : Hid (SlS w2 sv1 os) := hsl1
  have HG2 := hid_in hg2
  clear hp2 hg2 hcA hsl1 HP0 HCC CM
  go_wp2_with fail
  have HC : Hid (∀ W, Below w2.heap.size w2 W → Calls Tryz.prog 41 #[.pointer (some ⟨PB, 0, none⟩), .string h, sv1] W fun e w' =>
      (∃ s' : St, e = .returned (.tuple #[.agg #[.int .i64 s'.line, .int .i64 s'.op, .int .i64 s'.rd, .int .i64 s'.rs1, .int .i64 s'.rs2, .int .i64 s'.imm, .string s'.target, .int .u32 s'.value, .int .i64 s'.count], .bool O.isSome]) ∧ ∀ s, O = some s → s' = s) ∧ Below W.heap.size W w') := fun W hW => by
    have hpW := HP1.out.below hW
    have hq := statement_any PB mo 48 OM h os sv1 W hpW.p0 hpW.mO hhz (HSL.out.below hW) (fun o ho => hsz o (by simp [ho])) (he.below hpW.bel)
    rw [HO.out] at hq
    exact hq
  go_cut [8, 9] (fun p8 b9 wx => ∃ SB s', p8 = .pointer (some ⟨SB, 0, none⟩) ∧ b9 = .bool O.isSome ∧ (∀ s, O = some s → s' = s) ∧ StAt wx SB s' ∧ w2.heap.size ≤ SB ∧ Below w2.heap.size w2 wx)
  case first =>
    go_region_with (go_at_call 41; refine (HC.out _ (by first | exact (Below.refl _ _).drew | exact ((Below.refl _ _).alloc (Nat.le_refl _) _).drew)).mono ?_; rintro e w3 ⟨⟨s', rfl, hs'⟩, hb3⟩; obtain ⟨hcc3, hff3⟩ := bcell hb3; try simp only [World.size_alloc] at hcc3 hff3)
    · have hbA : Below w2.heap.size w2 w3 := (Below.refl _ _).drew.trans hb3
      have hbB : Hid (Below w2.heap.size w2 w3) := hbA
      clear hcc3 hff3 hb3 hbA
      go_wp2_with fail
      go_meet
      exact ⟨w3.heap.size, s', rfl, rfl, hs', st_alloc w3 s', hbB.out.size, hbB.out.alloc hbB.out.size _⟩
    all_goals
      have hbB : Hid (Below w2.heap.size w2 w3) := ((Below.refl _ _).alloc (Nat.le_refl _) _).drew.trans (hb3.mono (by simp [World.drew]))
      have hNi : Hid (Nine w3 w2.heap.size) := (nine_zero w2).keep (w' := w3) (hb3.block _ (by simp [World.drew])) (by have := hb3.size; simp [World.drew] at this; omega)
      clear hcc3 hff3 hb3
      go_wp2_with fail
      go_meet
      exact ⟨w2.heap.size, s', rfl, rfl, hs', st_set9 hNi.out s', Nat.le_refl _, below_set9 hbB.out (Nat.le_refl _) _ _ _ _ _ _ _ _ _⟩
  case rest =>
    obtain ⟨SB, s', rfl, rfl, hs', hS, hSB, hbc⟩ := hcut
    cases O with
    | none =>
      have HBF : Hid (Below w0.heap.size w0 wc) := HP1.out.bel.trans (hbc.mono HP1.out.bel.size)
      clear hs' hS hbc
      go_wp2_with fail
      go_ret
      exact ⟨rfl, HBF.out⟩
    | some s =>
      obtain rfl := hs' s rfl
      have hct := hcnt _ rfl
      have hS1 : StAt (wc.setCell ⟨SB, 0, none⟩ (.int .i64 n)) SB { s' with line := n } :=
        hS.set 0 _ (fun j hj => by match j, hj with | 1, _ => rfl | 2, _ => rfl | 3, _ => rfl | 4, _ => rfl | 5, _ => rfl | 6, _ => rfl | 7, _ => rfl | 8, _ => rfl | n + 9, _ => rfl) rfl (by decide)
      have hbc1 : Below w2.heap.size w2 (wc.setCell ⟨SB, 0, none⟩ (.int .i64 n)) := hbc.setCell hSB _
      have y0 := hS.c0
      have yf := hS.fz
      clear hs' hS hbc hcnt
      go_wp2_with fail
      clear y0 yf
      generalize wc.setCell ⟨SB, 0, none⟩ (.int .i64 n) = wc1 at *
      have hbW : Below w2.heap.size w2 ((wc1.alloc (.cells #[Value.int .i64 n, .int .i64 s'.op, .int .i64 s'.rd, .int .i64 s'.rs1, .int .i64 s'.rs2, .int .i64 s'.imm, .string s'.target, .int .u32 s'.value, .int .i64 s'.count] 95)).drew) := (hbc1.alloc hbc1.size _).drew
      have hPW := HP1.out.below hbW
      obtain ⟨sv', w', hrun, hr1, hr2, hr4⟩ := append_st _ w0.heap.size sv sts { s' with line := n } 68 wc1.heap.size hPW.row hPW.bel.size hst (fun j u hu => by
        have hq := World.cell?_alloc_new wc1 #[Value.int .i64 n, .int .i64 s'.op, .int .i64 s'.rd, .int .i64 s'.rs1, .int .i64 s'.rs2, .int .i64 s'.imm, .string s'.target, .int .u32 s'.value, .int .i64 s'.count] 95 j
        rw [show ((wc1.alloc (.cells #[Value.int .i64 n, .int .i64 s'.op, .int .i64 s'.rd, .int .i64 s'.rs1, .int .i64 s'.rs2, .int .i64 s'.imm, .string s'.target, .int .u32 s'.value, .int .i64 s'.count] 95)).drew).cell? ⟨wc1.heap.size, j, none⟩ = (wc1.alloc (.cells #[Value.int .i64 n, .int .i64 s'.op, .int .i64 s'.rd, .int .i64 s'.rs1, .int .i64 s'.rs2, .int .i64 s'.imm, .string s'.target, .int .u32 s'.value, .int .i64 s'.count] 95)).cell? ⟨wc1.heap.size, j, none⟩ from rfl, hq]
        rw [← hu, ← List.getElem?_toArray]
        rfl)
      obtain ⟨g', c', k', rfl⟩ : ∃ g' c' k', sv' = .slice (some ⟨g', 0, none⟩) k' c' := by
        obtain ⟨_, hq | ⟨g, c, cur, hq, _⟩⟩ := hr1
        · simp at hq
        · exact ⟨g, c, _, hq⟩
      have HFin : Hid (PW w0 (((w'.setCell ⟨PB, 2, none⟩ (.slice (some ⟨g', 0, none⟩) k' c')).setCell ⟨PB, 3, none⟩ (.int .i64 (len + s'.count))).drew) PB mo mk (nm + 1) OM M' (.slice (some ⟨g', 0, none⟩) k' c') (sts ++ [{ s' with line := n }]) (len + s'.count)) := hPW.push _ _ hr1 hr2 hr4
      have HFr : Hid (Fr w (((w'.setCell ⟨PB, 2, none⟩ (.slice (some ⟨g', 0, none⟩) k' c')).setCell ⟨PB, 3, none⟩ (.int .i64 (len + s'.count))).drew) PB mk sv (.slice (some ⟨g', 0, none⟩) k' c')) := Fr.of_push HB1.out HG2.out hbW hr2 hr4 _ _
      have hpc := HP1.out.below hbc1
      have x2 := hpc.p2
      have x3 := hpc.p3
      have hPBl : PB < wc1.heap.size := hpc.lt
      have hPB : w'.heap[PB]? = ((wc1.alloc (.cells #[Value.int .i64 n, .int .i64 s'.op, .int .i64 s'.rd, .int .i64 s'.rs1, .int .i64 s'.rs2, .int .i64 s'.imm, .string s'.target, .int .u32 s'.value, .int .i64 s'.count] 95)).drew).heap[PB]? := hr2.block PB hPW.lt (fun e => hPW.s1 e.symm)
      have z2 : w'.cell? ⟨PB, 2, none⟩ = some sv := (World.cell?_of_block (a := ⟨PB, 2, none⟩) hPB).trans hPW.p2
      have z3 : w'.cell? ⟨PB, 3, none⟩ = some (.int .i64 len) := (World.cell?_of_block (a := ⟨PB, 3, none⟩) hPB).trans hPW.p3
      have zf : ∀ i, w'.frozen? ⟨PB, i, none⟩ = false := fun i => (World.frozen?_of_block (a := ⟨PB, i, none⟩) hPB).trans (hPW.fz i)
      have c0 := hS1.c0
      have c1 := hS1.c1
      have c2 := hS1.c2
      have c3 := hS1.c3
      have c4 := hS1.c4
      have c5 := hS1.c5
      have c6 := hS1.c6
      have c7 := hS1.c7
      have c8 := hS1.c8
      have hSBl := hS1.lt
      have hnSB : sv.ownBlock ≠ some SB := fun e => by
        have := row_lt HP1.out.row SB e
        omega
      have hSBc : w'.heap[SB]? = ((wc1.alloc (.cells #[Value.int .i64 n, .int .i64 s'.op, .int .i64 s'.rd, .int .i64 s'.rs1, .int .i64 s'.rs2, .int .i64 s'.imm, .string s'.target, .int .u32 s'.value, .int .i64 s'.count] 95)).drew).heap[SB]? := hr2.block SB (by simp [World.drew]; omega) (fun e => hnSB e.symm)
      have z8 : w'.cell? ⟨SB, 8, none⟩ = some (.int .i64 s'.count) := by
        rw [World.cell?_of_block (a := ⟨SB, 8, none⟩) hSBc]
        show (wc1.alloc (.cells #[Value.int .i64 n, .int .i64 s'.op, .int .i64 s'.rd, .int .i64 s'.rs1, .int .i64 s'.rs2, .int .i64 s'.imm, .string s'.target, .int .u32 s'.value, .int .i64 s'.count] 95)).cell? ⟨SB, 8, none⟩ = _
        rw [World.cell?_alloc_lt _ _ ⟨SB, 8, none⟩ hSBl]
        exact c8
      have hne : SB ≠ PB := by
        have := HP1.out.lt
        omega
      clear hr1 hr2 hr4 hPW hbW hpc hbc1 hPB hSBc hS1
      go_region_law (refine step_append_run rfl (.tmp 57) (.tmp 59) 68 rfl _ _ _ w' (by simp [Act.eval]) (by simp [Act.eval]) hrun ?_)
      all_goals
        go_wp2_with fail
        go_region
        all_goals
          go_wp2_with fail
          go_ret
          exact ⟨rfl, _, HFin.out, HFr.out⟩
end Go.Proofs.YtopankjjlapfbaaGreatDoor
