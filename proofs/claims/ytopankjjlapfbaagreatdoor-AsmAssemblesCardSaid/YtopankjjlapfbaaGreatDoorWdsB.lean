/-
  The words of a program, in plain terms; what a slice of words comes to when one is appended.
  The words of a program, told.
-/
import Derived.Test.YtopankjjlapfbaaGreatDoorReadD
import Derived.Test.YtopankjjlapfbaaGreatDoorWalks12
namespace Go.Proofs.YtopankjjlapfbaaGreatDoor
open Go.RowKit
set_option linter.unusedVariables false
set_option maxRecDepth 100000

/-- where an instruction's number leads to: its mark, or the number itself -/
def immO (M : ByteArray → Option Int) (out : List Int) (s : St) : Option Int :=
  if s.target = ⟨#[]⟩ then some s.imm else (M s.target).map fun a => a - (out.length : Int)
/-- a statement's words behind those that are there -/
def stepW (M : ByteArray → Option Int) (out : List Int) (s : St) : Option (List Int) :=
  if s.op = 0 then some (out ++ List.replicate s.count.toNat s.value)
  else match immO M out s with
    | some i => if validP s.op s.rd s.rs1 s.rs2 i = true then some (out ++ [wordP s.op s.rd s.rs1 s.rs2 i]) else none
    | none => none
/-- all words, or the line of the first statement that has none -/
def wordsP (M : ByteArray → Option Int) : List Int → List St → Except Int (List Int)
  | out, [] => .ok out
  | out, s :: r => match stepW M out s with
    | some out' => wordsP M out' r
    | none => .error s.line

theorem info31 : (Tryz.prog.info? 31).map (fun i => (i.zero, i.size, i.bytes)) = some (some (.int .u32 0), 1, 4) := by kernel_rfl
theorem u23 : Tryz.prog.underlying 23 = some (.slice 31) := by kernel_rfl

/-- a slice of words, the program's own -/
structure WR (wS w : World) (v : Value) (out : List Int) : Prop where
  form : ∃ a cap, v = .slice a out.length cap
  row : w.ownsRow wS.heap.size 31 1 v out.length (out.map (Value.int .u32))
  bel : Below wS.heap.size wS w

theorem WR.push {wS w : World} {v : Value} {out : List Int} (h : WR wS w v out) (x : Int) (hl : out.length < 1000000000) :
    ∃ v' w', (Builtin.append_ #[23, 23] 23 #[v, .slice (some ⟨w.heap.size, 0, none⟩) 1 1]).run Tryz.prog (w.alloc (.cells #[.int .u32 x] 31)) = .ok v' w' ∧ WR wS w' v' (out ++ [x]) ∧
      (w.alloc (.cells #[.int .u32 x] 31)).grownBy w' v.ownBlock ∧ (v'.ownBlock = v.ownBlock ∨ v'.ownBlock = some (w.heap.size + 1)) := by
  obtain ⟨i0, hi, hz0, hz1, hz2⟩ := info_parts info31
  have hbs := h.bel.size
  obtain ⟨v', w', hrun, h1, h2, _, h4⟩ := run_append_own_at (P := Tryz.prog) (w.alloc (.cells #[.int .u32 x] 31)) wS.heap.size 23 23 31 i0 _ 1 4 u23 hi hz0 hz1 hz2 rfl (by decide) v out.length (out.map (Value.int .u32)) (h.row.alloc _) ⟨w.heap.size, 0, none⟩ 1 1 [.int .u32 x] rfl
    (cell_one_new w (.int .u32 x) 31) (fun u hu => by simp at hu; subst hu; rfl) (by unfold maxLen; omega) (by omega) (by simp; omega)
  have hrow : w'.ownsRow wS.heap.size 31 1 v' (out ++ [x]).length ((out ++ [x]).map (Value.int .u32)) := by
    rw [List.length_append, List.map_append]
    exact h1
  refine ⟨v', w', hrun, ⟨?_, hrow, ?_⟩, h2, by simpa using h4⟩
  · obtain ⟨_, hq | ⟨g, c, cur, hq, _⟩⟩ := hrow
    · simp at hq
    · exact ⟨_, _, hq⟩
  · exact (h.bel.alloc hbs _).grown h2 (by simp; omega) (fun k hk => (h.row.lt k hk).1)

theorem WR.below {wS w w' : World} {v : Value} {out : List Int} (h : WR wS w v out) (hb : Below w.heap.size w w') : WR wS w' v out :=
  ⟨h.form, row_keep h.row (fun b hbk => hb.block b (row_lt h.row b hbk)), h.bel.trans (hb.mono h.bel.size)⟩

theorem wpList_append_run {P : Program} {w : World} {ops : Array Oper} {rest : List Oper} {o : Oper} {a : Act} {Q : Exit → Act → World → Prop} (hgd : o.guard = none) (s x : Operand) (t : TypeId)
    (ho : o.op = .call { callee := .builtin .append, args := #[s, x], argTypes := #[t, t] }) (vs vx v' : Value) (w' : World) (hs : a.eval s = vs) (hx : a.eval x = vx)
    (hrun : (Builtin.append_ #[t, t] o.type #[vs, vx]).run P w = .ok v' w') (h : wpList P ops Q rest (a.put o.dst v') w') : wpList P ops Q (o :: rest) a w :=
  wpList_plain hgd fun _ hK => by
    unfold Oper.wp
    simp [execOp, ho, resolve, invoke, builtin, hs, hx, hrun, Result.andThen]
    exact hK _ _ h

theorem flat9 : ∀ (sts : List St) (k j : Nat) (hk : k < sts.length), j < 9 → (sts.flatMap stC)[k * 9 + j]? = (stC sts[k])[j]?
  | s :: r, 0, j, hk, hj => by
    simp only [List.flatMap_cons, Nat.zero_mul, Nat.zero_add, List.getElem_cons_zero]
    exact List.getElem?_append_left hj
  | s :: r, k + 1, j, hk, hj => by
    simp only [List.flatMap_cons, List.getElem_cons_succ]
    have h9 : (stC s).length = 9 := rfl
    rw [List.getElem?_append_right (by omega), h9, show (k + 1) * 9 + j - 9 = k * 9 + j by omega]
    exact flat9 r k j (by simpa using hk) hj
end Go.Proofs.YtopankjjlapfbaaGreatDoor
namespace Go.Proofs.YtopankjjlapfbaaGreatDoor
open Go.RowKit
set_option linter.unusedVariables false
set_option maxRecDepth 100000

theorem hid_mk {p : Prop} (h : p) : Hid p := h

theorem StAt.keep {w w' : World} {B : Nat} {s : St} (h : StAt w B s) (hh : w'.heap[B]? = w.heap[B]?) (hs : B < w'.heap.size) : StAt w' B s := by
  have e : ∀ i, w'.cell? ⟨B, i, none⟩ = w.cell? ⟨B, i, none⟩ := fun i => World.cell?_of_block (a := ⟨B, i, none⟩) hh
  have f : ∀ i, w'.frozen? ⟨B, i, none⟩ = w.frozen? ⟨B, i, none⟩ := fun i => World.frozen?_of_block (a := ⟨B, i, none⟩) hh
  exact ⟨by rw [e]; exact h.c0, by rw [e]; exact h.c1, by rw [e]; exact h.c2, by rw [e]; exact h.c3, by rw [e]; exact h.c4, by rw [e]; exact h.c5, by rw [e]; exact h.c6, by rw [e]; exact h.c7, by rw [e]; exact h.c8, fun i => by rw [f]; exact h.fz i, hs⟩

set_option maxHeartbeats 12800000 in
theorem words_any (w0 w : World) (PB mo mk nm : Nat) (OM M : ByteArray → Option Int) (sv : Value) (sts : List St) (len : Int) (hlen : 0 ≤ len ∧ len ≤ 16384) (hst : sts.length < 100000)
    (hcnt : ∀ s ∈ sts, 0 ≤ s.count ∧ s.count ≤ 4096) (hop : ∀ s ∈ sts, (Lit.int .i64 s.op).wf = true) (htz : ∀ s ∈ sts, s.target.size ≤ 65536) (hM : ∀ t a, M t = some a → 0 ≤ a ∧ a ≤ 1000000000)
    (hp : PW w0 w PB mo mk nm OM M sv sts len) :
    Calls Tryz.prog 25 #[.pointer (some ⟨PB, 0, none⟩)] w fun e w' => Below w.heap.size w w' ∧ match wordsP M [] sts with
      | .ok out => ∃ v, e = .returned (.tuple #[v, .nilIface]) ∧ WR w w' v out
      | .error n => e = .returned (.tuple #[.slice none 0 0, .iface 77 (.agg #[.int .i64 n])]) := by
  generalize hR : wordsP M [] sts = R
  have HR : Hid (wordsP M [] sts = R) := hR
  clear hR
  obtain ⟨i0, hi, hz0, hz1, hz2⟩ := info_parts info31
  obtain ⟨L0, hL0⟩ : ∃ n : Nat, len = (n : Int) := ⟨len.toNat, by omega⟩
  subst hL0
  obtain ⟨wm, hmk, hrow0, hgm⟩ := run_make_own (P := Tryz.prog) w w.heap.size 23 31 i0 _ 1 u23 hi hz0 hz1 .i64 .i64 L0 (by rw [hz2]; omega) (by unfold maxLen; omega) (Nat.le_refl _)
  have hbm : Below w.heap.size w wm := (Below.refl _ _).grown hgm (Nat.le_refl _) (fun k hk => by cases hk)
  have hWR0 : WR w wm (.slice (some ⟨w.heap.size, 0, none⟩) 0 L0) [] := ⟨⟨_, _, rfl⟩, hrow0, hbm⟩
  obtain ⟨sa, sc, hsv⟩ : ∃ sa sc, sv = .slice sa sts.length sc := by
    obtain ⟨_, hq | ⟨g, c, cur, hq, _⟩⟩ := hp.row
    · rw [hq.1, hq.2]; exact ⟨none, 0, rfl⟩
    · exact ⟨_, _, hq⟩
  subst hsv
  have hpm := hp.below hbm
  have x2 := hp.p2
  have x3 := hp.p3
  have y2 := hpm.p2
  have HP : Hid (PW w0 w PB mo mk nm OM M (.slice sa sts.length sc) sts (L0 : Int)) := hp
  have HW0 : Hid (WR w wm (.slice (some ⟨w.heap.size, 0, none⟩) 0 L0) []) := hWR0
  have HEND : Hid (sts.drop sts.length = []) := List.drop_length
  have HST : Hid (∀ k, k < sts.length → ∃ s, s ∈ sts ∧ sts.drop k = s :: sts.drop (k + 1) ∧ ∀ wr : World, Below w.heap.size w wr → ∃ g, sa = some ⟨g, 0, none⟩ ∧ g < wr.heap.size ∧ ∀ j, j < 9 → wr.cell? ⟨g, k * 9 + j, none⟩ = (stC s)[j]?) := fun k hk => by
    refine ⟨sts[k], List.getElem_mem hk, List.drop_eq_getElem_cons hk, fun wr hb => ?_⟩
    have hq := (hp.below hb).row
    have hq' := hq
    obtain ⟨_, hx | ⟨g, c, cur, hx, _, hh, _⟩⟩ := hq
    · have := hx.2; omega
    · injection hx with h1 h2 h3
      subst h1
      subst h3
      refine ⟨g, rfl, ?_, fun j hj => ?_⟩
      · rcases Nat.lt_or_ge g wr.heap.size with h' | h'
        · exact h'
        · rw [Array.getElem?_eq_none h'] at hh; cases hh
      · rw [hq'.cellAt (k * 9 + j) (by omega)]
        exact flat9 sts k j hk hj
  clear hp hpm hrow0 hgm hWR0 hbm
  generalize hLL : sts.length = L at *
  go_enter Tryz.func25, Tryz.ntmps25
  go_wp2_with fail
  go_loopw [4, 21] (fun v i wr => ∃ (k : Nat) (out : List Int), k ≤ L ∧ i = .int .i64 k ∧ WR w wr v out ∧ out.length ≤ 4097 * k ∧ wordsP M [] sts = wordsP M out (sts.drop k)) (fun _ i _ => L - (intOf i).toNat)
  case atStart => exact ⟨0, [], by omega, rfl, HW0.out, by simp, rfl⟩
  case round =>
    obtain ⟨k, out, hk, rfl, hW, hol, hwp⟩ := hrel
    by_cases hk2 : k < L
    · obtain ⟨s, hsm, hdr, hrowf⟩ := HST.out k hk2
      rw [hdr] at hwp
      have hwp2 : wordsP M [] sts = match stepW M out s with
          | some out' => wordsP M out' (sts.drop (k + 1))
          | none => .error s.line := hwp
      have HWP : Hid (wordsP M [] sts = match stepW M out s with
          | some out' => wordsP M out' (sts.drop (k + 1))
          | none => .error s.line) := hwp2
      clear hwp hwp2 hdr
      obtain ⟨g, hsag, hgl, hcell⟩ := hrowf wr hW.bel
      subst hsag
      have f0 : wr.cell? ⟨g, k * 9, none⟩ = some (.int .i64 s.line) := hcell 0 (by omega)
      have f1 : wr.cell? ⟨g, k * 9 + 1, none⟩ = some (.int .i64 s.op) := hcell 1 (by omega)
      have f2 : wr.cell? ⟨g, k * 9 + 2, none⟩ = some (.int .i64 s.rd) := hcell 2 (by omega)
      have f3 : wr.cell? ⟨g, k * 9 + 3, none⟩ = some (.int .i64 s.rs1) := hcell 3 (by omega)
      have f4 : wr.cell? ⟨g, k * 9 + 4, none⟩ = some (.int .i64 s.rs2) := hcell 4 (by omega)
      have f5 : wr.cell? ⟨g, k * 9 + 5, none⟩ = some (.int .i64 s.imm) := hcell 5 (by omega)
      have f6 : wr.cell? ⟨g, k * 9 + 6, none⟩ = some (.string s.target) := hcell 6 (by omega)
      have f7 : wr.cell? ⟨g, k * 9 + 7, none⟩ = some (.int .u32 s.value) := hcell 7 (by omega)
      have f8 : wr.cell? ⟨g, k * 9 + 8, none⟩ = some (.int .i64 s.count) := hcell 8 (by omega)
      obtain ⟨a1, c1, rfl⟩ := hW.form
      have hcs := hcnt s hsm
      have hops := hop s hsm
      have htzs := htz s hsm
      have HWR : Hid (WR w wr (.slice a1 out.length c1) out) := hW
      have hPr := HP.out.below hW.bel
      have p1 := hPr.p1
      have hPl : PB < wr.heap.size := hPr.lt
      have HMM : Hid (MapIs wr mk nm M) := hPr.mM
      clear hcell hrowf hW hPr
      by_cases ho : s.op = 0
      · have hob : (s.op == 0) = true := by simp [ho]
        have hst : stepW M out s = some (out ++ List.replicate s.count.toNat s.value) := by unfold stepW; rw [if_pos ho]
        have HWQ : Hid (wordsP M [] sts = wordsP M (out ++ List.replicate s.count.toNat s.value) (sts.drop (k + 1))) := by
          have h := HWP.out
          rw [hst] at h
          exact h
        clear ho hst hops
        obtain ⟨cn, hcn⟩ : ∃ cn : Nat, s.count = (cn : Int) := ⟨s.count.toNat, by omega⟩
        have HCN : Hid (s.count = (cn : Int)) := hcn
        have HSA : Hid (StAt (wr.alloc (.cells #[Value.int .i64 s.line, .int .i64 s.op, .int .i64 s.rd, .int .i64 s.rs1, .int .i64 s.rs2, .int .i64 s.imm, .string s.target, .int .u32 s.value, .int .i64 s.count] 95)) wr.heap.size s) := st_alloc wr s
        have HWA : Hid (WR w (wr.alloc (.cells #[Value.int .i64 s.line, .int .i64 s.op, .int .i64 s.rd, .int .i64 s.rs1, .int .i64 s.rs2, .int .i64 s.imm, .string s.target, .int .u32 s.value, .int .i64 s.count] 95)) (.slice a1 out.length c1) out) := HWR.out.below ((Below.refl _ _).alloc (Nat.le_refl _) _)
        have HOB : Hid ((Value.slice a1 out.length c1).ownBlock ≠ some wr.heap.size) := fun e => by
          have := row_lt HWR.out.row wr.heap.size e
          omega
        clear hcn
        go_wp2_with fail
        generalize wr.alloc (.cells #[Value.int .i64 s.line, .int .i64 s.op, .int .i64 s.rd, .int .i64 s.rs1, .int .i64 s.rs2, .int .i64 s.imm, .string s.target, .int .u32 s.value, .int .i64 s.count] 95) = wA at *
        clear HWR HMM
        generalize wr.heap.size = SBn at *
        go_loopw [4, 31] (fun v2 j wq => ∃ q : Nat, q ≤ cn ∧ j = .int .i64 q ∧ WR w wq v2 (out ++ List.replicate q s.value) ∧ StAt wq SBn s ∧ v2.ownBlock ≠ some SBn) (fun _ j _ => cn - (intOf j).toNat)
        case atStart => exact ⟨0, by omega, rfl, by simpa using HWA.out, HSA.out, HOB.out⟩
        case round =>
          obtain ⟨q, hq, rfl, hWq, hSq, hOq⟩ := hrel
          have hcq := HCN.out
          by_cases hq2 : q < cn
          · have hqi : (q : Int) < s.count := by omega
            obtain ⟨a2, c2, rfl⟩ := hWq.form
            obtain ⟨v', w', hrun, hW', hg', h4⟩ := hWq.push s.value (by simp; omega)
            have y7 := hSq.c7
            have hSl := hSq.lt
            have HS' : Hid (StAt w' SBn s) := by
              refine hSq.keep ?_ (by have := hg'.size; simp at this; omega)
              rw [hg'.block SBn (by simp; omega) (fun e => hOq e.symm)]
              exact Below.heap_alloc _ _ _ hSl
            have HO' : Hid (v'.ownBlock ≠ some SBn) := by
              rcases h4 with e | e
              · show v'.ownBlock ≠ _
                rw [e]; exact hOq
              · show v'.ownBlock ≠ _
                rw [e]; intro h; injection h; omega
            have HWR' : Hid (WR w w' v' (out ++ List.replicate (q + 1) s.value)) := by
              have he : out ++ List.replicate (q + 1) s.value = (out ++ List.replicate q s.value) ++ [s.value] := by
                rw [List.replicate_succ', List.append_assoc]
              rw [he]
              exact hW'
            clear hW' hg' h4 hWq hSq hOq hcq
            generalize (out ++ List.replicate q s.value).length = ol at *
            go_wp2_with (at_builtin; refine wpList_append_run rfl _ _ 23 rfl _ _ v' w' rfl rfl hrun ?_)
            go_roundw
            case rel => exact ⟨q + 1, by omega, by go_num, HWR'.out, HS'.out, HO'.out⟩
            case measure => simp [intOf]; omega
          · obtain rfl : q = cn := by omega
            have hqi : ¬ (q : Int) < s.count := by omega
            have hrr : out ++ List.replicate s.count.toNat s.value = out ++ List.replicate q s.value := by rw [hcq]; rfl
            rw [hrr] at HWQ
            have HWF := hid_mk hWq
            clear hWq hSq hOq hrr
            go_wp2_with fail
            go_roundw
            case rel => exact ⟨k + 1, _, by omega, by go_num, HWF.out, by simp; omega, HWQ.out⟩
            case measure => simp [intOf]; omega
      · have hob : (s.op == 0) = false := by rw [beq_eq_false_iff_ne]; exact ho
        have HO : Hid (¬ s.op = 0) := ho
        clear ho
        by_cases ht : s.target = ⟨#[]⟩
        · have hte : (s.target.toList == []) = true := by rw [ht, Go.ByteArray.toList_eq]; rfl
          have HIM : Hid (immO M out s = some s.imm) := by
            show immO M out s = some s.imm
            unfold immO
            rw [if_pos ht]
          clear ht
          have CE := encode_any s.op s.rd s.rs1 s.rs2 s.imm hops
          unfold ins at CE
          have hbW : Below wr.heap.size wr (wr.alloc (.cells #[Value.int .i64 s.line, .int .i64 s.op, .int .i64 s.rd, .int .i64 s.rs1, .int .i64 s.rs2, .int .i64 s.imm, .string s.target, .int .u32 s.value, .int .i64 s.count] 95)) := ((Below.refl _ _).alloc (Nat.le_refl _) _)
          have hszW : (wr.alloc (.cells #[Value.int .i64 s.line, .int .i64 s.op, .int .i64 s.rd, .int .i64 s.rs1, .int .i64 s.rs2, .int .i64 s.imm, .string s.target, .int .u32 s.value, .int .i64 s.count] 95)).heap.size = wr.heap.size + 1 := by simp
          cases hval : validP s.op s.rd s.rs1 s.rs2 s.imm with
          | false =>
            have hRR : R = .error s.line := by
              rw [← HR.out, HWP.out]
              unfold stepW
              rw [if_neg HO.out, HIM.out]
              simp only [hval, Bool.false_eq_true, if_false]
            subst hRR
            have hee : encE s.op s.rd s.rs1 s.rs2 s.imm = 10 := by unfold encE; rw [hval]; rfl
            rw [hee] at CE
            generalize encW s.op s.rd s.rs1 s.rs2 s.imm = ew at *
            go_wp2_with fail
            refine (CE _).mono ?_
            rintro e w4 ⟨rfl, hb4⟩
            have e0 := hb4.cell (p := ⟨wr.heap.size, 0, none⟩) (by show wr.heap.size < _; omega)
            have e0' : w4.cell? ⟨wr.heap.size, 0, none⟩ = some (.int .i64 s.line) := by rw [e0]; simp
            have HBF : Hid (Below w.heap.size w w4) := HWR.out.bel.trans ((hbW.trans (hb4.mono hbW.size)).mono HWR.out.bel.size)
            clear e0 hb4 hbW hszW
            go_wp2_with fail
            go_quiet (fail)
            go_wp2_with fail
            go_ret2
            exact ⟨below_drewN HBF.out _, rfl⟩
          | true =>
            have hsp : stepW M out s = some (out ++ [wordP s.op s.rd s.rs1 s.rs2 s.imm]) := by
              unfold stepW
              rw [if_neg HO.out, HIM.out]
              simp only [hval, if_true]
            have HWQ : Hid (wordsP M [] sts = wordsP M (out ++ [wordP s.op s.rd s.rs1 s.rs2 s.imm]) (sts.drop (k + 1))) := by
              have h := HWP.out
              rw [hsp] at h
              exact h
            have hee : encE s.op s.rd s.rs1 s.rs2 s.imm = 0 := by unfold encE; rw [hval]; rfl
            have hew : encW s.op s.rd s.rs1 s.rs2 s.imm = wordP s.op s.rd s.rs1 s.rs2 s.imm := by unfold encW; rw [hval]; rfl
            rw [hee, hew] at CE
            clear hee hew hsp hval
            generalize wordP s.op s.rd s.rs1 s.rs2 s.imm = ew at *
            go_wp2_with fail
            refine (CE _).mono ?_
            rintro e w4 ⟨rfl, hb4⟩
            have hW4 : WR w w4 (.slice a1 out.length c1) out := (HWR.out.below hbW).below hb4
            obtain ⟨v', w', hrun, hW', hg', h4⟩ := hW4.push ew (by omega)
            have HWF : Hid (WR w w' v' (out ++ [ew])) := hW'
            clear hW4 hW' hg' h4 hb4 hbW hszW
            go_wp2_with (at_builtin; refine wpList_append_run rfl _ _ 23 rfl _ _ v' w' rfl rfl hrun ?_)
            go_roundw
            case rel => exact ⟨k + 1, _, by omega, by go_num, HWF.out, by simp; omega, HWQ.out⟩
            case measure => simp [intOf]; omega
        · have hte : (s.target.toList == []) = false := str_ne (l := []) ht
          cases hmt : M s.target with
          | none =>
            have hRR : R = .error s.line := by
              rw [← HR.out, HWP.out]
              unfold stepW immO
              rw [if_neg HO.out, if_neg ht, hmt]
              rfl
            subst hRR
            have hlk := (HMM.out.keep (w' := (wr.alloc (.cells #[Value.int .i64 s.line, .int .i64 s.op, .int .i64 s.rd, .int .i64 s.rs1, .int .i64 s.rs2, .int .i64 s.imm, .string s.target, .int .u32 s.value, .int .i64 s.count] 95)).drew) (Below.heap_alloc _ _ _ HMM.out.lt)).look s.target htzs
            rw [hmt] at hlk
            simp only [Option.isSome_none, Option.getD_none] at hlk
            have HBF : Hid (Below w.heap.size w ((wr.alloc (.cells #[Value.int .i64 s.line, .int .i64 s.op, .int .i64 s.rd, .int .i64 s.rs1, .int .i64 s.rs2, .int .i64 s.imm, .string s.target, .int .u32 s.value, .int .i64 s.count] 95)).drew.drew)) := ((HWR.out.bel.alloc HWR.out.bel.size _).drew).drew
            clear ht
            go_wp2_with fail
            go_region
            all_goals
              go_wp2_with fail
              go_region
              all_goals
                go_wp2_with fail
                go_ret2
                exact ⟨HBF.out, rfl⟩
          | some am =>
            have ham := hM _ _ hmt
            have HIM : Hid (immO M out s = some (am - (out.length : Int))) := by
              show immO M out s = some (am - (out.length : Int))
              unfold immO
              rw [if_neg ht, hmt]
              rfl
            have hlk := (HMM.out.keep (w' := (wr.alloc (.cells #[Value.int .i64 s.line, .int .i64 s.op, .int .i64 s.rd, .int .i64 s.rs1, .int .i64 s.rs2, .int .i64 s.imm, .string s.target, .int .u32 s.value, .int .i64 s.count] 95)).drew) (Below.heap_alloc _ _ _ HMM.out.lt)).look s.target htzs
            rw [hmt] at hlk
            simp only [Option.isSome_some, Option.getD_some] at hlk
            clear ht
            go_wp2_with fail
            go_region
            all_goals
              have CE := encode_any s.op s.rd s.rs1 s.rs2 (am - (out.length : Int)) hops
              unfold ins at CE
              have hbW : Below wr.heap.size wr ((wr.alloc (.cells #[Value.int .i64 s.line, .int .i64 s.op, .int .i64 s.rd, .int .i64 s.rs1, .int .i64 s.rs2, .int .i64 (am - (out.length : Int)), .string s.target, .int .u32 s.value, .int .i64 s.count] 95)).drew) := ((Below.refl _ _).alloc (Nat.le_refl _) _).drew
              have hszW : ((wr.alloc (.cells #[Value.int .i64 s.line, .int .i64 s.op, .int .i64 s.rd, .int .i64 s.rs1, .int .i64 s.rs2, .int .i64 (am - (out.length : Int)), .string s.target, .int .u32 s.value, .int .i64 s.count] 95)).drew).heap.size = wr.heap.size + 1 := by simp [World.drew]
              cases hval : validP s.op s.rd s.rs1 s.rs2 (am - (out.length : Int)) with
              | false =>
                have hRR : R = .error s.line := by
                  rw [← HR.out, HWP.out]
                  unfold stepW
                  rw [if_neg HO.out, HIM.out]
                  simp only [hval, Bool.false_eq_true, if_false]
                subst hRR
                have hee : encE s.op s.rd s.rs1 s.rs2 (am - (out.length : Int)) = 10 := by unfold encE; rw [hval]; rfl
                rw [hee] at CE
                generalize encW s.op s.rd s.rs1 s.rs2 (am - (out.length : Int)) = ew at *
                go_wp2_with fail
                refine (CE _).mono ?_
                rintro e w4 ⟨rfl, hb4⟩
                have e0 := hb4.cell (p := ⟨wr.heap.size, 0, none⟩) (by show wr.heap.size < _; omega)
                have e0' : w4.cell? ⟨wr.heap.size, 0, none⟩ = some (.int .i64 s.line) := by rw [e0]; simp
                have HBF : Hid (Below w.heap.size w w4) := HWR.out.bel.trans ((hbW.trans (hb4.mono hbW.size)).mono HWR.out.bel.size)
                clear e0 hb4 hbW hszW
                go_wp2_with fail
                go_quiet (fail)
                go_wp2_with fail
                go_ret2
                exact ⟨below_drewN HBF.out _, rfl⟩
              | true =>
                have hsp : stepW M out s = some (out ++ [wordP s.op s.rd s.rs1 s.rs2 (am - (out.length : Int))]) := by
                  unfold stepW
                  rw [if_neg HO.out, HIM.out]
                  simp only [hval, if_true]
                have HWQ : Hid (wordsP M [] sts = wordsP M (out ++ [wordP s.op s.rd s.rs1 s.rs2 (am - (out.length : Int))]) (sts.drop (k + 1))) := by
                  have h := HWP.out
                  rw [hsp] at h
                  exact h
                have hee : encE s.op s.rd s.rs1 s.rs2 (am - (out.length : Int)) = 0 := by unfold encE; rw [hval]; rfl
                have hew : encW s.op s.rd s.rs1 s.rs2 (am - (out.length : Int)) = wordP s.op s.rd s.rs1 s.rs2 (am - (out.length : Int)) := by unfold encW; rw [hval]; rfl
                rw [hee, hew] at CE
                clear hee hew hsp hval
                generalize wordP s.op s.rd s.rs1 s.rs2 (am - (out.length : Int)) = ew at *
                go_wp2_with fail
                refine (CE _).mono ?_
                rintro e w4 ⟨rfl, hb4⟩
                have hW4 : WR w w4 (.slice a1 out.length c1) out := (HWR.out.below hbW).below hb4
                obtain ⟨v', w', hrun, hW', hg', h4⟩ := hW4.push ew (by omega)
                have HWF : Hid (WR w w' v' (out ++ [ew])) := hW'
                clear hW4 hW' hg' h4 hb4 hbW hszW
                go_wp2_with (at_builtin; refine wpList_append_run rfl _ _ 23 rfl _ _ v' w' rfl rfl hrun ?_)
                go_roundw
                case rel => exact ⟨k + 1, _, by omega, by go_num, HWF.out, by simp; omega, HWQ.out⟩
                case measure => simp [intOf]; omega
    · obtain rfl : k = L := by omega
      rw [HEND.out] at hwp
      have hRR : R = .ok out := by rw [← HR.out, hwp]; rfl
      subst hRR
      obtain ⟨a1, c1, rfl⟩ := hW.form
      have HWF : Hid (WR w wr (.slice a1 out.length c1) out) := hW
      clear hW hwp
      go_wp2_with fail
      go_ret2
      exact ⟨HWF.out.bel, _, rfl, HWF.out⟩
end Go.Proofs.YtopankjjlapfbaaGreatDoor
