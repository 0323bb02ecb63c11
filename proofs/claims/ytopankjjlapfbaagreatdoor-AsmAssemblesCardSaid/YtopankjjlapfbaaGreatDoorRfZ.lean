/-
  The document's Assemble: its walk.
-/
import Derived.Test.YtopankjjlapfbaaGreatDoorRfY
import Derived.Test.YtopankjjlapfbaaGreatDoorRfW
import Derived.Test.YtopankjjlapfbaaGreatDoorWalks16
namespace Go.Proofs.YtopankjjlapfbaaGreatDoor
open Go.RowKit
set_option linter.unusedVariables false
set_option maxRecDepth 100000

theorem ap_fault {w w' : World} {B : Bld} {n : Int} (h : B = .fault n) (hb : Below w.heap.size w w') : APost w B (.returned (.tuple #[.slice none 0 0, .int .i64 n, .int .i64 10])) w' := by
  subst h; exact ⟨hb, rfl⟩
theorem ap_errno {w w' : World} {B : Bld} {n : Int} (h : B = .errno n) (hb : Below w.heap.size w w') : APost w B (.returned (.tuple #[.slice none 0 0, .int .i64 0, .int .i64 n])) w' := by
  subst h; exact ⟨hb, rfl⟩
theorem ap_ok {w w' : World} {B : Bld} {v : Value} {out : List Int} {M : ByteArray → Option Int} (h : B = .ok out M) (hb : Below w.heap.size w w') (hw : WR w w' v out) : APost w B (.returned (.tuple #[v, .int .i64 0, .int .i64 0])) w' := by
  subst h; exact ⟨hb, v, rfl, hw⟩
theorem WR.base {wS w0 w : World} {v : Value} {out : List Int} (h : WR wS w v out) (hb : Below w0.heap.size w0 wS) : WR w0 w v out := by
  refine ⟨h.form, ?_, hb.trans (h.bel.mono hb.size)⟩
  refine ⟨h.row.1, ?_⟩
  rcases h.row.2 with hn | ⟨g, cap, cur, rfl, hg, rest⟩
  · exact .inl hn
  · exact .inr ⟨g, cap, cur, rfl, Nat.le_trans hb.size hg, rest⟩
theorem WR.nil (w : World) : WR w w (.slice none 0 0) [] := ⟨⟨_, _, rfl⟩, World.ownsRow_nil _ _ _ _, Below.refl _ _⟩

theorem lines_facts (text : ByteArray) (hs : text.size ≤ 65536) (ls : List Ln) (h : dlinesP (linesL text) [] = .inl ls) : (∀ x ∈ ls, 0 ≤ x.words ∧ x.words ≤ 4096) ∧ ls.length ≤ 65537 := by
  have hcl := Lib.splitB_all ⟨#[10]⟩ (by decide) 0 _ text rfl
  have hcle := Lib.countB_le ⟨#[10]⟩ (by decide) text.size text (Nat.le_refl _)
  rw [show Lib.splitB ⟨#[10]⟩ 0 (Lib.countB text ⟨#[10]⟩) text = linesL text from rfl] at hcl
  rcases lines_tie (linesL text) _ [] tr0 with ⟨n, _, h4⟩ | ⟨T, acc, _, h4, h5, h6⟩
  · rw [h] at h4; cases h4
  · rw [h] at h4
    cases h4
    refine ⟨h5.w0, ?_⟩
    rw [h6]
    simp
    omega

theorem sum_take (ls : List Ln) (k : Nat) (hk : k < ls.length) : sumW (ls.take (k + 1)) = sumW (ls.take k) + ls[k].words := by
  rw [List.take_succ_eq_append_getElem hk, sumW_append]
  simp [sumW]

theorem findP_le : ∀ (a : List Ln) (m : ByteArray) (p : Int), (∀ x ∈ a, 0 ≤ x.words ∧ x.words ≤ 4096) → 0 ≤ p → findP a m p ≤ p + 4096 * (a.length : Int)
  | [], m, p, hw, hp => by
    show (-1 : Int) ≤ _
    simp
    omega
  | l :: a, m, p, hw, hp => by
    rw [findP_cons]
    have h1 := hw l (by simp)
    split
    · simp
      omega
    · have := findP_le a m (p + l.words) (fun x hx => hw x (by simp [hx])) (by omega)
      simp
      omega
theorem dstep_is (ls : List Ln) (out : List Int) (l : Ln) (r : List Ln) (D : Except Int (List Int)) (hi : l.is_ = true) (h : (match dstep ls out l with
      | some out' => dwords ls out' r
      | none => .error l.at_) = D) :
    (dimm ls out l = none → D = .error l.at_) ∧ (∀ i, dimm ls out l = some i → validP l.op l.rd l.rs1 l.rs2 i = false → D = .error l.at_) ∧
    (∀ i, dimm ls out l = some i → validP l.op l.rd l.rs1 l.rs2 i = true → dwords ls (out ++ [wordP l.op l.rd l.rs1 l.rs2 i]) r = D) := by
  unfold dstep at h
  rw [if_pos hi] at h
  refine ⟨fun h0 => ?_, fun i h0 h1 => ?_, fun i h0 h1 => ?_⟩
  · rw [h0] at h
    exact h.symm
  · rw [h0] at h
    simp only [h1, Bool.false_eq_true, if_false] at h
    exact h.symm
  · rw [h0] at h
    simp only [h1, if_true] at h
    exact h
def bldW (ls : List Ln) : Except Int (List Int) → Bld
  | .error n => .fault n
  | .ok out => .ok out (findM ls)
theorem bldW_err {ls : List Ln} {B : Bld} {D : Except Int (List Int)} {n : Int} (h : B = bldW ls D) (hd : D = .error n) : B = .fault n := by subst hd; exact h

theorem dbuild_inr (text : ByteArray) (base : Int) (h4 : base % 4 = 0) (h1 : base ≤ 1099511627776) (hs : text.size ≤ 65536) (n : Nat) (hR : dlinesP (linesL text) [] = .inr n) : dbuildO text base = .fault n := by
  unfold dbuildO
  rw [if_neg (by omega), if_neg (by omega), hR]
theorem dbuild_big (text : ByteArray) (base : Int) (h4 : base % 4 = 0) (h1 : base ≤ 1099511627776) (hs : text.size ≤ 65536) (ls : List Ln) (hR : dlinesP (linesL text) [] = .inl ls) (hb : 16384 < sumW ls) : dbuildO text base = .errno 3 := by
  unfold dbuildO
  rw [if_neg (by omega), if_neg (by omega), hR]
  exact if_pos hb
theorem dbuild_ls (text : ByteArray) (base : Int) (h4 : base % 4 = 0) (h1 : base ≤ 1099511627776) (hs : text.size ≤ 65536) (ls : List Ln) (hR : dlinesP (linesL text) [] = .inl ls) (hb : ¬ 16384 < sumW ls) : dbuildO text base = bldW ls (dwords ls [] ls) := by
  unfold dbuildO
  rw [if_neg (by omega), if_neg (by omega), hR]
  simp only [if_neg hb]
  cases dwords ls [] ls <;> rfl

set_option maxHeartbeats 6400000 in
theorem dasm_main (text : ByteArray) (base : Int) (h0 : 0 ≤ base) (h4 : base % 4 = 0) (h1 : base ≤ 1099511627776) (hs : text.size ≤ 65536) (w : World) :
    Calls Tryz.prog 7 #[.string text, .int .u64 base] w fun e w' => APost w (dbuildO text base) e w' := by
  have CL := fun W => dlines_any text hs W
  have hfa := lines_facts text hs
  have hBn := fun n => dbuild_inr text base h4 h1 hs n
  have hBb := fun ls => dbuild_big text base h4 h1 hs ls
  have hBl := fun ls => dbuild_ls text base h4 h1 hs ls
  generalize dbuildO text base = B at *
  cases hR : dlinesP (linesL text) [] with
  | inr n =>
    have HB : Hid (B = .fault n) := hBn n hR
    rw [hR] at CL
    clear hfa hR hBn hBb hBl
    go_enter Tryz.func7, Tryz.ntmps7
    go_wp2_with fail
    refine (CL _).mono ?_
    rintro e w1 ⟨_, hx⟩
    obtain ⟨rfl, hb1⟩ := hx n rfl
    have HB1 : Hid (_) := hb1
    clear hx hb1 CL
    go_wp2_with fail
    refine bodyPost_ret (v := .tuple #[.slice none 0 0, .int .i64 (n : Int), .int .i64 10]) (by simp [results, Tryz.results7, go_sem]) rfl ?_
    exact ap_fault HB.out HB1.out
  | inl ls =>
    obtain ⟨hws, hll⟩ := hfa ls hR
    have HBb : Hid (16384 < sumW ls → B = .errno 3) := hBb ls hR
    have HBl : Hid (¬ 16384 < sumW ls → B = bldW ls (dwords ls [] ls)) := hBl ls hR
    rw [hR] at CL
    clear hfa hR hBn hBb hBl
    have HWS : Hid (∀ x ∈ ls, 0 ≤ x.words ∧ x.words ≤ 4096) := hws
    clear hws
    go_enter Tryz.func7, Tryz.ntmps7
    go_wp2_with fail
    refine (CL _).mono ?_
    rintro e w1 ⟨hx, _⟩
    obtain ⟨v, rfl, hLR⟩ := hx ls rfl
    have HL : Hid (LR w w1 v ls) := hLR
    obtain ⟨oa, ocap, hoe, hocap, hcc⟩ := hLR.sl
    have HCC : Hid (ls ≠ [] → ∃ blk, oa = some ⟨blk, 0, none⟩ ∧ blk < w1.heap.size ∧ ∀ i (h : i < ls.length) j, j < 11 → w1.cell? ⟨blk, i * 11 + j, none⟩ = (lnC ls[i])[j]?) := hcc
    subst hoe
    clear hx hLR CL hcc
    go_wp2_with fail
    go_loop [10, 11] (fun n i => ∃ k : Nat, k ≤ ls.length ∧ i = .int .i64 k ∧ n = .int .i64 (sumW (ls.take k)) ∧ 0 ≤ sumW (ls.take k) ∧ sumW (ls.take k) ≤ 4096 * k) (fun _ i => ls.length - (intOf i).toNat)
    case atStart => exact ⟨0, by omega, rfl, rfl, by simp [sumW], by simp [sumW]⟩
    case round =>
      obtain ⟨k, hk, rfl, rfl, hq0, hq1⟩ := hrel
      by_cases hk2 : k < ls.length
      · obtain ⟨blk, rfl, hlt, hc⟩ := HCC.out (fun e => by rw [e] at hk2; simp at hk2)
        have c2 : w1.cell? ⟨blk, k * 11 + 2, none⟩ = some (.int .i64 ls[k].words) := hc k hk2 2 (by omega)
        obtain ⟨g0, g1⟩ := HWS.out ls[k] (List.getElem_mem _)
        have HST : Hid (_) := sum_take ls k hk2
        clear hc
        generalize ls[k].words = wd at *
        generalize sumW (ls.take k) = q at *
        go_wp2_with fail
        go_round
        case rel => exact ⟨k + 1, by omega, by go_num, by rw [HST.out], by rw [HST.out]; omega, by rw [HST.out]; omega⟩
        case measure => simp [intOf]; omega
      · obtain rfl : k = ls.length := by omega
        rw [List.take_length] at *
        by_cases hbig : 16384 < sumW ls
        · have HB2 : Hid (B = .errno 3) := HBb.out hbig
          clear HBb HBl
          generalize sumW ls = q at *
          go_wp2_with fail
          refine bodyPost_ret (v := .tuple #[.slice none 0 0, .int .i64 0, .int .i64 3]) (by simp [results, Tryz.results7, go_sem]) rfl ?_
          exact ap_errno HB2.out HL.out.bel
        · have hB2 := HBl.out (by omega)
          obtain ⟨D, hDD⟩ : ∃ D, dwords ls [] ls = D := ⟨_, rfl⟩
          rw [hDD] at hB2
          have HD0 : Hid (dwords ls [] ls = D) := hDD
          have HB2 : Hid (B = bldW ls D) := hB2
          clear HBb HBl hB2 hDD
          generalize sumW ls = q at *
          go_wp2_with fail
          go_loopw [12, 13] (fun ov i wr => ∃ (k : Nat) (out : List Int), k ≤ ls.length ∧ i = .int .i64 k ∧ WR w1 wr ov out ∧ out.length ≤ 4096 * k ∧ dwords ls out (ls.drop k) = D) (fun _ i _ => ls.length - (intOf i).toNat)
          case atStart => exact ⟨0, [], by omega, rfl, WR.nil w1, by simp, HD0.out⟩
          case round =>
            clear HD0 hk hk2 hq0 hq1 hbig
            obtain ⟨k, out, hk, rfl, hWR, hol, hD⟩ := hrel
            have HW : Hid (WR w1 wr u12 out) := hWR
            obtain ⟨va, vc, rfl⟩ := hWR.form
            clear hWR
            by_cases hk2 : k < ls.length
            · obtain ⟨blk, rfl, hlt, hc⟩ := HCC.out (fun e => by rw [e] at hk2; simp at hk2)
              have hc' : ∀ j, j < 11 → wr.cell? ⟨blk, k * 11 + j, none⟩ = (lnC ls[k])[j]? := fun j hj => (HW.out.bel.cell (p := ⟨blk, k * 11 + j, none⟩) hlt).trans (hc k hk2 j hj)
              obtain ⟨g0, g1⟩ := HWS.out ls[k] (List.getElem_mem _)
              rw [List.drop_eq_getElem_cons hk2] at hD
              unfold dwords at hD
              have HSL : Hid (∀ W, Below w1.heap.size w1 W → SlL W (.slice (some ⟨blk, 0, none⟩) ls.length ocap) ls) := fun W hW => ⟨_, _, rfl, hocap, fun _ => ⟨blk, rfl, Nat.lt_of_lt_of_le hlt hW.size, fun i hi j hj => (hW.cell (p := ⟨blk, i * 11 + j, none⟩) hlt).trans (hc i hi j hj)⟩⟩
              clear hc
              generalize ls[k] = l at *
              have c0 : wr.cell? ⟨blk, k * 11, none⟩ = some (.int .i64 l.at_) := hc' 0 (by omega)
              have c1 : wr.cell? ⟨blk, k * 11 + 1, none⟩ = some (.string l.mark) := hc' 1 (by omega)
              have c2 : wr.cell? ⟨blk, k * 11 + 2, none⟩ = some (.int .i64 l.words) := hc' 2 (by omega)
              have c3 : wr.cell? ⟨blk, k * 11 + 3, none⟩ = some (.bool l.is_) := hc' 3 (by omega)
              have c4 : wr.cell? ⟨blk, k * 11 + 4, none⟩ = some (.int .i64 l.op) := hc' 4 (by omega)
              have c5 : wr.cell? ⟨blk, k * 11 + 5, none⟩ = some (.int .i64 l.rd) := hc' 5 (by omega)
              have c6 : wr.cell? ⟨blk, k * 11 + 6, none⟩ = some (.int .i64 l.rs1) := hc' 6 (by omega)
              have c7 : wr.cell? ⟨blk, k * 11 + 7, none⟩ = some (.int .i64 l.rs2) := hc' 7 (by omega)
              have c8 : wr.cell? ⟨blk, k * 11 + 8, none⟩ = some (.int .i64 l.imm) := hc' 8 (by omega)
              have c9 : wr.cell? ⟨blk, k * 11 + 9, none⟩ = some (.string l.want) := hc' 9 (by omega)
              have c10 : wr.cell? ⟨blk, k * 11 + 10, none⟩ = some (.int .u32 l.value) := hc' 10 (by omega)
              clear hc'
              have HDD : Hid (_) := hD
              clear hD
              cases hi : l.is_
              · rw [hi] at c3
                have HD2 : Hid (dwords ls (out ++ List.replicate l.words.toNat l.value) (ls.drop (k + 1)) = D) := by
                  have := HDD.out
                  unfold dstep at this
                  rw [hi] at this
                  exact this
                have HI : Hid (l.is_ = false) := hi
                clear HDD hi
                go_wp2_with fail
                have HAT0 : Hid (LnAt (wr.alloc (Obj.cells #[.int .i64 l.at_, .string l.mark, .int .i64 l.words, .bool false, .int .i64 l.op, .int .i64 l.rd, .int .i64 l.rs1, .int .i64 l.rs2, .int .i64 l.imm, .string l.want, .int .u32 l.value] 51)) wr.heap.size l) := by
                  have := LnAt.new wr l
                  unfold lnC at this
                  rw [HI.out] at this
                  exact this
                have HW0 : Hid (WR w1 (wr.alloc (Obj.cells #[.int .i64 l.at_, .string l.mark, .int .i64 l.words, .bool false, .int .i64 l.op, .int .i64 l.rd, .int .i64 l.rs1, .int .i64 l.rs2, .int .i64 l.imm, .string l.want, .int .u32 l.value] 51)) (.slice va out.length vc) out) := HW.out.below ((Below.refl _ _).alloc (Nat.le_refl _) _)
                have HNE0 : Hid ((Value.slice va out.length vc).ownBlock ≠ some wr.heap.size) := fun e => by
                  have := (HW.out.row.lt _ e).2
                  omega
                generalize wr.alloc (Obj.cells #[.int .i64 l.at_, .string l.mark, .int .i64 l.words, .bool false, .int .i64 l.op, .int .i64 l.rd, .int .i64 l.rs1, .int .i64 l.rs2, .int .i64 l.imm, .string l.want, .int .u32 l.value] 51) = wX at *
                generalize wr.heap.size = bX at *
                clear c0 c1 c2 c3 c4 c5 c6 c7 c8 c9 c10 HW HI
                go_loopw [12, 15] (fun ov jv wq => ∃ j : Nat, (j : Int) ≤ l.words ∧ jv = .int .i64 j ∧ WR w1 wq ov (out ++ List.replicate j l.value) ∧ LnAt wq bX l ∧ ov.ownBlock ≠ some bX) (fun _ jv _ => (l.words - intOf jv).toNat)
                case atStart => exact ⟨0, g0, rfl, by simpa using HW0.out, HAT0.out, HNE0.out⟩
                case round =>
                  clear HW0 HAT0 HNE0
                  obtain ⟨j, hj, rfl, hWq, hat, hne⟩ := hrel
                  have HWq : Hid (WR w1 wr u12 (out ++ List.replicate j l.value)) := hWq
                  obtain ⟨qa, qc, rfl⟩ := hWq.form
                  have HNE : Hid (_) := hne
                  have HAT : Hid (LnAt wr bX l) := hat
                  have a2 := hat.c2
                  have a10 := hat.c10
                  clear hWq hne hat
                  by_cases hj2 : (j : Int) < l.words
                  · obtain ⟨v2, w2, hrun, hW2, hg2, ho2⟩ := HWq.out.push l.value (by simp; omega)
                    have HX : Hid (WR w1 w2 v2 (out ++ List.replicate (j + 1) l.value) ∧ LnAt w2 bX l ∧ v2.ownBlock ≠ some bX) := by
                      have hlt := HAT.out.lt
                      refine ⟨?_, HAT.out.keep ?_ ?_, fun e => ?_⟩
                      · have e1 : out ++ List.replicate (j + 1) l.value = (out ++ List.replicate j l.value) ++ [l.value] := by
                          rw [List.append_assoc, ← List.replicate_succ']
                        rw [e1]
                        exact hW2
                      · rw [hg2.block bX (by simp; omega) (fun e => HNE.out e.symm)]
                        exact ((Below.refl _ wr).alloc (Nat.le_refl _) _).block bX hlt
                      · have := hg2.size
                        simp at this
                        omega
                      · rcases ho2 with h9 | h9
                        · exact HNE.out (h9.symm.trans e)
                        · rw [h9] at e
                          have := Option.some.inj e
                          omega
                    clear hW2 hg2 ho2 HWq HNE HAT
                    generalize (out ++ List.replicate j l.value).length = ol at *
                    generalize l.words = wd at *
                    go_wp2_with (at_builtin; refine wpList_append_run rfl _ _ 23 rfl _ _ v2 w2 rfl rfl hrun ?_)
                    go_roundw
                    case rel => exact ⟨j + 1, by omega, by go_num, HX.out.1, HX.out.2.1, HX.out.2.2⟩
                    case measure => simp [intOf]; omega
                  · have HE : Hid (dwords ls (out ++ List.replicate j l.value) (ls.drop (k + 1)) = D) := by
                      have : l.words.toNat = j := by omega
                      rw [← this]
                      exact HD2.out
                    have hlen2 : (out ++ List.replicate j l.value).length ≤ 4096 * (k + 1) := by simp; omega
                    clear HD2
                    generalize out ++ List.replicate j l.value = out2 at *
                    generalize l.words = wd at *
                    go_wp2_with fail
                    go_roundw
                    case rel => exact ⟨k + 1, out2, by omega, by go_num, HWq.out, hlen2, HE.out⟩
                    case measure => simp [intOf]; omega
              · rw [hi] at c3
                obtain ⟨hdn, hdi, hdy⟩ := dstep_is ls out l (ls.drop (k + 1)) D hi HDD.out
                have HDN : Hid (dimm ls out l = none → B = .fault l.at_) := fun h => bldW_err HB2.out (hdn h)
                have HDI : Hid (∀ i, dimm ls out l = some i → validP l.op l.rd l.rs1 l.rs2 i = false → B = .fault l.at_) := fun i h h' => bldW_err HB2.out (hdi i h h')
                have HDY : Hid (∀ i, dimm ls out l = some i → validP l.op l.rd l.rs1 l.rs2 i = true → dwords ls (out ++ [wordP l.op l.rd l.rs1 l.rs2 i]) (ls.drop (k + 1)) = D) := hdy
                clear hdn hdi hdy HDD hi
                have CE := fun i W => rencode_any l.op l.rd l.rs1 l.rs2 i W
                by_cases hw : l.want = ⟨#[]⟩
                · have e9 : (l.want.toList == []) = true := by rw [hw, Go.ByteArray.toList_eq]; rfl
                  have HIM : Hid (dimm ls out l = some l.imm) := by show _ = _; unfold dimm; rw [if_pos hw]
                  clear hw
                  generalize l.imm = I at *
                  unfold ins at CE
                  go_wp2_with fail
                  refine (CE I _).mono ?_
                  rintro e w2 ⟨rfl, hb2⟩
                  have hba := (HW.out.below ((Below.refl _ _).alloc (Nat.le_refl _) _)).below hb2
                  have HW2 : Hid (WR w1 w2 (.slice va out.length vc) out) := hba
                  have a0 : w2.cell? ⟨wr.heap.size, 0, none⟩ = some (.int .i64 l.at_) := (hb2.cell (p := ⟨wr.heap.size, 0, none⟩) (by simp)).trans (by simp [go_sem])
                  clear hb2 hba CE HSL c0 c1 c2 c3 c4 c5 c6 c7 c8 c9 c10
                  unfold encW encE
                  cases hv : validP l.op l.rd l.rs1 l.rs2 I
                  · have HE : Hid (B = .fault l.at_) := HDI.out _ HIM.out hv
                    clear hv HDI HDY HIM HW
                    simp only [Bool.false_eq_true, if_false]
                    go_wp2_with fail
                    go_quiet (fail)
                    go_wp2_with fail
                    refine bodyPost_ret (v := .tuple #[.slice none 0 0, .int .i64 l.at_, .int .i64 10]) (by simp [results, Tryz.results7, go_sem]) rfl ?_
                    exact ap_fault HE.out (below_drewN (HL.out.bel.trans (HW2.out.bel.mono HL.out.bel.size)) _)
                  · have HE : Hid (dwords ls (out ++ [wordP l.op l.rd l.rs1 l.rs2 I]) (ls.drop (k + 1)) = D) := HDY.out _ HIM.out hv
                    clear hv HDI HDY HIM HW
                    simp only [if_true]
                    generalize wordP l.op l.rd l.rs1 l.rs2 I = wd at *
                    obtain ⟨v3, w3, hrun, hW3, _, _⟩ := HW2.out.push wd (by omega)
                    have HW3 : Hid (_) := hW3
                    clear hW3 HW2
                    go_wp2_with (at_builtin; refine wpList_append_run rfl _ _ 23 rfl _ _ v3 w3 rfl rfl hrun ?_)
                    go_roundw
                    case rel => exact ⟨k + 1, out ++ [wd], by omega, by go_num, HW3.out, by simp; omega, HE.out⟩
                    case measure => simp [intOf]; omega
                · have e9 : (l.want.toList == []) = false := str_ne (l := []) hw
                  have CF := fun W hW => dfind_any (.slice (some ⟨blk, 0, none⟩) ls.length ocap) ls l.want W (HSL.out W hW) (by omega) HWS.out
                  have hle := findP_le ls l.want 0 HWS.out (by omega)
                  have HDM : Hid (dimm ls out l = (findM ls l.want).map fun a => a - (out.length : Int)) := by show _ = _; unfold dimm; rw [if_neg hw]
                  unfold findM at HDM
                  generalize findP ls l.want 0 = F at *
                  clear hw
                  unfold ins at CE
                  go_wp2_with fail
                  refine (CF _ (HW.out.bel.alloc HW.out.bel.size _)).mono ?_
                  rintro e wf ⟨rfl, rfl⟩
                  clear CF
                  by_cases hF : F < 0
                  · have HE : Hid (B = .fault l.at_) := HDN.out (by rw [HDM.out, if_pos hF]; rfl)
                    clear HDM HDN HDI HDY CE
                    go_wp2_with fail
                    go_quiet (fail)
                    go_wp2_with fail
                    refine bodyPost_ret (v := .tuple #[.slice none 0 0, .int .i64 l.at_, .int .i64 10]) (by simp [results, Tryz.results7, go_sem]) rfl ?_
                    exact ap_fault HE.out (below_drewN ((HL.out.bel.trans (HW.out.bel.mono HL.out.bel.size)).alloc (HL.out.bel.trans (HW.out.bel.mono HL.out.bel.size)).size _) _)
                  · have HIM : Hid (dimm ls out l = some (F - (out.length : Int))) := by show _ = _; rw [HDM.out, if_neg hF]; rfl
                    clear HDM HDN
                    go_wp2_with fail
                    refine (CE (F - (out.length : Int)) _).mono ?_
                    rintro e w2 ⟨rfl, hb2⟩
                    have hba := (HW.out.below ((Below.refl _ _).alloc (Nat.le_refl _) _)).below hb2
                    have HW2 : Hid (WR w1 w2 (.slice va out.length vc) out) := hba
                    have a0 : w2.cell? ⟨wr.heap.size, 0, none⟩ = some (.int .i64 l.at_) := (hb2.cell (p := ⟨wr.heap.size, 0, none⟩) (by simp)).trans (by simp [go_sem])
                    clear hb2 hba CE HSL c0 c1 c2 c3 c4 c5 c6 c7 c8 c9 c10
                    unfold encW encE
                    cases hv : validP l.op l.rd l.rs1 l.rs2 (F - (out.length : Int))
                    · have HE : Hid (B = .fault l.at_) := HDI.out _ HIM.out hv
                      clear hv HDI HDY HIM HW
                      simp only [Bool.false_eq_true, if_false]
                      go_wp2_with fail
                      go_quiet (fail)
                      go_wp2_with fail
                      refine bodyPost_ret (v := .tuple #[.slice none 0 0, .int .i64 l.at_, .int .i64 10]) (by simp [results, Tryz.results7, go_sem]) rfl ?_
                      exact ap_fault HE.out (below_drewN (HL.out.bel.trans (HW2.out.bel.mono HL.out.bel.size)) _)
                    · have HE : Hid (dwords ls (out ++ [wordP l.op l.rd l.rs1 l.rs2 (F - (out.length : Int))]) (ls.drop (k + 1)) = D) := HDY.out _ HIM.out hv
                      clear hv HDI HDY HIM HW
                      simp only [if_true]
                      generalize wordP l.op l.rd l.rs1 l.rs2 (F - (out.length : Int)) = wd at *
                      obtain ⟨v3, w3, hrun, hW3, _, _⟩ := HW2.out.push wd (by omega)
                      have HW3 : Hid (_) := hW3
                      clear hW3 HW2
                      go_wp2_with (at_builtin; refine wpList_append_run rfl _ _ 23 rfl _ _ v3 w3 rfl rfl hrun ?_)
                      go_roundw
                      case rel => exact ⟨k + 1, out ++ [wd], by omega, by go_num, HW3.out, by simp; omega, HE.out⟩
                      case measure => simp [intOf]; omega
            · obtain rfl : k = ls.length := by omega
              have HD2 : Hid (B = .ok out (findM ls)) := by
                rw [List.drop_eq_nil_of_le (Nat.le_refl _)] at hD
                have h9 := HB2.out
                rw [← hD] at h9
                exact h9
              clear hD HB2
              go_wp2_with fail
              refine bodyPost_ret (v := .tuple #[.slice va out.length vc, .int .i64 0, .int .i64 0]) (by simp [results, Tryz.results7, go_sem]) rfl ?_
              exact ap_ok HD2.out (HL.out.bel.trans (HW.out.bel.mono HL.out.bel.size)) (HW.out.base HL.out.bel)
end Go.Proofs.YtopankjjlapfbaaGreatDoor
