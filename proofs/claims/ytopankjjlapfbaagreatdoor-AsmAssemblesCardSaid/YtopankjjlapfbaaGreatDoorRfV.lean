/-
  The document's find: where a mark stands among the lines.
  The lines of a text, byte by byte.
  A line put behind the document's lines.
  The document's lines, in plain terms; a slice of lines that the call made.
-/
import Derived.Test.YtopankjjlapfbaaGreatDoorRfL
import Derived.Test.YtopankjjlapfbaaGreatDoorStm
import Derived.Test.YtopankjjlapfbaaGreatDoorRfQ
import Derived.Test.YtopankjjlapfbaaGreatDoorBldB
import Derived.Lib.CountLaws
import Derived.Test.YtopankjjlapfbaaGreatDoorRead
import Derived.Test.YtopankjjlapfbaaGreatDoorRfS
import Derived.Test.YtopankjjlapfbaaGreatDoorWdsB
namespace Go.Proofs.YtopankjjlapfbaaGreatDoor
open Go.RowKit
set_option linter.unusedVariables false
set_option maxRecDepth 100000

/-- where the mark stands, counted in words from pos on; below 0 where there is none -/
def findP : List Ln → ByteArray → Int → Int
  | [], _, _ => -1
  | l :: r, n, pos => if l.mark = n ∧ n ≠ ⟨#[]⟩ then pos else findP r n (pos + l.words)
/-- a slice that holds these lines, within its room -/
def SlL (w : World) (v : Value) (ls : List Ln) : Prop :=
  ∃ a cap, v = .slice a ls.length cap ∧ ls.length ≤ cap ∧ (ls ≠ [] → ∃ blk, a = some ⟨blk, 0, none⟩ ∧ blk < w.heap.size ∧ ∀ i (h : i < ls.length) j, j < 11 → w.cell? ⟨blk, i * 11 + j, none⟩ = (lnC ls[i])[j]?)

theorem sl_eq {s t : ByteArray} (h : s = t) : (s.toList == t.toList) = true := by subst h; simp
set_option maxHeartbeats 3200000 in
theorem dfind_any (v : Value) (ls : List Ln) (n : ByteArray) (w : World) (hv : SlL w v ls) (hL : ls.length ≤ 100000) (hw : ∀ l ∈ ls, 0 ≤ l.words ∧ l.words ≤ 4096) :
    Calls Tryz.prog 15 #[v, .string n] w fun e w' => e = .returned (.int .i64 (findP ls n 0)) ∧ w' = w := by
  obtain ⟨a, cap, rfl, hcap, hc⟩ := hv
  have HC : Hid (_) := hc
  have HW : Hid (∀ l ∈ ls, 0 ≤ l.words ∧ l.words ≤ 4096) := hw
  generalize hF : findP ls n 0 = F
  have HF : Hid (findP ls n 0 = F) := hF
  clear hc hw hF
  go_enter Tryz.func15, Tryz.ntmps15
  go_wp2_with fail
  go_loop [5, 6] (fun at_ i => ∃ (k : Nat) (q : Int), k ≤ ls.length ∧ i = .int .i64 k ∧ at_ = .int .i64 q ∧ 0 ≤ q ∧ q ≤ 4096 * k ∧ findP (ls.drop k) n q = F) (fun _ i => ls.length - (intOf i).toNat)
  case atStart => exact ⟨0, 0, by omega, rfl, rfl, by omega, by omega, HF.out⟩
  case round =>
    obtain ⟨k, q, hk, rfl, rfl, hq0, hq1, hf⟩ := hrel
    by_cases hk2 : k < ls.length
    · obtain ⟨blk, rfl, hlt, hcc⟩ := HC.out (fun e => by rw [e] at hk2; simp at hk2)
      have c1 : w.cell? ⟨blk, k * 11 + 1, none⟩ = some (.string ls[k].mark) := hcc k hk2 1 (by omega)
      have c2 : w.cell? ⟨blk, k * 11 + 2, none⟩ = some (.int .i64 ls[k].words) := hcc k hk2 2 (by omega)
      obtain ⟨w0, w1⟩ := HW.out ls[k] (List.getElem_mem _)
      rw [List.drop_eq_getElem_cons hk2] at hf
      unfold findP at hf
      have HD : Hid (_) := hf
      clear hf hcc HC HW
      generalize ls[k] = l at *
      by_cases h1 : l.mark = n
      · have e1 := sl_eq h1
        by_cases h2 : n = ⟨#[]⟩
        · have e2 : (n.toList == []) = true := by rw [h2, Go.ByteArray.toList_eq]; rfl
          have HD2 : Hid (findP (ls.drop (k + 1)) n (q + l.words) = F) := by
            have := HD.out
            rw [if_neg (fun h => h.2 h2)] at this
            exact this
          clear HD
          go_wp2_with fail
          go_round
          case rel => exact ⟨k + 1, q + l.words, by omega, by go_num, by go_num, by omega, by omega, HD2.out⟩
          case measure => simp [intOf]; omega
        · have e2 : (n.toList == []) = false := str_ne (l := []) h2
          have HD2 : Hid (q = F) := by
            have := HD.out
            rw [if_pos ⟨h1, h2⟩] at this
            exact this
          clear HD
          go_wp2_with fail
          go_ret
          exact ⟨by have h9 := HD2.out; subst h9; rfl, rfl⟩
      · have e1 : (l.mark.toList == n.toList) = false := str_diff h1
        have HD2 : Hid (findP (ls.drop (k + 1)) n (q + l.words) = F) := by
          have := HD.out
          rw [if_neg (fun h => h1 h.1)] at this
          exact this
        clear HD
        go_wp2_with fail
        go_round
        case rel => exact ⟨k + 1, q + l.words, by omega, by go_num, by go_num, by omega, by omega, HD2.out⟩
        case measure => simp [intOf]; omega
    · have HD : Hid (F = -1) := by
        rw [List.drop_eq_nil_of_le (by omega)] at hf
        exact hf.symm
      obtain rfl : k = ls.length := by omega
      clear hf
      go_wp2_with fail
      go_ret
      exact ⟨by have h9 := HD.out; subst h9; rfl, rfl⟩
end Go.Proofs.YtopankjjlapfbaaGreatDoor
namespace Go.Proofs.YtopankjjlapfbaaGreatDoor
open Go.RowKit
set_option linter.unusedVariables false

def linesB : List UInt8 → List UInt8 → List (List UInt8)
  | [], wd => [wd]
  | c :: r, wd => if c = 10 then wd :: linesB r [] else linesB r (wd ++ [c])
theorem linesB_skip (r : List UInt8) : ∀ (u wd : List UInt8), (10 : UInt8) ∉ u → linesB (u ++ r) wd = linesB r (wd ++ u)
  | [], wd, h => by simp
  | c :: u, wd, h => by
    have hc : c ≠ 10 := fun e => h (by simp [e])
    show linesB (c :: (u ++ r)) wd = _
    conv => lhs; unfold linesB
    rw [if_neg hc, linesB_skip r u _ (fun e => h (by simp [e]))]
    simp
theorem cut10 : ∀ l : List UInt8, ∃ p t, l = p ++ t ∧ (10 : UInt8) ∉ p ∧ (t = [] ∨ ∃ r, t = 10 :: r)
  | [] => ⟨[], [], rfl, by simp, Or.inl rfl⟩
  | c :: l => by
    by_cases hc : c = 10
    · exact ⟨[], c :: l, rfl, by simp, Or.inr ⟨l, by rw [hc]⟩⟩
    · obtain ⟨p, t, h1, h2, h3⟩ := cut10 l
      exact ⟨c :: p, t, by rw [h1]; rfl, by simp [h2]; exact fun e => hc e.symm, h3⟩
theorem lines_bytes (s : ByteArray) : linesL s = (linesB s.data.toList []).map fun w => (⟨w.toArray⟩ : ByteArray) := by
  generalize hk : s.size = k
  induction k using Nat.strongRecOn generalizing s with
  | ind k IH =>
    have hlen : s.data.toList.length = s.size := by rw [Array.length_toList]; rfl
    obtain ⟨p, t, hpt, hp, ht⟩ := cut10 s.data.toList
    rcases ht with rfl | ⟨r, rfl⟩
    · rw [List.append_nil] at hpt
      have hi : Lib.indexB s ⟨#[10]⟩ = -1 := by
        show Lib.index s.data.toList [10] = -1
        rw [hpt]
        exact idx_no 10 p hp
      have hB := linesB_skip [] p [] hp
      rw [List.append_nil, List.nil_append] at hB
      unfold linesL
      rw [Lib.splitB_miss _ _ _ _ hi, hpt, hB]
      show [s] = [(⟨p.toArray⟩ : ByteArray)]
      rw [← hpt, str_of]
    · have hi : Lib.indexB s ⟨#[10]⟩ = (p.length : Nat) := by
        show Lib.index s.data.toList [10] = _
        rw [hpt]
        exact idx_one 10 p r hp
      have hB := linesB_skip (10 :: r) p [] hp
      have hsz : p.length + r.length + 1 = s.size := by rw [← hlen, hpt]; simp; omega
      have e1 : s.extract 0 (p.length + 0) = ⟨p.toArray⟩ := by
        rw [extract_eq s 0 (p.length + 0) (by omega), hpt]
        simp
      have e2 : s.extract (p.length + 1) s.size = ⟨r.toArray⟩ := by
        rw [extract_eq s (p.length + 1) s.size (by omega), hpt]
        have hd : (p ++ 10 :: r).drop (p.length + 1) = r := by simp
        rw [hd, List.take_of_length_le (by omega)]
      have hr : (⟨r.toArray⟩ : ByteArray).size = r.length := by show r.toArray.size = _; simp
      have ih := IH r.length (by omega) ⟨r.toArray⟩ hr
      have e3 : linesB (10 :: r) ([] ++ p) = p :: linesB r [] := by
        rw [List.nil_append]
        conv => lhs; unfold linesB
        rw [if_pos rfl]
      unfold linesL at ih ⊢
      rw [Lib.countB_hit s ⟨#[10]⟩ p.length (by decide) hi, Nat.add_comm 1, Lib.splitB_hit _ _ _ _ _ hi]
      show s.extract 0 (p.length + 0) :: Lib.splitB _ 0 (Lib.countB (s.extract (p.length + 1) s.size) _) (s.extract (p.length + 1) s.size) = _
      rw [e1, e2, ih, hpt, hB, e3]
      rfl
end Go.Proofs.YtopankjjlapfbaaGreatDoor
namespace Go.Proofs.YtopankjjlapfbaaGreatDoor
open Go.RowKit
set_option linter.unusedVariables false
set_option maxRecDepth 100000

theorem info51 : (Tryz.prog.info? 51).map (fun i => (i.zero, i.size)) = some (some (.agg (lnC ln0).toArray), 11) := by kernel_rfl
theorem u45 : Tryz.prog.underlying 45 = some (.slice 51) := by kernel_rfl
theorem bytes51 : (Tryz.prog.info? 51).map (fun i => decide (i.bytes ≤ 200)) = some true := by kernel_rfl

theorem ln_push (w : World) (base : Nat) (v : Value) (ls : List Ln) (l : Ln) (ty : TypeId) (B : Nat) (hown : w.ownsRow base 51 11 v ls.length (ls.flatMap lnC)) (hbase : base ≤ w.heap.size) (hl : ls.length < 100000)
    (hs : ∀ j u, (lnC l)[j]? = some u → w.cell? ⟨B, j, none⟩ = some u) :
    ∃ v' w', (Builtin.append_ #[45, 45] ty #[v, .slice (some ⟨B, 0, none⟩) 1 1]).run Tryz.prog w = .ok v' w' ∧ w'.ownsRow base 51 11 v' (ls ++ [l]).length ((ls ++ [l]).flatMap lnC) ∧ w.grownBy w' v.ownBlock ∧
      (v'.ownBlock = v.ownBlock ∨ v'.ownBlock = some w.heap.size) := by
  obtain ⟨i, hi, hz⟩ : ∃ i, Tryz.prog.info? 51 = some i ∧ (i.zero, i.size) = (some (.agg (lnC ln0).toArray), 11) := by
    have h := info51
    cases hq : Tryz.prog.info? 51 with
    | none => rw [hq] at h; cases h
    | some i => rw [hq] at h; exact ⟨i, rfl, Option.some.inj h⟩
  have hby : i.bytes ≤ 200 := by
    have h := bytes51
    rw [hi] at h
    simpa using h
  obtain ⟨v', w', hrun, h1, h2, _, h4⟩ := run_append_own_at (P := Tryz.prog) w base 45 ty 51 i _ 11 i.bytes u45 hi (congrArg Prod.fst hz) (congrArg Prod.snd hz) rfl rfl (by decide) v ls.length (ls.flatMap lnC) hown ⟨B, 0, none⟩ 1 1 (lnC l) rfl
    (fun j u hu => by
      have hq := hs j u hu
      by_cases hj : j = 0
      · subst hj
        simpa [Addr.add] using hq
      · simpa [Addr.add, hj] using hq)
    (fun u hu => by simp [lnC] at hu; rcases hu with rfl | rfl | rfl | rfl | rfl | rfl | rfl | rfl | rfl | rfl | rfl <;> rfl) (by unfold maxLen; omega)
    (by
      have : (ls.length + 1) * i.bytes ≤ 100000 * 200 := Nat.mul_le_mul (by omega) hby
      omega) hbase
  refine ⟨v', w', hrun, ?_, h2, h4⟩
  rw [List.length_append, List.flatMap_append]
  simpa using h1
end Go.Proofs.YtopankjjlapfbaaGreatDoor
namespace Go.Proofs.YtopankjjlapfbaaGreatDoor
open Go.RowKit
set_option linter.unusedVariables false
set_option maxRecDepth 100000

/-- is a line's mark a new one -/
def okL (acc : List Ln) (m : ByteArray) : Bool := decide (m = ⟨#[]⟩) || acc.all fun x => decide (x.mark ≠ m)
/-- the lines that say something, or the number of the first one that is none -/
def dlinesP : List ByteArray → List Ln → List Ln ⊕ Nat
  | [], acc => .inl acc
  | s :: r, acc =>
    match lnO (wordsL s) with
    | none => .inr acc.length
    | some l => if okL acc l.mark = true then dlinesP r (acc ++ [{ l with at_ := acc.length }]) else .inr acc.length

theorem okL_none (m : ByteArray) : okL [] m = true := by simp [okL]
theorem okL_empty (acc : List Ln) : okL acc ⟨#[]⟩ = true := by simp [okL]
theorem okL_take (acc : List Ln) (m : ByteArray) (j : Nat) (hj : j < acc.length) (hm : m ≠ ⟨#[]⟩) : okL (acc.take (j + 1)) m = (okL (acc.take j) m && decide (acc[j].mark ≠ m)) := by
  unfold okL
  rw [List.take_succ_eq_append_getElem hj, List.all_append]
  simp [hm]
theorem okL_mono (acc : List Ln) (m : ByteArray) (j : Nat) (h : okL (acc.take j) m = false) : okL acc m = false := by
  unfold okL at *
  rw [Bool.or_eq_false_iff] at *
  refine ⟨h.1, ?_⟩
  have h2 := h.2
  rw [List.all_eq_false] at *
  obtain ⟨x, hx, hp⟩ := h2
  exact ⟨x, List.mem_of_mem_take hx, hp⟩

theorem flat11 : ∀ (ls : List Ln) (k j : Nat) (hk : k < ls.length), j < 11 → (ls.flatMap lnC)[k * 11 + j]? = (lnC ls[k])[j]?
  | s :: r, 0, j, hk, hj => by
    simp only [List.flatMap_cons, Nat.zero_mul, Nat.zero_add, List.getElem_cons_zero]
    exact List.getElem?_append_left hj
  | s :: r, k + 1, j, hk, hj => by
    simp only [List.flatMap_cons, List.getElem_cons_succ]
    have h9 : (lnC s).length = 11 := rfl
    rw [List.getElem?_append_right (by omega), h9, show (k + 1) * 11 + j - 11 = k * 11 + j by omega]
    exact flat11 r k j (by simpa using hk) hj

/-- a slice of lines, the call's own -/
structure LR (wS w : World) (v : Value) (ls : List Ln) : Prop where
  form : ∃ a cap, v = .slice a ls.length cap
  row : w.ownsRow wS.heap.size 51 11 v ls.length (ls.flatMap lnC)
  bel : Below wS.heap.size wS w

theorem LR.nil (w : World) : LR w w (.slice none 0 0) [] := ⟨⟨_, _, rfl⟩, World.ownsRow_nil _ _ _ _, Below.refl _ _⟩
theorem LR.below {wS w w' : World} {v : Value} {ls : List Ln} (h : LR wS w v ls) (hb : Below w.heap.size w w') : LR wS w' v ls :=
  ⟨h.form, row_keep h.row (fun b hbk => hb.block b (row_lt h.row b hbk)), h.bel.trans (hb.mono h.bel.size)⟩
theorem LR.sl {wS w : World} {v : Value} {ls : List Ln} (h : LR wS w v ls) : SlL w v ls := by
  rcases h.row.2 with ⟨rfl, hn⟩ | ⟨g, cap, cur, rfl, hg, hgg, hn, hm, hsz, hcur⟩
  · refine ⟨none, 0, by rw [hn], by omega, fun ho => ?_⟩
    exact absurd (List.length_eq_zero_iff.1 hn) ho
  · refine ⟨_, cap, rfl, hn, fun ho => ⟨g, rfl, (h.row.lt g rfl).2, fun i hi j hj => ?_⟩⟩
    rw [← flat11 ls i j hi hj, ← hcur, List.getElem?_take_of_lt (by
      have : (i + 1) * 11 ≤ ls.length * 11 := Nat.mul_le_mul_right _ hi
      omega)]
    simp [World.cell?, hgg]
theorem LR.push {wS w : World} {v : Value} {ls : List Ln} (h : LR wS w v ls) (l : Ln) (hl : ls.length < 100000) :
    ∃ v' w', (Builtin.append_ #[45, 45] 45 #[v, .slice (some ⟨w.heap.size, 0, none⟩) 1 1]).run Tryz.prog (w.alloc (.cells (lnC l).toArray 51)) = .ok v' w' ∧ LR wS w' v' (ls ++ [l]) := by
  have hbs := h.bel.size
  obtain ⟨v', w', hrun, h1, h2, h4⟩ := ln_push (w.alloc (.cells (lnC l).toArray 51)) wS.heap.size v ls l 45 w.heap.size (h.row.alloc _) (by simp; omega) hl (fun j u hu => by
    have hj : j < 11 := by
      have := (List.getElem?_eq_some_iff.1 hu).1
      exact this
    rw [(LnAt.new w l).all j hj]
    exact hu)
  refine ⟨v', w', hrun, ⟨?_, h1, ?_⟩⟩
  · obtain ⟨_, hq | ⟨g, c, cur, hq, _⟩⟩ := h1
    · simp at hq
    · exact ⟨_, _, hq⟩
  · exact (h.bel.alloc hbs _).grown h2 (by simp; omega) (fun k hk => (h.row.lt k hk).1)

theorem linesB_more (c : UInt8) (r wd : List UInt8) (h : c ≠ 10) : linesB (c :: r) wd = linesB r (wd ++ [c]) := by
  conv => lhs; unfold linesB
  rw [if_neg h]
theorem linesB_end (r wd : List UInt8) : linesB (10 :: r) wd = wd :: linesB r [] := by
  conv => lhs; unfold linesB
  rw [if_pos rfl]
theorem take_drop_push (B : List UInt8) (k f : Nat) (hf : f ≤ k) (hk : k < B.length) : (B.take k).drop f ++ [B[k]] = (B.take (k + 1)).drop f := by
  rw [List.take_succ_eq_append_getElem hk, List.drop_append_of_le_length (by rw [List.length_take]; omega)]
end Go.Proofs.YtopankjjlapfbaaGreatDoor
