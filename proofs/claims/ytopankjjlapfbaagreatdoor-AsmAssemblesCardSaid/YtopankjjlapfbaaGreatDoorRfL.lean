/-
  A line's words by its bytes: in plain terms, over no program.
  The document's cut: a line's words.
  The document's line, as it lies in memory; what its operands make of it, in plain terms.
-/
import Derived.Test.YtopankjjlapfbaaGreatDoorSplit
import Derived.Lib.FieldsP
import Derived.Test.YtopankjjlapfbaaGreatDoorRfM
import Derived.Test.YtopankjjlapfbaaGreatDoorOpd
import Derived.Test.YtopankjjlapfbaaGreatDoorWdsB
import Derived.Test.YtopankjjlapfbaaGreatDoorInstrB
namespace Go.Proofs.YtopankjjlapfbaaGreatDoor
set_option linter.unusedVariables false
set_option maxRecDepth 100000

/-- words between gaps, byte by byte: what is read of a word so far, and what follows -/
def fieldsB : List UInt8 → List UInt8 → List (List UInt8)
  | [], wd => if wd = [] then [] else [wd]
  | c :: r, wd => if gapB c.toNat = true then (if wd = [] then fieldsB r [] else wd :: fieldsB r []) else fieldsB r (wd ++ [c])
theorem fieldsB_skip (r : List UInt8) : ∀ (u wd : List UInt8), (∀ c ∈ u, gapB c.toNat = false) → fieldsB (u ++ r) wd = fieldsB r (wd ++ u)
  | [], wd, _ => by simp
  | c :: u, wd, h => by
    show fieldsB (c :: (u ++ r)) wd = _
    conv => lhs; unfold fieldsB
    rw [if_neg (by rw [h c (by simp)]; decide), fieldsB_skip r u _ (fun x hx => h x (by simp [hx]))]
    simp

theorem get_byte (s : ByteArray) (j : Nat) (h : j < s.size) : (s.get! j) = s.data.toList[j]'(by rw [Array.length_toList]; exact h) := by
  have h1 : j < s.data.size := h
  show s.data[j]! = _
  rw [getElem!_pos s.data j h1]
  simp
/-- what decoding one sign takes: a byte below 128 alone, or bytes of which none is -/
theorem decode_shape (s : ByteArray) (i : Nat) (hi : i < s.size) :
    ((s.get! i).toNat < 128 ∧ Utf8.decode s i = ((s.get! i).toNat, 1)) ∨
    (128 ≤ (Utf8.decode s i).1 ∧ 1 ≤ (Utf8.decode s i).2 ∧ ∀ k, k < (Utf8.decode s i).2 → i + k < s.size ∧ 128 ≤ (s.get! (i + k)).toNat) := by
  by_cases h0 : (s.get! i).toNat < 128
  · left
    refine ⟨h0, ?_⟩
    unfold Utf8.decode
    simp only [Nat.add_zero]
    rw [if_pos h0]
  · right
    have hone : ∀ k, k < 1 → i + k < s.size ∧ 128 ≤ (s.get! (i + k)).toNat := fun k hk => by
      obtain rfl : k = 0 := by omega
      exact ⟨hi, by rw [Nat.add_zero]; omega⟩
    unfold Utf8.decode
    simp only [Nat.add_zero]
    rw [if_neg h0]
    split
    · rename_i h1
      simp only [Bool.and_eq_true, decide_eq_true_eq, beq_iff_eq] at h1
      split
      · rename_i h2
        refine ⟨h2, (show (1 : Nat) ≤ 2 by decide), fun k hk => ?_⟩
        rcases (show k = 0 ∨ k = 1 by omega) with rfl | rfl
        · exact hone 0 (by decide)
        · exact ⟨h1.2.1, by omega⟩
      · exact ⟨by decide, by decide, hone⟩
    · split
      · rename_i h1
        simp only [Bool.and_eq_true, decide_eq_true_eq, beq_iff_eq] at h1
        split
        · rename_i h2
          simp only [Bool.and_eq_true, decide_eq_true_eq] at h2
          refine ⟨by omega, (show (1 : Nat) ≤ 3 by decide), fun k hk => ?_⟩
          rcases (show k = 0 ∨ k = 1 ∨ k = 2 by omega) with rfl | rfl | rfl
          · exact hone 0 (by decide)
          · exact ⟨h1.1.2.1, by omega⟩
          · exact ⟨h1.2.1, by omega⟩
        · exact ⟨by decide, by decide, hone⟩
      · split
        · rename_i h1
          simp only [Bool.and_eq_true, decide_eq_true_eq, beq_iff_eq] at h1
          split
          · rename_i h2
            simp only [Bool.and_eq_true, decide_eq_true_eq] at h2
            refine ⟨by omega, (show (1 : Nat) ≤ 4 by decide), fun k hk => ?_⟩
            rcases (show k = 0 ∨ k = 1 ∨ k = 2 ∨ k = 3 by omega) with rfl | rfl | rfl | rfl
            · exact hone 0 (by decide)
            · exact ⟨h1.1.1.2.1, by omega⟩
            · exact ⟨h1.1.2.1, by omega⟩
            · exact ⟨h1.2.1, by omega⟩
          · exact ⟨by decide, by decide, hone⟩
        · exact ⟨by decide, by decide, hone⟩
theorem gap_high (x : Nat) (h : 128 ≤ x) : gapB x = false := by
  unfold gapB
  simp
  omega

/-- the word that is under way -/
def wordAt (L : List UInt8) (pos : Nat) : Option Nat → List UInt8
  | none => []
  | some a => (L.drop a).take (pos - a)
theorem extract_eq (s : ByteArray) (a b : Nat) (hb : b ≤ s.size) : s.extract a b = ⟨((s.data.toList.drop a).take (b - a)).toArray⟩ := by
  apply ByteArray.ext
  apply Array.toList_inj.1
  have : (s.extract a b).data.toList = (s.data.extract a b).toList := by rw [ByteArray.data_extract]
  rw [this]
  simp [List.take_drop]
theorem fields_done (s : ByteArray) (st : Option Nat) (acc : List (Nat × Nat)) (hst : ∀ a, st = some a → a < s.size) :
    (Lib.closeSpans s (acc, st)).map (fun x => s.extract x.1 x.2) = acc.map (fun x => s.extract x.1 x.2) ++ (fieldsB (s.data.toList.drop s.size) (wordAt s.data.toList s.size st)).map (fun w => (⟨w.toArray⟩ : ByteArray)) := by
  have hl : s.data.toList.length = s.size := by rw [Array.length_toList]; rfl
  have hd : s.data.toList.drop s.size = [] := List.drop_eq_nil_of_le (by omega)
  rw [hd]
  cases st with
  | none => simp [Lib.closeSpans, fieldsB, wordAt]
  | some a =>
    have ha := hst a rfl
    have hne : wordAt s.data.toList s.size (some a) ≠ [] := by
      intro e
      have := congrArg List.length e
      simp [wordAt] at this
      omega
    unfold fieldsB
    rw [if_neg hne]
    simp [Lib.closeSpans, wordAt, extract_eq s a s.size (Nat.le_refl _)]
theorem word_on (L : List UInt8) (a pos wd : Nat) (h : a ≤ pos) : wordAt L (pos + wd) (some a) = wordAt L pos (some a) ++ (L.drop pos).take wd := by
  show (L.drop a).take (pos + wd - a) = (L.drop a).take (pos - a) ++ (L.drop pos).take wd
  rw [show pos + wd - a = (pos - a) + wd by omega, List.take_add, List.drop_drop, show a + (pos - a) = pos by omega]
theorem fields_from (s : ByteArray) : ∀ (f pos : Nat) (st : Option Nat) (acc : List (Nat × Nat)), pos ≤ s.size → s.size - pos ≤ f → (∀ a, st = some a → a < pos) →
    (Lib.closeSpans s (Lib.spansFromP gapB s f pos st acc)).map (fun x => s.extract x.1 x.2) = acc.map (fun x => s.extract x.1 x.2) ++ (fieldsB (s.data.toList.drop pos) (wordAt s.data.toList pos st)).map (fun w => (⟨w.toArray⟩ : ByteArray)) := by
  have hl : s.data.toList.length = s.size := by rw [Array.length_toList]; rfl
  intro f
  induction f with
  | zero =>
    intro pos st acc hp hf hst
    obtain rfl : pos = s.size := by omega
    exact fields_done s st acc hst
  | succ f ih =>
    intro pos st acc hp hf hst
    by_cases hlt : pos < s.size
    · have hgb := get_byte s pos hlt
      have hdr : s.data.toList.drop pos = s.get! pos :: s.data.toList.drop (pos + 1) := by
        rw [List.drop_eq_getElem_cons (by omega), hgb]
      have step : ∀ wd, 1 ≤ wd → pos + wd ≤ s.size → (∀ k, k < wd → gapB (s.get! (pos + k)).toNat = false) → Utf8.decode s pos = ((Utf8.decode s pos).1, wd) → gapB (Utf8.decode s pos).1 = false →
          (Lib.closeSpans s (Lib.spansFromP gapB s (f + 1) pos st acc)).map (fun x => s.extract x.1 x.2) = acc.map (fun x => s.extract x.1 x.2) ++ (fieldsB (s.data.toList.drop pos) (wordAt s.data.toList pos st)).map (fun w => (⟨w.toArray⟩ : ByteArray)) := by
        intro wd h1 h2 h3 h4 h5
        have hw2 : (Utf8.decode s pos).2 = wd := by rw [h4]
        have hu : ∀ c ∈ (s.data.toList.drop pos).take wd, gapB c.toNat = false := by
          intro c hc
          obtain ⟨k, hk, rfl⟩ := List.getElem_of_mem hc
          simp at hk
          have := h3 k (by omega)
          rw [get_byte s (pos + k) (by omega)] at this
          simpa using this
        have hsplit : s.data.toList.drop pos = (s.data.toList.drop pos).take wd ++ s.data.toList.drop (pos + wd) := by
          rw [← List.drop_drop, List.take_append_drop]
        conv => rhs; rw [hsplit]
        rw [fieldsB_skip _ _ _ hu]
        unfold Lib.spansFromP
        rw [if_pos hlt, h5, hw2]
        simp only [Bool.false_eq_true, if_false]
        cases st with
        | none =>
          simp only
          rw [ih (pos + wd) (some pos) acc h2 (by omega) (fun a e => by cases e; omega), word_on _ pos pos wd (Nat.le_refl _)]
          simp [wordAt]
        | some a =>
          have ha := hst a rfl
          simp only
          rw [ih (pos + wd) (some a) acc h2 (by omega) (fun b e => by cases e; omega), word_on _ a pos wd (by omega)]
      rcases decode_shape s pos hlt with ⟨hb, hdec⟩ | ⟨hr, hw1, hall⟩
      · by_cases hg : gapB (s.get! pos).toNat = true
        · rw [hdr]
          unfold Lib.spansFromP fieldsB
          rw [if_pos hlt, hdec, if_pos hg, if_pos hg]
          cases st with
          | none =>
            simp only
            rw [ih (pos + 1) none acc (by omega) (by omega) (fun a e => by cases e)]
            simp [wordAt]
          | some a =>
            have ha := hst a rfl
            have hne : wordAt s.data.toList pos (some a) ≠ [] := by
              intro e
              have := congrArg List.length e
              simp [wordAt] at this
              omega
            simp only
            rw [ih (pos + 1) none (acc ++ [(a, pos)]) (by omega) (by omega) (fun a e => by cases e), if_neg hne]
            simp [wordAt, extract_eq s a pos (by omega)]
        · have hg' : gapB (s.get! pos).toNat = false := by simpa using hg
          exact step 1 (by decide) (by omega) (fun k hk => by rw [show pos + k = pos from (by omega)]; exact hg') (by rw [hdec]) (by rw [hdec]; exact hg')
      · exact step (Utf8.decode s pos).2 hw1 (by have := (hall ((Utf8.decode s pos).2 - 1) (by omega)).1; omega) (fun k hk => gap_high _ (hall k hk).2) rfl (gap_high _ hr)
    · obtain rfl : pos = s.size := by omega
      rw [Lib.spansFromP_end _ _ _ _ _ _ hlt]
      exact fields_done s st acc hst
theorem fields_bytes (s : ByteArray) : Lib.goFieldsP gapB s = (fieldsB s.data.toList []).map fun w => (⟨w.toArray⟩ : ByteArray) := by
  have h := fields_from s s.size 0 none [] (by omega) (by omega) (fun a e => by cases e)
  unfold Lib.goFieldsP Lib.spansOfP
  rw [h]
  simp [wordAt]
/-- the signs ahead of a remark -/
theorem said_split (L : List UInt8) : ∃ p t, L = p ++ t ∧ (35 : UInt8) ∉ p ∧ (t = [] ∨ ∃ r, t = 35 :: r) := by
  induction L with
  | nil => exact ⟨[], [], rfl, by simp, .inl rfl⟩
  | cons c r ih =>
    by_cases h : c = 35
    · exact ⟨[], c :: r, rfl, by simp, .inr ⟨r, by rw [h]⟩⟩
    · obtain ⟨p, t, e, hp, ht⟩ := ih
      exact ⟨c :: p, t, by rw [e]; rfl, by simp; exact ⟨fun e => h e.symm, hp⟩, ht⟩
end Go.Proofs.YtopankjjlapfbaaGreatDoor
namespace Go.Proofs.YtopankjjlapfbaaGreatDoor
open Go.RowKit
set_option linter.unusedVariables false
set_option maxRecDepth 100000

theorem info9 : (Tryz.prog.info? 9).map (fun i => (i.zero, i.size, i.bytes)) = some (some (.string ⟨#[]⟩), 1, 16) := by kernel_rfl
/-- a slice that holds these strings, within its room -/
def SlC (w : World) (v : Value) (os : List ByteArray) : Prop :=
  ∃ a cap, v = .slice a os.length cap ∧ os.length ≤ cap ∧ (os ≠ [] → ∃ blk off, a = some ⟨blk, off, none⟩ ∧ blk < w.heap.size ∧ ∀ i, i < os.length → w.cell? ⟨blk, off + i, none⟩ = some (.string (os.getD i ⟨#[]⟩)))
theorem SlC.below {w w' : World} {v : Value} {os : List ByteArray} (h : SlC w v os) (hb : Below w.heap.size w w') : SlC w' v os := by
  obtain ⟨a, cap, hv, hc, h⟩ := h
  refine ⟨a, cap, hv, hc, fun ho => ?_⟩
  obtain ⟨blk, off, ha, hlt, hc⟩ := h ho
  exact ⟨blk, off, ha, Nat.lt_of_lt_of_le hlt hb.size, fun i hi => by rw [hb.cell (p := ⟨blk, off + i, none⟩) hlt]; exact hc i hi⟩
theorem slc_own {w : World} {base : Nat} {v : Value} {ws : List (List UInt8)} (h : w.ownsRow base 9 1 v ws.length (ws.map (fun x => Value.string ⟨x.toArray⟩))) : SlC w v (ws.map fun x => (⟨x.toArray⟩ : ByteArray)) := by
  rcases h.2 with ⟨rfl, hn⟩ | ⟨g, cap, cur, rfl, _, _, hn, _⟩
  · refine ⟨none, 0, by rw [List.length_map, hn], by rw [List.length_map]; omega, fun ho => ?_⟩
    exact absurd (by rw [List.length_eq_zero_iff.1 hn]; rfl) ho
  · refine ⟨_, cap, by rw [List.length_map], by rw [List.length_map]; exact hn, fun ho => ⟨g, 0, rfl, (h.lt g rfl).2, fun i hi => ?_⟩⟩
    rw [List.length_map] at hi
    rw [Nat.zero_add, h.cellAt i (by omega)]
    simp [List.getD, List.getElem?_eq_getElem hi]
theorem idx_one (c : UInt8) : ∀ (p r : List UInt8), c ∉ p → Lib.index (p ++ c :: r) [c] = (p.length : Int)
  | [], r, h => by simp [Lib.index]
  | b :: p, r, h => by
    have hb : c ≠ b := fun e => h (by simp [e])
    have ih := idx_one c p r (fun hc => h (by simp [hc]))
    show Lib.index (b :: (p ++ c :: r)) [c] = _
    unfold Lib.index
    rw [ih]
    have hp : ([c] : List UInt8).isPrefixOf (b :: (p ++ c :: r)) = false := by simp [List.isPrefixOf, hb]
    have hm : (((p.length : Int)) == -1) = false := by rw [beq_eq_false_iff_ne]; omega
    simp [hp, hm]
theorem idx_no (c : UInt8) : ∀ (p : List UInt8), c ∉ p → Lib.index p [c] = -1
  | [], h => by simp [Lib.index]
  | b :: p, h => by
    have hb : c ≠ b := fun e => h (by simp [e])
    have ih := idx_no c p (fun hc => h (by simp [hc]))
    unfold Lib.index
    rw [ih]
    have hp : ([c] : List UInt8).isPrefixOf (b :: p) = false := by simp [List.isPrefixOf, hb]
    simp [hp]
theorem one_str (w : World) (v : Value) : ∀ j u, [v][j]? = some u → (w.alloc (.cells #[v] 9)).cell? ((⟨w.heap.size, 0, none⟩ : Addr).add j) = some u := by
  intro j u hj
  match j, hj with
  | 0, hj => simp at hj; subst hj; simp [Addr.add]
theorem str_empty {wd : List UInt8} (h : wd ≠ []) : ((⟨wd.toArray⟩ : ByteArray).toList == []) = false := by
  rw [beq_eq_false_iff_ne, Go.ByteArray.toList_eq]
  simpa using h
theorem byte_of (s : ByteArray) (k : Nat) (c : UInt8) (h : s.data.toList[k]? = some c) : bsA s k = ((c.toNat : Nat) : Int) := by
  unfold bsA
  rw [List.getD_eq_getElem?_getD, h]
  rfl

theorem str_push {wS w : World} {v : Value} {ws : List (List UInt8)} (h : w.ownsRow wS.heap.size 9 1 v ws.length (ws.map (fun x => Value.string ⟨x.toArray⟩))) (hb : Below wS.heap.size wS w) (wd : List UInt8) (W : ByteArray) (hW : W = ⟨wd.toArray⟩) (hl : ws.length < 1000000) :
    ∃ v' w', (Builtin.append_ #[71, 71] 71 #[v, .slice (some ⟨w.heap.size, 0, none⟩) 1 1]).run Tryz.prog (w.alloc (.cells #[.string W] 9)) = .ok v' w' ∧
      w'.ownsRow wS.heap.size 9 1 v' (ws ++ [wd]).length ((ws ++ [wd]).map (fun x => Value.string ⟨x.toArray⟩)) ∧ Below wS.heap.size wS w' := by
  obtain ⟨i0, hi, hz0, hz1, hz2⟩ := info_parts info9
  have hbs := hb.size
  obtain ⟨v', w', hrun, h1, h2, _, _⟩ := run_append_own_at (P := Tryz.prog) (w.alloc (.cells #[.string W] 9)) wS.heap.size 71 71 9 i0 _ 1 16 Tryz.underlying71 hi hz0 hz1 hz2 rfl (by decide) v ws.length (ws.map (fun x => Value.string ⟨x.toArray⟩)) (h.alloc _) ⟨w.heap.size, 0, none⟩ 1 1 [.string W] rfl
    (cell_one_new w (.string W) 9) (fun u hu => by simp at hu; subst hu; rfl) (by unfold maxLen; omega) (by omega) (by simp; omega)
  refine ⟨v', w', hrun, ?_, (hb.alloc hbs _).grown h2 (by simp; omega) (fun k hk => (h.lt k hk).1)⟩
  rw [List.length_append, List.map_append]
  subst hW
  exact h1

set_option maxHeartbeats 6400000 in
theorem dcut_any (s : ByteArray) (hs : s.size ≤ 65536) (w : World) :
    Calls Tryz.prog 47 #[.string s] w fun e w' => ∃ v, e = .returned v ∧ SlC w' v (wordsL s) ∧ Below w.heap.size w w' := by
  obtain ⟨i0, hi, hz0, hz1, hz2⟩ := info_parts info9
  obtain ⟨p, t, hpt, hp35, ht⟩ := said_split s.data.toList
  have hlen : s.data.toList.length = s.size := by rw [Array.length_toList]; rfl
  have hpl : p.length + t.length = s.size := by rw [← hlen, hpt, List.length_append]
  have HQ : Hid (wordsL s = (fieldsB p []).map fun w => (⟨w.toArray⟩ : ByteArray)) := by
    show _ = _
    unfold wordsL
    have hs' : saidS s = ⟨p.toArray⟩ := by
      unfold saidS Lib.cut
      rw [hpt]
      rcases ht with rfl | ⟨r, rfl⟩
      · rw [List.append_nil, idx_no 35 p hp35, if_neg (by omega)]
      · rw [idx_one 35 p r hp35, if_pos (by omega)]
        simp
    rw [hs', fields_bytes]
  have HZ : Hid (∀ k (h : k < s.size), ((s[k].toNat : Nat) : Int) = bsA s k) := byte_at s
  have HP : Hid (s.data.toList = p ++ t) := hpt
  clear hpt hlen
  go_enter Tryz.func47, Tryz.ntmps47
  go_wp2_with fail
  go_loopw [3, 4, 5] (fun ov wv i wr => ∃ (k : Nat) (ws : List (List UInt8)) (wd : List UInt8), k ≤ p.length ∧ i = .int .i64 k ∧ wv = .string ⟨wd.toArray⟩ ∧ wr.ownsRow w.heap.size 9 1 ov ws.length (ws.map (fun x => Value.string ⟨x.toArray⟩)) ∧ fieldsB p [] = ws ++ fieldsB (p.drop k) wd ∧ wd.length ≤ k ∧ ws.length ≤ k ∧ Below w.heap.size w wr) (fun _ _ i _ => p.length - (intOf i).toNat)
  case atStart => exact ⟨0, [], [], by omega, rfl, rfl, World.ownsRow_nil _ _ _ _, rfl, by simp, by simp, Below.refl _ _⟩
  case round =>
    obtain ⟨k, ws, wd, hk, rfl, rfl, hown0, hF, hwl, hwsl, hb⟩ := hrel
    have HO : Hid (_) := hown0
    have HF : Hid (_) := hF
    have hbsz := hb.size
    clear hown0 hF
    by_cases hlt : k < p.length
    · obtain ⟨c, hc⟩ : ∃ c, p[k]? = some c := ⟨p[k], List.getElem?_eq_getElem hlt⟩
      have hcs : s.data.toList[k]? = some c := by rw [HP.out, List.getElem?_append_left hlt]; exact hc
      have hzv := byte_of s k c hcs
      have hzk := HZ.out k (by omega)
      have hdr : p.drop k = c :: p.drop (k + 1) := by
        rw [List.drop_eq_getElem_cons hlt]
        congr 1
        rw [List.getElem?_eq_getElem hlt] at hc
        exact Option.some.inj hc
      have hc35 : c ≠ 35 := fun e => hp35 (by rw [← e]; exact List.mem_of_getElem? hc)
      have hz35 : (bsA s k == 35) = false := by
        rw [beq_eq_false_iff_ne, hzv]
        intro e
        exact hc35 (UInt8.toNat_inj.1 (by rw [show c.toNat = 35 by omega]; rfl))
      have hkl : ((k : Int) == (s.size : Int)) = false := by rw [beq_eq_false_iff_ne]; omega
      have hext : s.extract k (k + 1) = ⟨#[c]⟩ := by
        rw [extract_eq s k (k + 1) (by omega), HP.out, List.drop_append_of_le_length (by omega), hdr, show k + 1 - k = 1 by omega]
        rfl
      clear hc hcs
      by_cases hgap : gapB c.toNat = true
      · have HG : Hid (gapB c.toNat = true) := hgap
        have hg : c.toNat = 32 ∨ c.toNat = 44 ∨ c.toNat = 9 ∨ c.toNat = 40 ∨ c.toNat = 41 := by
          unfold gapB at hgap
          simp at hgap
          omega
        clear hgap
        have hzn : bsA s k = 32 ∨ bsA s k = 44 ∨ bsA s k = 9 ∨ bsA s k = 40 ∨ bsA s k = 41 := by omega
        clear hg hext
        by_cases hw : wd = []
        · subst hw
          have HF2 : Hid (fieldsB p [] = ws ++ fieldsB (p.drop (k + 1)) []) := by
            show _ = _
            rw [HF.out, hdr]
            conv => lhs; unfold fieldsB
            rw [if_pos (HG.out)]
            rfl
          clear hdr HG hzv HF
          generalize bsA s k = z at *
          rcases hzn with rfl | rfl | rfl | rfl | rfl
          all_goals
            go_wp2_with fail
            go_roundw
            case rel => exact ⟨k + 1, ws, [], by omega, by go_num, rfl, HO.out, HF2.out, by simp, by omega, hb⟩
            case measure => simp [intOf]; omega
        · have HF2 : Hid (fieldsB p [] = (ws ++ [wd]) ++ fieldsB (p.drop (k + 1)) []) := by
            show _ = _
            rw [HF.out, hdr]
            conv => lhs; unfold fieldsB
            rw [if_pos (HG.out), if_neg hw]
            simp
          have hne := str_empty hw
          have hWs : (⟨wd.toArray⟩ : ByteArray).size = wd.length := by show wd.toArray.size = _; simp
          obtain ⟨W, hW⟩ : ∃ W : ByteArray, W = ⟨wd.toArray⟩ := ⟨_, rfl⟩
          rw [← hW] at hne hWs ⊢
          have HW : Hid (W = ⟨wd.toArray⟩) := hW
          obtain ⟨v1, w1, hrun, hown2, hb1⟩ := str_push HO.out hb wd W hW (by omega)
          have HO2 : Hid (_) := hown2
          clear hdr HG hW HO hzv HF hw hown2
          generalize bsA s k = z at *
          rcases hzn with rfl | rfl | rfl | rfl | rfl
          all_goals
            go_wp2_with (at_builtin; refine wpList_append_run rfl _ _ 71 rfl _ _ v1 w1 rfl rfl hrun ?_)
            go_roundw
            case rel => exact ⟨k + 1, ws ++ [wd], [], by omega, by go_num, rfl, HO2.out, HF2.out, by simp, by simp; omega, hb1⟩
            case measure => simp [intOf]; omega
      · have hgn : gapB c.toNat = false := by simpa using hgap
        have HF2 : Hid (fieldsB p [] = ws ++ fieldsB (p.drop (k + 1)) (wd ++ [c])) := by
          show _ = _
          rw [HF.out, hdr]
          conv => lhs; unfold fieldsB
          rw [if_neg hgap]
        have hn5 : c.toNat ≠ 32 ∧ c.toNat ≠ 44 ∧ c.toNat ≠ 9 ∧ c.toNat ≠ 40 ∧ c.toNat ≠ 41 := by
          unfold gapB at hgn
          simp at hgn
          omega
        have g1 : (bsA s k == 32) = false := by rw [beq_eq_false_iff_ne]; omega
        have g2 : (bsA s k == 44) = false := by rw [beq_eq_false_iff_ne]; omega
        have g3 : (bsA s k == 9) = false := by rw [beq_eq_false_iff_ne]; omega
        have g4 : (bsA s k == 40) = false := by rw [beq_eq_false_iff_ne]; omega
        have g5 : (bsA s k == 41) = false := by rw [beq_eq_false_iff_ne]; omega
        have hWs : (⟨wd.toArray⟩ : ByteArray).size = wd.length := by show wd.toArray.size = _; simp
        have HX : Hid ((⟨wd.toArray⟩ : ByteArray) ++ ⟨#[c]⟩ = ⟨(wd ++ [c]).toArray⟩) := by
          show _ = _
          apply ByteArray.ext
          simp
        have hc1 : (⟨#[c]⟩ : ByteArray).size = 1 := rfl
        clear hdr hzv HF hn5 hgap hgn
        generalize (⟨wd.toArray⟩ : ByteArray) = W at *
        generalize (⟨#[c]⟩ : ByteArray) = C at *
        generalize bsA s k = z at *
        go_wp2_with fail
        go_roundw
        case rel => exact ⟨k + 1, ws, wd ++ [c], by omega, by go_num, by rw [← HX.out], HO.out, HF2.out, by simp; omega, by omega, hb⟩
        case measure => simp [intOf]; omega
    · obtain rfl : k = p.length := by omega
      rcases ht with rfl | ⟨r, rfl⟩
      · have hkl : ((p.length : Int) == (s.size : Int)) = true := by rw [beq_iff_eq]; simp at hpl; omega
        by_cases hw : wd = []
        · subst hw
          have HF2 : Hid (fieldsB p [] = ws) := by show _ = _; rw [HF.out, List.drop_eq_nil_of_le (Nat.le_refl _)]; simp [fieldsB]
          go_wp2_with fail
          go_ret
          exact ⟨_, rfl, by rw [HQ.out, HF2.out]; exact slc_own HO.out, hb⟩
        · have HF2 : Hid (fieldsB p [] = ws ++ [wd]) := by show _ = _; rw [HF.out, List.drop_eq_nil_of_le (Nat.le_refl _)]; simp [fieldsB, hw]
          have hne := str_empty hw
          have hWs : (⟨wd.toArray⟩ : ByteArray).size = wd.length := by show wd.toArray.size = _; simp
          obtain ⟨W, hW⟩ : ∃ W : ByteArray, W = ⟨wd.toArray⟩ := ⟨_, rfl⟩
          rw [← hW] at hne hWs ⊢
          have HW : Hid (W = ⟨wd.toArray⟩) := hW
          obtain ⟨v1, w1, hrun, hown2, hb1⟩ := str_push HO.out hb wd W hW (by omega)
          have HO2 : Hid (_) := hown2
          clear hW HO hown2
          go_wp2_with (at_builtin; refine wpList_append_run rfl _ _ 71 rfl _ _ v1 w1 rfl rfl hrun ?_)
          go_ret
          exact ⟨v1, rfl, by rw [HQ.out, HF2.out]; exact slc_own HO2.out, hb1⟩
      · have hkl : ((p.length : Int) == (s.size : Int)) = false := by rw [beq_eq_false_iff_ne]; simp at hpl; omega
        have hcs : s.data.toList[p.length]? = some 35 := by rw [HP.out, List.getElem?_append_right (Nat.le_refl _)]; simp
        have hzv := byte_of s p.length 35 hcs
        have hpl2 : p.length < s.size := by simp at hpl; omega
        have hzk := HZ.out p.length hpl2
        rw [hzv] at hzk
        clear hcs hzv hpl
        by_cases hw : wd = []
        · subst hw
          have HF2 : Hid (fieldsB p [] = ws) := by show _ = _; rw [HF.out, List.drop_eq_nil_of_le (Nat.le_refl _)]; simp [fieldsB]
          go_wp2_with fail
          go_ret
          exact ⟨_, rfl, by rw [HQ.out, HF2.out]; exact slc_own HO.out, hb⟩
        · have HF2 : Hid (fieldsB p [] = ws ++ [wd]) := by show _ = _; rw [HF.out, List.drop_eq_nil_of_le (Nat.le_refl _)]; simp [fieldsB, hw]
          have hne := str_empty hw
          have hWs : (⟨wd.toArray⟩ : ByteArray).size = wd.length := by show wd.toArray.size = _; simp
          obtain ⟨W, hW⟩ : ∃ W : ByteArray, W = ⟨wd.toArray⟩ := ⟨_, rfl⟩
          rw [← hW] at hne hWs ⊢
          have HW : Hid (W = ⟨wd.toArray⟩) := hW
          obtain ⟨v1, w1, hrun, hown2, hb1⟩ := str_push HO.out hb wd W hW (by omega)
          have HO2 : Hid (_) := hown2
          clear hW HO hown2
          go_wp2_with (at_builtin; refine wpList_append_run rfl _ _ 71 rfl _ _ v1 w1 rfl rfl hrun ?_)
          go_ret
          exact ⟨v1, rfl, by rw [HQ.out, HF2.out]; exact slc_own HO2.out, hb1⟩
end Go.Proofs.YtopankjjlapfbaaGreatDoor
namespace Go.Proofs.YtopankjjlapfbaaGreatDoor
open Go.RowKit
set_option linter.unusedVariables false
set_option maxRecDepth 100000

/-- a name is no number -/
theorem name_num (o : ByteArray) (h : nameB o = true) : numO o = none := by
  unfold nameB at h
  simp only [Bool.and_eq_true] at h
  obtain ⟨⟨⟨⟨h0, h1⟩, h2⟩, h3⟩, h4⟩ := h
  have hne : o.data.toList ≠ [] := by
    intro e
    have h5 : o.size = 0 := by
      have := congrArg List.length e
      rw [Array.length_toList] at this
      exact this
    rw [h5] at h0
    simp at h0
  rw [← str_of o]
  cases hl : o.data.toList with
  | nil => exact absurd hl hne
  | cons c r =>
    rw [hl] at h2 h3
    have hc : chrB ((c.toNat : Nat) : Int) = true := by
      rw [List.all_cons, Bool.and_eq_true] at h3
      exact h3.1
    have hd : digB ((c.toNat : Nat) : Int) = false := by simpa using h2
    have hcl : c.toNat = 95 ∨ 97 ≤ c.toNat := by
      unfold chrB at hc
      rw [hd] at hc
      simp at hc
      omega
    rw [num_pos _ (by show c.toNat ≠ 45; omega)]
    unfold rnumD
    split
    · rfl
    · rw [decFrom_bad (c :: r) 0 c rfl (by unfold Lib.digitVal; rw [if_neg (by omega)])]
      rfl

/-- operands that are registers leave the number as it is -/
theorem imm_keep : ∀ (ps : List Int) (os : List ByteArray) (s s' : St), (∀ p ∈ ps, p = 0 ∨ p = 1 ∨ p = 2) → opdsO s ps os = some s' → s'.imm = s.imm ∧ s'.target = s.target
  | [], os, s, s', _, h => by simp [opdsO] at h; subst h; exact ⟨rfl, rfl⟩
  | p :: ps, [], s, s', _, h => by simp [opdsO] at h; subst h; exact ⟨rfl, rfl⟩
  | p :: ps, o :: os, s, s', hp, h => by
    simp only [opdsO] at h
    have hp0 := hp p (by simp)
    cases h1 : opdO s p o with
    | none => rw [h1] at h; cases h
    | some s1 =>
      rw [h1] at h
      have ih := imm_keep ps os s1 s' (fun q hq => hp q (by simp [hq])) h
      have h2 : s1.imm = s.imm ∧ s1.target = s.target := by
        unfold opdO at h1
        rw [if_neg (by omega), if_neg (by omega)] at h1
        cases h3 : regO o with
        | none => rw [h3] at h1; cases h1
        | some v =>
          rw [h3] at h1
          simp only [Option.map_some, Option.some.injEq] at h1
          subst h1
          unfold putF
          rcases hp0 with rfl | rfl | rfl <;> exact ⟨rfl, rfl⟩
      exact ⟨ih.1.trans h2.1, ih.2.trans h2.2⟩

/-- the document's line -/
structure Ln where
  at_ : Int
  mark : ByteArray
  words : Int
  is_ : Bool
  op : Int
  rd : Int
  rs1 : Int
  rs2 : Int
  imm : Int
  want : ByteArray
  value : Int
def lnC (l : Ln) : List Value := [.int .i64 l.at_, .string l.mark, .int .i64 l.words, .bool l.is_, .int .i64 l.op, .int .i64 l.rd, .int .i64 l.rs1, .int .i64 l.rs2, .int .i64 l.imm, .string l.want, .int .u32 l.value]
def lnV (l : Ln) : Value := .agg (lnC l).toArray
/-- the line of an instruction -/
def lnS (s : St) : Ln := ⟨0, ⟨#[]⟩, 1, true, s.op, s.rd, s.rs1, s.rs2, s.imm, s.target, 0⟩
def ln0 : Ln := ⟨0, ⟨#[]⟩, 0, false, 0, 0, 0, 0, 0, ⟨#[]⟩, 0⟩

structure LnAt (w : World) (B : Nat) (l : Ln) : Prop where
  c0 : w.cell? ⟨B, 0, none⟩ = some (.int .i64 l.at_)
  c1 : w.cell? ⟨B, 1, none⟩ = some (.string l.mark)
  c2 : w.cell? ⟨B, 2, none⟩ = some (.int .i64 l.words)
  c3 : w.cell? ⟨B, 3, none⟩ = some (.bool l.is_)
  c4 : w.cell? ⟨B, 4, none⟩ = some (.int .i64 l.op)
  c5 : w.cell? ⟨B, 5, none⟩ = some (.int .i64 l.rd)
  c6 : w.cell? ⟨B, 6, none⟩ = some (.int .i64 l.rs1)
  c7 : w.cell? ⟨B, 7, none⟩ = some (.int .i64 l.rs2)
  c8 : w.cell? ⟨B, 8, none⟩ = some (.int .i64 l.imm)
  c9 : w.cell? ⟨B, 9, none⟩ = some (.string l.want)
  c10 : w.cell? ⟨B, 10, none⟩ = some (.int .u32 l.value)
  fz : ∀ i, w.frozen? ⟨B, i, none⟩ = false
  lt : B < w.heap.size
theorem LnAt.all {w : World} {B : Nat} {l : Ln} (h : LnAt w B l) : ∀ j, j < 11 → w.cell? ⟨B, j, none⟩ = (lnC l)[j]? := fun j hj => by
  match j, hj with
  | 0, _ => exact h.c0
  | 1, _ => exact h.c1
  | 2, _ => exact h.c2
  | 3, _ => exact h.c3
  | 4, _ => exact h.c4
  | 5, _ => exact h.c5
  | 6, _ => exact h.c6
  | 7, _ => exact h.c7
  | 8, _ => exact h.c8
  | 9, _ => exact h.c9
  | 10, _ => exact h.c10
theorem LnAt.of {w : World} {B : Nat} {l : Ln} (key : ∀ j, j < 11 → w.cell? ⟨B, j, none⟩ = (lnC l)[j]?) (hf : ∀ i, w.frozen? ⟨B, i, none⟩ = false) (hl : B < w.heap.size) : LnAt w B l :=
  ⟨key 0 (by omega), key 1 (by omega), key 2 (by omega), key 3 (by omega), key 4 (by omega), key 5 (by omega), key 6 (by omega), key 7 (by omega), key 8 (by omega), key 9 (by omega), key 10 (by omega), hf, hl⟩
theorem LnAt.keep {w w' : World} {B : Nat} {l : Ln} (h : LnAt w B l) (hh : w'.heap[B]? = w.heap[B]?) (hs : B < w'.heap.size) : LnAt w' B l :=
  LnAt.of (fun j hj => by rw [World.cell?_of_block (a := ⟨B, j, none⟩) hh]; exact h.all j hj) (fun i => by rw [World.frozen?_of_block (a := ⟨B, i, none⟩) hh]; exact h.fz i) hs
theorem LnAt.below {w w' : World} {B : Nat} {l : Ln} (h : LnAt w B l) (hb : Below w.heap.size w w') : LnAt w' B l :=
  h.keep (hb.block B h.lt) (Nat.lt_of_lt_of_le h.lt hb.size)
theorem LnAt.set {w : World} {B : Nat} {l l' : Ln} (h : LnAt w B l) (i : Nat) (v : Value) (hi : ∀ j, j < 11 → j ≠ i → (lnC l')[j]? = (lnC l)[j]?) (hv : (lnC l')[i]? = some v) (h11 : i < 11) : LnAt (w.setCell ⟨B, i, none⟩ v) B l' := by
  refine LnAt.of (fun j hj => ?_) (fun j => by rw [World.frozen?_setCell]; exact h.fz j) (Nat.lt_of_lt_of_le h.lt ((Below.refl _ w).setCell (p := ⟨B, i, none⟩) (Nat.zero_le _) v : Below 0 w _).size)
  by_cases hji : j = i
  · subst hji
    rw [hv]
    have hlen : j < (lnC l).length := hj
    exact World.cell?_setCell_same w ⟨B, j, none⟩ v ((h.all j hj).trans (List.getElem?_eq_getElem hlen))
  · rw [World.cell?_setCell_other _ _ _ _ (by simp), h.all j hj, hi j hj hji]
theorem LnAt.new (w : World) (l : Ln) : LnAt (w.alloc (.cells (lnC l).toArray 51)) w.heap.size l :=
  LnAt.of (fun j hj => by rw [World.cell?_alloc_new]; simp) (fun i => World.frozen?_alloc_new _ _ _ _) (by simp)
theorem below_set11 {B b : Nat} {w w1 : World} (h : Below B w w1) (hb : B ≤ b) (v0 v1 v2 v3 v4 v5 v6 v7 v8 v9 v10 : Value) :
    Below B w (((((((((((w1.setCell ⟨b, 0, none⟩ v0).setCell ⟨b, 1, none⟩ v1).setCell ⟨b, 2, none⟩ v2).setCell ⟨b, 3, none⟩ v3).setCell ⟨b, 4, none⟩ v4).setCell ⟨b, 5, none⟩ v5).setCell ⟨b, 6, none⟩ v6).setCell ⟨b, 7, none⟩ v7).setCell ⟨b, 8, none⟩ v8).setCell ⟨b, 9, none⟩ v9).setCell ⟨b, 10, none⟩ v10) :=
  ((((((((((h.setCell hb _).setCell hb _).setCell hb _).setCell hb _).setCell hb _).setCell hb _).setCell hb _).setCell hb _).setCell hb _).setCell hb _).setCell hb _
/-- a field of the line's instruction -/
theorem LnAt.put {w : World} {B : Nat} {s : St} (h : LnAt w B (lnS s)) (p v : Int) : LnAt (w.setCell ⟨B, 4 + fo p, none⟩ (.int .i64 v)) B (lnS (putF s p v)) := by
  unfold fo putF
  by_cases h0 : p = 0
  · rw [if_pos h0, if_pos h0]
    exact h.set _ _ (fun j hj hn => by match j, hj, hn with | 0, _, _ => rfl | 1, _, _ => rfl | 2, _, _ => rfl | 3, _, _ => rfl | 4, _, _ => rfl | 6, _, _ => rfl | 7, _, _ => rfl | 8, _, _ => rfl | 9, _, _ => rfl | 10, _, _ => rfl) rfl (by decide)
  · rw [if_neg h0, if_neg h0]
    by_cases h1 : p = 1
    · rw [if_pos h1, if_pos h1]
      exact h.set _ _ (fun j hj hn => by match j, hj, hn with | 0, _, _ => rfl | 1, _, _ => rfl | 2, _, _ => rfl | 3, _, _ => rfl | 4, _, _ => rfl | 5, _, _ => rfl | 7, _, _ => rfl | 8, _, _ => rfl | 9, _, _ => rfl | 10, _, _ => rfl) rfl (by decide)
    · rw [if_neg h1, if_neg h1]
      by_cases h2 : p = 2
      · rw [if_pos h2, if_pos h2]
        exact h.set _ _ (fun j hj hn => by match j, hj, hn with | 0, _, _ => rfl | 1, _, _ => rfl | 2, _, _ => rfl | 3, _, _ => rfl | 4, _, _ => rfl | 5, _, _ => rfl | 6, _, _ => rfl | 8, _, _ => rfl | 9, _, _ => rfl | 10, _, _ => rfl) rfl (by decide)
      · rw [if_neg h2, if_neg h2]
        exact h.set _ _ (fun j hj hn => by match j, hj, hn with | 0, _, _ => rfl | 1, _, _ => rfl | 2, _, _ => rfl | 3, _, _ => rfl | 4, _, _ => rfl | 5, _, _ => rfl | 6, _, _ => rfl | 7, _, _ => rfl | 9, _, _ => rfl | 10, _, _ => rfl) rfl (by decide)
theorem LnAt.aim {w : World} {B : Nat} {s : St} (h : LnAt w B (lnS s)) (o : ByteArray) : LnAt (w.setCell ⟨B, 9, none⟩ (.string o)) B (lnS { s with target := o }) :=
  h.set _ _ (fun j hj hn => by match j, hj, hn with | 0, _, _ => rfl | 1, _, _ => rfl | 2, _, _ => rfl | 3, _, _ => rfl | 4, _, _ => rfl | 5, _, _ => rfl | 6, _, _ => rfl | 7, _, _ => rfl | 8, _, _ => rfl | 10, _, _ => rfl) rfl (by decide)
end Go.Proofs.YtopankjjlapfbaaGreatDoor
