/-
  What Put and Block of the document's disk do.
-/
import Derived.Test.YtkadpmmielegfaaRb
namespace Go.Proofs.Ytkadpmmielegfaa
open Go.RowKit Go.Maps
set_option linter.unusedVariables false
set_option maxRecDepth 20000

set_option maxHeartbeats 800000 in
theorem rdput_any (N0 R rb B : Nat) (v : Value) (ps : List Rq) (zs ys : List Int) (n : Int) (a : Option Addr) (len c : Nat) (w : World) (h : RD N0 w R rb B v ps zs) (hs : SL w a len ys) (hne : 0 < len → ∀ b0 off, a = some ⟨b0, off, none⟩ → b0 ≠ rb) (hnc : len ≤ c) (hl : len < 9223372036854775808) :
    Calls Try.prog 17 #[.pointer (some ⟨R, 0, none⟩), .int .i64 n, .slice a len c] w fun e w' => e = .returned (.int .i64 (putE B n ys.length)) ∧ RD N0 w' R rb B v ps (putZ B zs n ys) ∧ w.grownBy w' (some rb) := by
  have hyl := hs.1
  have C := rdhas_any N0 R rb B v ps zs n w h
  by_cases hn : 0 ≤ n ∧ n < B
  · rw [decide_eq_true hn] at C
    by_cases h256 : len = 256
    · obtain ⟨T, rfl⟩ := Int.eq_ofNat_of_zero_le hn.1
      subst h256
      have hT : T < B := by omega
      rw [show putE B T ys.length = 0 by simp [putE]; omega, show putZ B zs T ys = splice zs (T * 256) ys by simp [putZ, putE, hyl]; omega]
      have hzl := h.len
      have hb2 := h.b2
      go_enter Try.func17, Try.ntmps17
      go_wp2_with fail
      refine C.mono ?_
      rintro e w1 ⟨rfl, rfl⟩
      clear C
      go_wp2_with fail
      go_loopw [7] (fun i wr => ∃ k : Nat, k ≤ 256 ∧ i = .int .i64 k ∧ RD N0 wr R rb B v ps (splice zs (T * 256) (ys.take k)) ∧ w1.grownBy wr (some rb)) (fun i _ => 256 - (intOf i).toNat)
      case atStart => exact ⟨0, by omega, rfl, by rw [List.take_zero, splice_nil]; exact h, grown_refl _ _⟩
      case round =>
        obtain ⟨k, hk, rfl, hm, hgr⟩ := hrel
        by_cases hlt : k < 256
        · rcases hs.2.2 with h00 | ⟨b0, off, rfl, hb0, hcells⟩
          · omega
          have hb := hs.2.1 k
          have htl : (ys.take k).length = k := by simp; omega
          have hlen := length_splice zs (T * 256) (ys.take k) (by omega)
          have hc := hm.c0
          have hbl := hm.lt
          have hgl := hm.rlt
          have hne0 := hne (by omega) b0 off rfl
          have hbk : wr.cell? ⟨b0, off + k, none⟩ = some (.int .u8 (ys.getD k 0)) := by
            rw [World.cell?_of_block (a := ⟨b0, off + k, none⟩) (hgr.block b0 hb0 (by simp; exact hne0))]
            exact hcells k hlt
          have hg3l := World.block_lt_of_cell? wr ⟨b0, off + k, none⟩ hbk
          have htk := hm.rowAt (T * 256 + k) (by omega)
          have hfz : wr.frozen? ⟨rb, T * 256 + k, none⟩ = false := by simp [World.frozen?, hm.row]
          have ST := hm.set (T * 256 + k) (ys.getD k 0) (by omega) hb.1 hb.2
          have e0 : ys.take (k + 1) = ys.take k ++ [ys.getD k 0] := by
            rw [List.take_add_one, List.getElem?_eq_getElem (show k < ys.length by omega)]
            simp [List.getD, List.getElem?_eq_getElem (show k < ys.length by omega)]
          have e1 : (splice zs (T * 256) (ys.take k)).set (T * 256 + k) (ys.getD k 0) = splice zs (T * 256) (ys.take (k + 1)) := by
            rw [e0, splice_snoc zs _ _ (T * 256) (by omega), htl]
          rw [e1] at ST
          have HST : Hid (_) := ST
          have HG : Hid (_) := hgr
          rw [hlen, hzl] at hc
          clear ST e1 hm hgr hlen e0 htl hcells hs hne h
          generalize ys.getD k 0 = z at *
          generalize (splice zs (T * 256) (ys.take k)).getD (T * 256 + k) 0 = y at *
          have i1 : (0 : Int) ≤ (k : Int) ∧ (k : Int) < 256 := by omega
          have i2 : (0 : Int) ≤ (T : Int) * 256 + (k : Int) ∧ (T : Int) * 256 + (k : Int) < ((B * 256 : Nat) : Int) := by omega
          go_wp2_with fail
          go_region
          all_goals go_wp2_with fail
          exact ⟨⟨k + 1, by omega, by go_num, HST.out.1.drew, grown_drew (grown_trans HG.out HST.out.2)⟩, by simp [intOf]; omega⟩
        · obtain rfl : k = 256 := by omega
          rw [List.take_of_length_le (by omega)] at hm
          go_wp2_with fail
          go_ret
          exact ⟨rfl, hm, hgr⟩
    · have hl' : ((len : Int) != 256) = true := by rw [bne_iff_ne]; omega
      rw [show putE B n ys.length = 2 by simp [putE, hn]; omega, show putZ B zs n ys = zs by simp [putZ, putE, hn]; omega]
      go_enter Try.func17, Try.ntmps17
      go_wp2_with fail
      refine C.mono ?_
      rintro e w ⟨rfl, rfl⟩
      go_wp2_with fail
      go_ret
      exact ⟨rfl, h, grown_refl _ _⟩
  · rw [decide_eq_false hn] at C
    rw [show putE B n ys.length = 12 by simp [putE, hn], show putZ B zs n ys = zs by simp [putZ, putE, hn]]
    go_enter Try.func17, Try.ntmps17
    go_wp2_with fail
    refine C.mono ?_
    rintro e w ⟨rfl, rfl⟩
    go_wp2_with fail
    go_ret
    exact ⟨rfl, h, grown_refl _ _⟩

theorem rdblock_no (N0 R rb B : Nat) (v : Value) (ps : List Rq) (zs : List Int) (n : Int) (w : World) (h : RD N0 w R rb B v ps zs) (hn : ¬ (0 ≤ n ∧ n < B)) :
    Calls Try.prog 21 #[.pointer (some ⟨R, 0, none⟩), .int .i64 n] w fun e w' => e = .returned (.tuple #[.slice none 0 0, .int .i64 12]) ∧ w' = w := by
  have C := rdhas_any N0 R rb B v ps zs n w h
  rw [decide_eq_false hn] at C
  go_enter Try.func21, Try.ntmps21
  go_wp2_with fail
  refine C.mono ?_
  rintro e w ⟨rfl, rfl⟩
  go_wp2_with fail
  go_ret2
  exact ⟨rfl, rfl⟩
theorem rdblock_yes (N0 R rb B : Nat) (v : Value) (ps : List Rq) (zs : List Int) (n : Nat) (w : World) (h : RD N0 w R rb B v ps zs) (hn : n < B) :
    Calls Try.prog 21 #[.pointer (some ⟨R, 0, none⟩), .int .i64 n] w fun e w' => ∃ a c, e = .returned (.tuple #[.slice a 256 c, .int .i64 0]) ∧ SL w' a 256 (piece zs n) ∧ Below w.heap.size w w' := by
  have C := rdhas_any N0 R rb B v ps zs n w h
  rw [decide_eq_true (show 0 ≤ (n : Int) ∧ (n : Int) < B by omega)] at C
  have hzl := h.len
  have hb2 := h.b2
  have c0 := h.c0
  rw [hzl] at c0
  have hl := h.lt
  have bA : Below w.heap.size w (w.alloc (.cells #[] 5)) := (Below.refl _ _).alloc (Nat.le_refl _) _
  have hownA : (w.alloc (.cells #[] 5)).ownsRow w.heap.size 5 1 (.slice (some ⟨w.heap.size, 0, none⟩) 0 0) 0 (([] : List Int).map (Value.int .u8)) := World.ownsRow_lit w #[] 0 (Nat.le_refl _) (by decide) rfl
  have hsA : SL (w.alloc (.cells #[] 5)) (some ⟨rb, n * 256, none⟩) 256 (piece zs n) := SL.below (h.sl (n * 256) 256 (by omega)) bA
  have e256 : n * 256 + 256 - n * 256 = 256 := by omega
  have hsB : SL (w.alloc (.cells #[] 5)) (some ⟨rb, n * 256, none⟩) (n * 256 + 256 - n * 256) (piece zs n) := by rw [e256]; exact hsA
  have E256 : Hid (_) := e256
  clear e256 hsA
  have i1 : (0 : Int) ≤ (n : Int) * 256 ∧ (n : Int) * 256 ≤ (n : Int) * 256 + 256 ∧ (n : Int) * 256 + 256 ≤ ((B * 256 : Nat) : Int) := by omega
  have HB : Hid (Below w.heap.size w (w.alloc (.cells #[] 5)) ∧ Bytes zs) := ⟨bA, h.bytes⟩
  clear h bA
  go_enter Try.func21, Try.ntmps21
  go_wp2_with fail
  refine C.mono ?_
  rintro e w ⟨rfl, rfl⟩
  clear C
  go_wp2_with (at_builtin; refine wpList_append_sl rfl (.tmp 10) (.tmp 20) rfl w.heap.size (.slice (some ⟨w.heap.size, 0, none⟩) 0 0) 0 [] rfl hownA _ (n * 256 + 256 - n * 256) _ (piece zs n) rfl (fun h => by cases h) hsB (by omega) (by simp) ?_; intro v1 w1 hown1 hgrow1)
  rw [List.nil_append, Nat.zero_add, E256.out] at hown1
  obtain ⟨a, c, rfl, hs2⟩ := own_sl hown1 (bytes_mid HB.out.2 _ _)
  go_ret2
  exact ⟨a, c, rfl, hs2, HB.out.1.grown hgrow1 (by simp) (by intro q h; cases h; exact Nat.le_refl _)⟩
end Go.Proofs.Ytkadpmmielegfaa
