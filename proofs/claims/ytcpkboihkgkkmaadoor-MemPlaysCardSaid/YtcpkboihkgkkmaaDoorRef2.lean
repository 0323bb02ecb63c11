/-
  What Store, Bytes, Put and Clear of the document's memory do: their contracts.
-/
import Derived.Test.YtcpkboihkgkkmaaDoorRef1
import Derived.Test.YtcpkboihkgkkmaaDoorApartWalk
namespace Go.Proofs.YtcpkboihkgkkmaaDoor
open Go.RowKit
set_option linter.unusedVariables false

theorem set_getD (zs : List Int) (o : Nat) (z : Int) (i : Nat) (ho : o < zs.length) : (zs.set o z).getD i 0 = if i = o then z else zs.getD i 0 := by
  simp only [List.getD, List.getElem?_set]
  by_cases h : o = i
  · subst h; simp [ho]
  · rw [if_neg h, if_neg (fun e => h e.symm)]
theorem splice_snoc (zs ys : List Int) (z : Int) (o : Nat) (h : o + ys.length < zs.length) : splice zs o (ys ++ [z]) = (splice zs o ys).set (o + ys.length) z := by
  have l1 := length_splice zs o (ys ++ [z]) (by simp; omega)
  have l2 := length_splice zs o ys (by omega)
  apply eq_of_getD (by rw [l1, List.length_set, l2])
  intro i hi
  rw [set_getD _ _ _ _ (by omega), splice_getD _ _ _ _ (by simp; omega), splice_getD _ _ _ _ (by omega)]
  simp only [List.length_append, List.length_singleton]
  by_cases h1 : i = o + ys.length
  · subst h1
    rw [if_pos (by omega), if_pos rfl]
    simp [List.getD]
  · rw [if_neg h1]
    by_cases h2 : o ≤ i ∧ i < o + ys.length
    · rw [if_pos (by omega), if_pos h2]
      simp only [List.getD, List.getElem?_append]
      rw [if_pos (by omega)]
    · rw [if_neg (by omega), if_neg h2]
theorem splice_nil (zs : List Int) (o : Nat) : splice zs o [] = zs := by simp [splice]
theorem bytesOf_next (v : Int) (k : Nat) : bytesOf v (k + 1) = bytesOf v k ++ [byteAt v k] := by simp [bytesOf, List.range_succ]

/-- one byte of it written -/
theorem RM.set {w : World} {b g : Nat} {zs : List Int} (h : RM w b g zs) (i : Nat) (z : Int) (hi : i < zs.length) (h0 : 0 ≤ z) (h1 : z ≤ 255) :
    RM (w.setCell ⟨g, i, none⟩ (.int .u8 z)) b g (zs.set i z) ∧ w.grownBy (w.setCell ⟨g, i, none⟩ (.int .u8 z)) (some g) := by
  have e := setCell_eq_setRow w g i _ 5 (0, 0) (.int .u8 z) h.row
  have hk : w.grownBy (w.setCell ⟨g, i, none⟩ (.int .u8 z)) (some g) := by
    rw [e]
    exact ⟨rfl, rfl, rfl, by simp [World.setRow], fun k hk hne => setRow_other w g k _ (fun e => hne (by rw [e]))⟩
  refine ⟨h.wrote (by simp) ?_ ?_ hk, hk⟩
  · intro j
    rw [set_getD _ _ _ _ hi]
    split
    · omega
    · exact h.bytes j
  · rw [e, setRow_heap w g _ _ 5 _ h.row]
    simp [List.map_set]
theorem RM.drew {w : World} {b g : Nat} {zs : List Int} (h : RM w b g zs) : RM w.drew b g zs := ⟨h.cell, h.row, h.ne, h.bytes, h.pos, h.len⟩
theorem grown_drew {w w' : World} {r : Option Nat} (h : w.grownBy w' r) : w.grownBy w'.drew r := ⟨h.os, h.tape, h.output, h.size, h.block⟩

theorem own_cap3 {w : World} {base g cap n size : Nat} {e : TypeId} {xs : List Value} (h : w.ownsRow base e size (.slice (some ⟨g, 0, none⟩) n cap) n xs) : n ≤ cap := by
  rcases h.2 with ⟨h', _⟩ | ⟨g', cap', cur, h', _, _, hn, _⟩
  · cases h'
  · cases h'; exact hn
theorem rmstore_any (b g : Nat) (zs : List Int) (t n v : Int) (w : World) (h : RM w b g zs) (ht : 0 ≤ t) (ht' : t < 18446744073709551616) (hn' : n < 9223372036854775808) (h0 : 0 ≤ v) (h1 : v < 18446744073709551616) :
    Calls Tryd.prog 25 #[.pointer (some ⟨b, 0, none⟩), .int .u64 t, .int .i64 n, .int .u64 v] w fun e w' => e = .returned (.int .i64 (numE zs.length t n)) ∧ RM w' b g (storeV zs t n v) ∧ w.grownBy w' (some g) := by
  have W := wrong_any b g zs t n w h ht ht' hn'
  have hl := h.len
  by_cases he : numE zs.length t n = 0
  · obtain ⟨k1, k2, k3⟩ := numE_zero he
    have hn0 : 0 ≤ n := by unfold isW at k1; omega
    obtain ⟨T, rfl⟩ := Int.eq_ofNat_of_zero_le ht
    obtain ⟨N, rfl⟩ := Int.eq_ofNat_of_zero_le hn0
    rw [show storeV zs T N v = splice zs T (bytesOf v N) by rw [storeV, if_pos he, Int.toNat_natCast, Int.toNat_natCast]]
    have hN : N ≤ 8 := by unfold isW at k1; omega
    have S := rstore_yes v N w k1 h0 h1
    rw [he] at W
    rw [he]
    clear he
    go_enter Tryd.func25, Tryd.ntmps25
    go_wp2_with fail
    refine W.mono ?_
    rintro e w1 ⟨rfl, rfl⟩
    go_wp2_with fail
    refine S.mono ?_
    rintro e w2 ⟨g3, cap3, rfl, own3, hb3⟩
    have hg3 := (own3.lt g3 rfl).1
    have hcap := own_cap3 own3
    have hcell : ∀ j, j < N → w2.cell? ⟨g3, j, none⟩ = some (.int .u8 (byteAt v j)) := by
      intro j hj
      rw [own3.cellAt j (by omega)]
      simp [bytesOf, hj]
    have hne : g3 ≠ g := by have := h.glt; omega
    have HC : Hid (_) := hcell
    have hr2 := h.below hb3
    clear own3 W S hcell
    go_wp2_with fail
    go_loopw [11] (fun i wr => ∃ k : Nat, k ≤ N ∧ i = .int .i64 k ∧ RM wr b g (splice zs T (bytesOf v k)) ∧ w2.grownBy wr (some g)) (fun i _ => N - (intOf i).toNat)
    case atStart => exact ⟨0, by omega, rfl, by rw [show bytesOf v 0 = [] from rfl, splice_nil]; exact hr2, grown_refl _ _⟩
    case round =>
      obtain ⟨k, hk, rfl, hm, hgr⟩ := hrel
      have hb := byteAt_bound v k
      by_cases hlt : k < N
      · have hlen := length_splice zs T (bytesOf v k) (by rw [bytesOf_len]; omega)
        have hc := hm.cell0
        have hbl := hm.blt
        have hgl := hm.glt
        have hbk : wr.cell? ⟨g3, k, none⟩ = some (.int .u8 (byteAt v k)) := by
          rw [World.cell?_of_block (a := ⟨g3, k, none⟩) (hgr.block g3 (World.block_lt_of_cell? w2 ⟨g3, k, none⟩ (HC.out k hlt)) (by simp; exact hne))]
          exact HC.out k hlt
        have hg3l := World.block_lt_of_cell? wr ⟨g3, k, none⟩ hbk
        have htk := hm.rowAt (T + k) (by omega)
        have hfz : wr.frozen? ⟨g, T + k, none⟩ = false := by simp [World.frozen?, hm.row]
        have ST := hm.set (T + k) (byteAt v k) (by omega) hb.1 hb.2
        have e1 : (splice zs T (bytesOf v k)).set (T + k) (byteAt v k) = splice zs T (bytesOf v (k + 1)) := by
          rw [bytesOf_next, splice_snoc zs _ _ T (by rw [bytesOf_len]; omega), bytesOf_len]
        rw [e1] at ST
        have HST : Hid (_) := ST
        have HG : Hid (_) := hgr
        rw [hlen] at hc
        clear ST e1 hm hgr hlen
        generalize byteAt v k = z at *
        generalize (splice zs T (bytesOf v k)).getD (T + k) 0 = y at *
        have i1 : (0 : Int) ≤ (k : Int) ∧ (k : Int) < (N : Int) := by omega
        have i2 : (0 : Int) ≤ (T : Int) + (k : Int) ∧ (T : Int) + (k : Int) < (zs.length : Int) := by omega
        go_wp2_with fail
        go_region
        all_goals go_wp2_with fail
        exact ⟨⟨k + 1, by omega, by go_num, HST.out.1.drew, grown_drew (grown_trans HG.out HST.out.2)⟩, by simp [intOf]; omega⟩
      · obtain rfl : k = N := by omega
        go_wp2_with fail
        go_ret
        exact ⟨rfl, hm, grown_trans (grown_some hb3 _) hgr⟩
  · have he' : (numE zs.length t n != 0) = true := by rw [bne_iff_ne]; exact he
    rw [show storeV zs t n v = zs by rw [storeV, if_neg he]]
    clear he
    generalize numE zs.length t n = x at *
    go_enter Tryd.func25, Tryd.ntmps25
    go_wp2_with fail
    refine W.mono ?_
    rintro e w1 ⟨rfl, rfl⟩
    go_wp2_with fail
    go_ret
    exact ⟨rfl, h, grown_refl _ _⟩

theorem rmput_any (b g : Nat) (zs ys : List Int) (t : Int) (a : Option Addr) (n c : Nat) (w : World) (h : RM w b g zs) (hs : SL w a n ys) (hne : 0 < n → ∀ b0 off, a = some ⟨b0, off, none⟩ → b0 ≠ g) (hnc : n ≤ c) (hn : n < 9223372036854775808) (ht : 0 ≤ t) (ht' : t < 18446744073709551616) :
    Calls Tryd.prog 27 #[.pointer (some ⟨b, 0, none⟩), .int .u64 t, .slice a n c] w fun e w' => e = .returned (.int .i64 (plcE zs.length t ys.length)) ∧ RM w' b g (putV zs t ys) ∧ w.grownBy w' (some g) := by
  have hyl := hs.1
  have hl := h.len
  have L := lies_any b g zs t n w h ht (by omega) (by omega)
  by_cases he : plcE zs.length t ys.length = 0
  · obtain ⟨_, h3⟩ := plcE_zero he
    obtain ⟨T, rfl⟩ := Int.eq_ofNat_of_zero_le ht
    rw [he, show putV zs T ys = splice zs T ys by rw [putV, if_pos he, Int.toNat_natCast]]
    have hd : decide ((T : Int) + n ≤ zs.length) = true := decide_eq_true (by omega)
    rw [hd] at L
    clear he hd
    have hle : T + n ≤ zs.length := by omega
    go_enter Tryd.func27, Tryd.ntmps27
    go_wp2_with fail
    refine L.mono ?_
    rintro e w1 ⟨rfl, rfl⟩
    clear L
    go_wp2_with fail
    go_loopw [7] (fun i wr => ∃ k : Nat, k ≤ n ∧ i = .int .i64 k ∧ RM wr b g (splice zs T (ys.take k)) ∧ w1.grownBy wr (some g)) (fun i _ => n - (intOf i).toNat)
    case atStart => exact ⟨0, by omega, rfl, by rw [List.take_zero, splice_nil]; exact h, grown_refl _ _⟩
    case round =>
      obtain ⟨k, hk, rfl, hm, hgr⟩ := hrel
      by_cases hlt : k < n
      · rcases hs.2.2 with h00 | ⟨b0, off, rfl, hb0, hcells⟩
        · omega
        have hb := hs.2.1 k
        have htl : (ys.take k).length = k := by simp; omega
        have hlen := length_splice zs T (ys.take k) (by omega)
        have hc := hm.cell0
        have hbl := hm.blt
        have hgl := hm.glt
        have hne0 := hne (by omega) b0 off rfl
        have hbk : wr.cell? ⟨b0, off + k, none⟩ = some (.int .u8 (ys.getD k 0)) := by
          rw [World.cell?_of_block (a := ⟨b0, off + k, none⟩) (hgr.block b0 hb0 (by simp; exact hne0))]
          exact hcells k hlt
        have hg3l := World.block_lt_of_cell? wr ⟨b0, off + k, none⟩ hbk
        have htk := hm.rowAt (T + k) (by omega)
        have hfz : wr.frozen? ⟨g, T + k, none⟩ = false := by simp [World.frozen?, hm.row]
        have ST := hm.set (T + k) (ys.getD k 0) (by omega) hb.1 hb.2
        have e0 : ys.take (k + 1) = ys.take k ++ [ys.getD k 0] := by
          rw [List.take_add_one, List.getElem?_eq_getElem (show k < ys.length by omega)]
          simp [List.getD, List.getElem?_eq_getElem (show k < ys.length by omega)]
        have e1 : (splice zs T (ys.take k)).set (T + k) (ys.getD k 0) = splice zs T (ys.take (k + 1)) := by
          rw [e0, splice_snoc zs _ _ T (by omega), htl]
        rw [e1] at ST
        have HST : Hid (_) := ST
        have HG : Hid (_) := hgr
        rw [hlen] at hc
        clear ST e1 hm hgr hlen e0 htl hcells hs hne
        generalize ys.getD k 0 = z at *
        generalize (splice zs T (ys.take k)).getD (T + k) 0 = y at *
        have i1 : (0 : Int) ≤ (k : Int) ∧ (k : Int) < (n : Int) := by omega
        have i2 : (0 : Int) ≤ (T : Int) + (k : Int) ∧ (T : Int) + (k : Int) < (zs.length : Int) := by omega
        go_wp2_with fail
        go_region
        all_goals go_wp2_with fail
        exact ⟨⟨k + 1, by omega, by go_num, HST.out.1.drew, grown_drew (grown_trans HG.out HST.out.2)⟩, by simp [intOf]; omega⟩
      · obtain rfl : k = n := by omega
        rw [List.take_of_length_le (by omega)] at hm
        go_wp2_with fail
        go_ret
        exact ⟨rfl, hm, hgr⟩
  · rw [show putV zs t ys = zs by rw [putV, if_neg he]]
    have h3 : ¬ t + (n : Int) ≤ zs.length := fun h3 => he (by rw [plcE, if_neg (by omega), if_neg (by omega)])
    rw [show plcE zs.length t ys.length = 12 by rw [plcE, if_neg (by omega), if_pos (by omega)]]
    have hd : decide (t + (n : Int) ≤ zs.length) = false := decide_eq_false h3
    rw [hd] at L
    clear he hd h3
    go_enter Tryd.func27, Tryd.ntmps27
    go_wp2_with fail
    refine L.mono ?_
    rintro e w1 ⟨rfl, rfl⟩
    go_wp2_with fail
    go_ret
    exact ⟨rfl, h, grown_refl _ _⟩

set_option maxRecDepth 100000 in
theorem rmclear_any (b g : Nat) (zs : List Int) (f : Int) (w : World) (h : RM w b g zs) :
    Calls Tryd.prog 28 #[.pointer (some ⟨b, 0, none⟩), .int .i64 f] w fun e w' => e = .returned (.int .i64 (clrE zs.length f)) ∧ RM w' b g (clearV zs f) ∧ w.grownBy w' (some g) := by
  have hl := h.len
  have hc := h.cell0
  have hlt := h.blt
  by_cases h0 : f < 0
  · rw [show clrE zs.length f = 12 by rw [clrE, if_neg (by omega)], show clearV zs f = zs by rw [clearV, if_neg (by omega)]]
    go_enter Tryd.func28, Tryd.ntmps28
    go_wp2_with fail
    go_ret
    exact ⟨rfl, h, grown_refl _ _⟩
  · by_cases h1 : f < (zs.length : Int) / 256
    · rw [show clrE zs.length f = 0 by rw [clrE, if_pos (by omega)], show clearV zs f = splice zs (f.toNat * 256) (List.replicate 256 0) by rw [clearV, if_pos (by omega)]]
      obtain ⟨F, rfl⟩ := Int.eq_ofNat_of_zero_le (show 0 ≤ f by omega)
      rw [Int.toNat_natCast]
      have hle : F * 256 + 256 ≤ zs.length := by omega
      go_enter Tryd.func28, Tryd.ntmps28
      go_wp2_with fail
      clear hc hlt
      go_loopw [5] (fun i wr => ∃ k : Nat, k ≤ 256 ∧ i = .int .i64 k ∧ RM wr b g (splice zs (F * 256) (List.replicate k 0)) ∧ w.grownBy wr (some g)) (fun i _ => 256 - (intOf i).toNat)
      case atStart => exact ⟨0, by omega, rfl, by rw [List.replicate_zero, splice_nil]; exact h, grown_refl _ _⟩
      case round =>
        obtain ⟨k, hk, rfl, hm, hgr⟩ := hrel
        by_cases hlt : k < 256
        · have htl : (List.replicate k (0 : Int)).length = k := List.length_replicate
          have hlen := length_splice zs (F * 256) (List.replicate k 0) (by omega)
          have hc := hm.cell0
          have hbl := hm.blt
          have hgl := hm.glt
          have htk := hm.rowAt (F * 256 + k) (by omega)
          have hfz : wr.frozen? ⟨g, F * 256 + k, none⟩ = false := by simp [World.frozen?, hm.row]
          have ST := hm.set (F * 256 + k) 0 (by omega) (by omega) (by omega)
          have e1 : (splice zs (F * 256) (List.replicate k 0)).set (F * 256 + k) 0 = splice zs (F * 256) (List.replicate (k + 1) 0) := by
            rw [List.replicate_succ', splice_snoc zs _ _ (F * 256) (by omega), htl]
          rw [e1] at ST
          have HST : Hid (_) := ST
          have HG : Hid (_) := hgr
          rw [hlen] at hc
          clear ST e1 hm hgr hlen htl h
          generalize (splice zs (F * 256) (List.replicate k 0)).getD (F * 256 + k) 0 = y at *
          go_wp2_with fail
          exact ⟨⟨k + 1, by omega, by go_num, HST.out.1, grown_trans HG.out HST.out.2⟩, by simp [intOf]; omega⟩
        · obtain rfl : k = 256 := by omega
          go_wp2_with fail
          go_ret
          exact ⟨rfl, hm, hgr⟩
    · rw [show clrE zs.length f = 12 by rw [clrE, if_neg (by omega)], show clearV zs f = zs by rw [clearV, if_neg (by omega)]]
      go_enter Tryd.func28, Tryd.ntmps28
      go_wp2_with fail
      go_ret
      exact ⟨rfl, h, grown_refl _ _⟩

/-- a row of the call's own, nil or not, as a slice of its numbers -/
theorem own_sl {w : World} {base n : Nat} {v : Value} {zs : List Int} (h : w.ownsRow base 5 1 v n (zs.map (Value.int .u8))) (hB : Bytes zs) : ∃ a cap, v = .slice a n cap ∧ SL w a n zs := by
  have hl : zs.length = n := by have := h.1; simpa using this
  rcases h.2 with ⟨rfl, rfl⟩ | ⟨g, cap, cur, rfl, _⟩
  · exact ⟨none, 0, rfl, hl, hB, .inl rfl⟩
  · exact ⟨_, cap, rfl, SL.own h hB⟩
theorem rmbytes_no (b g : Nat) (zs : List Int) (t n : Int) (w : World) (h : RM w b g zs) (ht : 0 ≤ t) (hn' : n < 9223372036854775808) (he : plcE zs.length t n ≠ 0) :
    Calls Tryd.prog 26 #[.pointer (some ⟨b, 0, none⟩), .int .u64 t, .int .i64 n] w fun e w' => NoPlace (plcE zs.length t n) e ∧ w' = w := by
  by_cases h1 : n < 0
  · rw [show plcE zs.length t n = 2 by simp [plcE, h1]]
    go_enter Tryd.func26, Tryd.ntmps26
    go_wp2_with fail
    go_ret2
    exact ⟨rfl, rfl⟩
  · have h3 : ¬ t + n ≤ zs.length := fun h3 => he (by simp [plcE, h1, h3])
    have L := lies_any b g zs t n w h ht (by omega) hn'
    have hd : decide (t + n ≤ (zs.length : Int)) = false := decide_eq_false h3
    rw [hd] at L
    rw [show plcE zs.length t n = 12 by simp [plcE, h1, h3]]
    clear hd h3 he
    go_enter Tryd.func26, Tryd.ntmps26
    go_wp2_with fail
    refine L.mono ?_
    rintro e w1 ⟨rfl, rfl⟩
    go_wp2_with fail
    go_ret2
    exact ⟨rfl, rfl⟩
def TuplesIs (x : Int) (v : Value) (e : Ending) : Prop := e = .returned (.tuple #[v, .int .i64 x])
theorem rmbytes_yes (b g : Nat) (zs : List Int) (T N : Nat) (w : World) (h : RM w b g zs) (ho : T + N ≤ zs.length) :
    Calls Tryd.prog 26 #[.pointer (some ⟨b, 0, none⟩), .int .u64 T, .int .i64 N] w fun e w' => ∃ v, TuplesIs 0 v e ∧ w'.ownsRow w.heap.size 5 1 v N (((zs.drop T).take N).map (Value.int .u8)) ∧ Below w.heap.size w w' := by
  have hl := h.len
  have hc := h.cell0
  have hlt := h.blt
  have L := lies_any b g zs T N w h (by omega) (by omega) (by omega)
  have hd : decide ((T : Int) + N ≤ (zs.length : Int)) = true := decide_eq_true (by omega)
  rw [hd] at L
  clear hd
  have hbw : Below w.heap.size w (w.alloc (.cells #[] 5)) := (Below.refl _ _).alloc (Nat.le_refl _) _
  have hr := h.below hbw
  have hownA : (w.alloc (.cells #[] 5)).ownsRow w.heap.size 5 1 (.slice (some ⟨w.heap.size, 0, none⟩) 0 0) 0 (([] : List Int).map (Value.int .u8)) := World.ownsRow_lit w #[] 0 (Nat.le_refl _) (by decide) rfl
  have HR : Hid (RM w b g zs) := h
  clear h
  by_cases e : zs.length = T
  · obtain rfl : N = 0 := by omega
    have hsl : SL (w.alloc (.cells #[] 5)) (some ⟨g, 0, none⟩) 0 ((zs.drop T).take 0) := by
      simp only [List.take_zero]; exact SL.nil _ _
    rw [show ((0 : Nat) : Int) = 0 from rfl] at L ⊢
    go_enter Tryd.func26, Tryd.ntmps26
    go_wp2_with fail
    refine L.mono ?_
    rintro e w1 ⟨rfl, rfl⟩
    clear L
    go_wp2_with (at_builtin; refine wpList_append_sl rfl (.tmp 15) (.tmp 25) rfl w1.heap.size (.slice (some ⟨w1.heap.size, 0, none⟩) 0 0) 0 [] rfl hownA _ 0 _ ((zs.drop T).take 0) rfl (fun h => by cases h) hsl (by omega) (by simp) ?_; intro v1 w2 hown2 hgrow2)
    rw [Nat.zero_add, List.nil_append] at hown2
    go_ret2
    exact ⟨v1, rfl, hown2, hbw.grown hgrow2 (by simp) (fun k h => (hownA.lt k h).1)⟩
  · have hsl : SL (w.alloc (.cells #[] 5)) (some ⟨g, T, none⟩) (T + N - T) ((zs.drop T).take N) := by rw [Nat.add_sub_cancel_left]; exact hr.sl T N ho
    go_enter Tryd.func26, Tryd.ntmps26
    go_wp2_with fail
    refine L.mono ?_
    rintro e w1 ⟨rfl, rfl⟩
    clear L
    go_wp2_with (at_builtin; refine wpList_append_sl rfl (.tmp 15) (.tmp 25) rfl w1.heap.size (.slice (some ⟨w1.heap.size, 0, none⟩) 0 0) 0 [] rfl hownA _ (T + N - T) _ ((zs.drop T).take N) rfl (fun h => by cases h) hsl (by omega) (by simp) ?_; intro v1 w2 hown2 hgrow2)
    rw [Nat.zero_add, List.nil_append, Nat.add_sub_cancel_left] at hown2
    go_ret2
    exact ⟨v1, rfl, hown2, hbw.grown hgrow2 (by simp) (fun k h => (hownA.lt k h).1)⟩
end Go.Proofs.YtcpkboihkgkkmaaDoor
