/-
  What Store, Bytes, Put and Clear of the document's memory do: their contracts.
-/
import Derived.Test.YteghkhdpdeiocaaDoorRef1
namespace Go.Proofs.YteghkhdpdeiocaaDoor
open Go.RowKit
set_option linter.unusedVariables false

theorem eq_of_getD {xs ys : List Int} (hl : xs.length = ys.length) (h : ∀ i, i < xs.length → xs.getD i 0 = ys.getD i 0) : xs = ys := by
  apply List.ext_getElem hl
  intro i h1 h2
  have := h i h1
  simpa [List.getD, List.getElem?_eq_getElem h1, List.getElem?_eq_getElem h2] using this
theorem splice_getD (zs ys : List Int) (o i : Nat) (ho : o + ys.length ≤ zs.length) : (splice zs o ys).getD i 0 = if o ≤ i ∧ i < o + ys.length then ys.getD (i - o) 0 else zs.getD i 0 := by
  unfold splice
  simp only [List.getD, List.getElem?_append, List.length_take, List.getElem?_take, List.getElem?_drop]
  by_cases h1 : i < o
  · have e : i < min o zs.length := by omega
    have e2 : ¬ (o ≤ i ∧ i < o + ys.length) := by omega
    simp only [e, h1, if_true, e2, if_false]
  · have e1 : ¬ i < min o zs.length := by omega
    have e2 : min o zs.length = o := by omega
    rw [if_neg e1, e2]
    by_cases h2 : i - o < ys.length
    · rw [if_pos h2, if_pos (by omega)]
    · rw [if_neg h2, if_neg (by omega), show o + ys.length + (i - o - ys.length) = i by omega]

theorem set_getD (zs : List Int) (o : Nat) (z : Int) (i : Nat) (ho : o < zs.length) : (zs.set o z).getD i 0 = if i = o then z else zs.getD i 0 := by
  simp only [List.getD, List.getElem?_set]
  by_cases h : o = i
  · subst h; simp [ho]
  · rw [if_neg h, if_neg (fun e => h e.symm)]
theorem splice_snoc (zs ys : List Int) (z : Int) (o : Nat) (h : o + ys.length < zs.length) : splice zs o (ys ++ [z]) = (splice zs o ys).set (o + ys.length) z := by
  have l1 := length_splice zs o (ys ++ [z]) (by simp; omega)
  have l2 := length_splice zs o ys (by omega)
  apply eq_of_getD (by rw [l1, List.length_set, l2])
  intro i hi
  rw [set_getD _ _ _ _ (by omega), splice_getD _ _ _ _ (by simp; omega), splice_getD _ _ _ _ (by omega)]
  simp only [List.length_append, List.length_singleton]
  by_cases h1 : i = o + ys.length
  · subst h1
    rw [if_pos (by omega), if_pos rfl]
    simp [List.getD]
  · rw [if_neg h1]
    by_cases h2 : o ≤ i ∧ i < o + ys.length
    · rw [if_pos (by omega), if_pos h2]
      simp only [List.getD, List.getElem?_append]
      rw [if_pos (by omega)]
    · rw [if_neg (by omega), if_neg h2]
theorem splice_nil (zs : List Int) (o : Nat) : splice zs o [] = zs := by simp [splice]
theorem bytesOf_next (v : Int) (k : Nat) : bytesOf v (k + 1) = bytesOf v k ++ [byteAt v k] := by simp [bytesOf, List.range_succ]

/-- one byte of it written -/
theorem RM.set {w : World} {b g : Nat} {zs : List Int} (h : RM w b g zs) (i : Nat) (z : Int) (hi : i < zs.length) (h0 : 0 ≤ z) (h1 : z ≤ 255) :
    RM (w.setCell ⟨g, i, none⟩ (.int .u8 z)) b g (zs.set i z) ∧ w.grownBy (w.setCell ⟨g, i, none⟩ (.int .u8 z)) (some g) := by
  have e := setCell_eq_setRow w g i _ 5 (0, 0) (.int .u8 z) h.row
  have hk : w.grownBy (w.setCell ⟨g, i, none⟩ (.int .u8 z)) (some g) := by
    rw [e]
    exact ⟨rfl, rfl, rfl, by simp [World.setRow], fun k hk hne => setRow_other w g k _ (fun e => hne (by rw [e]))⟩
  refine ⟨h.wrote (by simp) ?_ ?_ hk, hk⟩
  · intro j
    rw [set_getD _ _ _ _ hi]
    split
    · omega
    · exact h.bytes j
  · rw [e, setRow_heap w g _ _ 5 _ h.row]
    simp [List.map_set]
theorem RM.drew {w : World} {b g : Nat} {zs : List Int} (h : RM w b g zs) : RM w.drew b g zs := ⟨h.cell, h.row, h.ne, h.bytes, h.pos, h.len⟩
theorem grown_drew {w w' : World} {r : Option Nat} (h : w.grownBy w' r) : w.grownBy w'.drew r := ⟨h.os, h.tape, h.output, h.size, h.block⟩

theorem own_cap3 {w : World} {base g cap n size : Nat} {e : TypeId} {xs : List Value} (h : w.ownsRow base e size (.slice (some ⟨g, 0, none⟩) n cap) n xs) : n ≤ cap := by
  rcases h.2 with ⟨h', _⟩ | ⟨g', cap', cur, h', _, _, hn, _⟩
  · cases h'
  · cases h'; exact hn
theorem rmstore_any (b g : Nat) (zs : List Int) (t n v : Int) (w : World) (h : RM w b g zs) (ht : 0 ≤ t) (ht' : t < 18446744073709551616) (hn' : n < 9223372036854775808) (h0 : 0 ≤ v) (h1 : v < 18446744073709551616) :
    Calls Tryd.prog 90 #[.pointer (some ⟨b, 0, none⟩), .int .u64 t, .int .i64 n, .int .u64 v] w fun e w' => e = .returned (.int .i64 (numE zs.length t n)) ∧ RM w' b g (storeV zs t n v) ∧ w.grownBy w' (some g) := by
  have W := wrong_any b g zs t n w h ht ht' hn'
  have hl := h.len
  by_cases he : numE zs.length t n = 0
  · obtain ⟨k1, k2, k3⟩ := numE_zero he
    have hn0 : 0 ≤ n := by unfold isW at k1; omega
    obtain ⟨T, rfl⟩ := Int.eq_ofNat_of_zero_le ht
    obtain ⟨N, rfl⟩ := Int.eq_ofNat_of_zero_le hn0
    rw [show storeV zs T N v = splice zs T (bytesOf v N) by rw [storeV, if_pos he, Int.toNat_natCast, Int.toNat_natCast]]
    have hN : N ≤ 8 := by unfold isW at k1; omega
    have S := rstore_yes v N w k1 h0 h1
    rw [he] at W
    rw [he]
    clear he
    go_enter Tryd.func90, Tryd.ntmps90
    go_wp2_with fail
    refine W.mono ?_
    rintro e w1 ⟨rfl, rfl⟩
    go_wp2_with fail
    refine S.mono ?_
    rintro e w2 ⟨g3, cap3, rfl, own3, hb3⟩
    have hg3 := (own3.lt g3 rfl).1
    have hcap := own_cap3 own3
    have hcell : ∀ j, j < N → w2.cell? ⟨g3, j, none⟩ = some (.int .u8 (byteAt v j)) := by
      intro j hj
      rw [own3.cellAt j (by omega)]
      simp [bytesOf, hj]
    have hne : g3 ≠ g := by have := h.glt; omega
    have HC : Hid (_) := hcell
    have hr2 := h.below hb3
    clear own3 W S hcell
    go_wp2_with fail
    go_loopw [11] (fun i wr => ∃ k : Nat, k ≤ N ∧ i = .int .i64 k ∧ RM wr b g (splice zs T (bytesOf v k)) ∧ w2.grownBy wr (some g)) (fun i _ => N - (intOf i).toNat)
    case atStart => exact ⟨0, by omega, rfl, by rw [show bytesOf v 0 = [] from rfl, splice_nil]; exact hr2, grown_refl _ _⟩
    case round =>
      obtain ⟨k, hk, rfl, hm, hgr⟩ := hrel
      have hb := byteAt_bound v k
      by_cases hlt : k < N
      · have hlen := length_splice zs T (bytesOf v k) (by rw [bytesOf_len]; omega)
        have hc := hm.cell0
        have hbl := hm.blt
        have hgl := hm.glt
        have hbk : wr.cell? ⟨g3, k, none⟩ = some (.int .u8 (byteAt v k)) := by
          rw [World.cell?_of_block (a := ⟨g3, k, none⟩) (hgr.block g3 (World.block_lt_of_cell? w2 ⟨g3, k, none⟩ (HC.out k hlt)) (by simp; exact hne))]
          exact HC.out k hlt
        have hg3l := World.block_lt_of_cell? wr ⟨g3, k, none⟩ hbk
        have htk := hm.rowAt (T + k) (by omega)
        have hfz : wr.frozen? ⟨g, T + k, none⟩ = false := by simp [World.frozen?, hm.row]
        have ST := hm.set (T + k) (byteAt v k) (by omega) hb.1 hb.2
        have e1 : (splice zs T (bytesOf v k)).set (T + k) (byteAt v k) = splice zs T (bytesOf v (k + 1)) := by
          rw [bytesOf_next, splice_snoc zs _ _ T (by rw [bytesOf_len]; omega), bytesOf_len]
        rw [e1] at ST
        have HST : Hid (_) := ST
        have HG : Hid (_) := hgr
        rw [hlen] at hc
        clear ST e1 hm hgr hlen
        generalize byteAt v k = z at *
        generalize (splice zs T (bytesOf v k)).getD (T + k) 0 = y at *
        have i1 : (0 : Int) ≤ (k : Int) ∧ (k : Int) < (N : Int) := by omega
        have i2 : (0 : Int) ≤ (T : Int) + (k : Int) ∧ (T : Int) + (k : Int) < (zs.length : Int) := by omega
        go_wp2_with fail
        go_region
        all_goals go_wp2_with fail
        exact ⟨⟨k + 1, by omega, by go_num, HST.out.1.drew, grown_drew (grown_trans HG.out HST.out.2)⟩, by simp [intOf]; omega⟩
      · obtain rfl : k = N := by omega
        go_wp2_with fail
        go_ret
        exact ⟨rfl, hm, grown_trans (grown_some hb3 _) hgr⟩
  · have he' : (numE zs.length t n != 0) = true := by rw [bne_iff_ne]; exact he
    rw [show storeV zs t n v = zs by rw [storeV, if_neg he]]
    clear he
    generalize numE zs.length t n = x at *
    go_enter Tryd.func90, Tryd.ntmps90
    go_wp2_with fail
    refine W.mono ?_
    rintro e w1 ⟨rfl, rfl⟩
    go_wp2_with fail
    go_ret
    exact ⟨rfl, h, grown_refl _ _⟩

/-- a row of the call's own, nil or not, as a slice of its numbers -/
theorem own_sl {w : World} {base n : Nat} {v : Value} {zs : List Int} (h : w.ownsRow base 5 1 v n (zs.map (Value.int .u8))) (hB : Bytes zs) : ∃ a cap, v = .slice a n cap ∧ SL w a n zs := by
  have hl : zs.length = n := by have := h.1; simpa using this
  rcases h.2 with ⟨rfl, rfl⟩ | ⟨g, cap, cur, rfl, _⟩
  · exact ⟨none, 0, rfl, hl, hB, .inl rfl⟩
  · exact ⟨_, cap, rfl, SL.own h hB⟩
def TuplesIs (x : Int) (v : Value) (e : Ending) : Prop := e = .returned (.tuple #[v, .int .i64 x])
end Go.Proofs.YteghkhdpdeiocaaDoor
