/-
  What the document's memory is in the heap, and what its New, lies, wrong and Load do: their contracts.
-/
import Derived.Test.YteghkhdpdeiocaaDoorMem4
namespace Go.Proofs.YteghkhdpdeiocaaDoor
open Go.RowKit
set_option linter.unusedVariables false
set_option maxRecDepth 4000

/-- the document's memory: its block b, the row g of its bytes -/
structure RM (w : World) (b g : Nat) (zs : List Int) : Prop where
  cell : w.heap[b]? = some (.cells #[.slice (some ⟨g, 0, none⟩) zs.length zs.length] 133 (0, 0))
  row : w.heap[g]? = some (.cells (zs.map (Value.int .u8)).toArray 5 (0, 0))
  ne : b ≠ g
  bytes : Bytes zs
  pos : 0 < zs.length
  len : zs.length ≤ 16777216
theorem RM.blt {w : World} {b g : Nat} {zs : List Int} (h : RM w b g zs) : b < w.heap.size := lt_of_heap h.cell
theorem RM.glt {w : World} {b g : Nat} {zs : List Int} (h : RM w b g zs) : g < w.heap.size := lt_of_heap h.row
theorem RM.cell0 {w : World} {b g : Nat} {zs : List Int} (h : RM w b g zs) : w.cell? ⟨b, 0, none⟩ = some (.slice (some ⟨g, 0, none⟩) zs.length zs.length) := by
  simp [World.cell?, h.cell]
theorem RM.rowAt {w : World} {b g : Nat} {zs : List Int} (h : RM w b g zs) (i : Nat) (hi : i < zs.length) : w.cell? ⟨g, i, none⟩ = some (.int .u8 (zs.getD i 0)) := by
  simp [World.cell?, h.row, List.getElem?_eq_getElem hi]
theorem RM.kept {w w' : World} {b g : Nat} {zs : List Int} (h : RM w b g zs) {r : Option Nat} (hk : w.grownBy w' r) (hb : some b ≠ r) (hg : some g ≠ r) : RM w' b g zs :=
  ⟨(hk.block b h.blt hb).trans h.cell, (hk.block g h.glt hg).trans h.row, h.ne, h.bytes, h.pos, h.len⟩
theorem RM.below {w w' : World} {b g : Nat} {zs : List Int} (h : RM w b g zs) (hk : Below w.heap.size w w') : RM w' b g zs :=
  ⟨(hk.block b h.blt).trans h.cell, (hk.block g h.glt).trans h.row, h.ne, h.bytes, h.pos, h.len⟩
theorem RM.sl {w : World} {b g : Nat} {zs : List Int} (h : RM w b g zs) (o n : Nat) (hn : o + n ≤ zs.length) : SL w (some ⟨g, o, none⟩) n ((zs.drop o).take n) := by
  refine ⟨by simp; omega, bytes_mid h.bytes o n, .inr ⟨g, o, rfl, h.glt, fun i hi => ?_⟩⟩
  rw [h.rowAt (o + i) (by omega)]
  simp [List.getD, hi, List.getElem?_drop]
theorem RM.slAll {w : World} {b g : Nat} {zs : List Int} (h : RM w b g zs) : SL w (some ⟨g, 0, none⟩) zs.length zs := by
  have := h.sl 0 zs.length (by omega)
  simpa using this
theorem RM.box {w : World} {base g n : Nat} {zs : List Int} (h : w.ownsRow base 5 1 (.slice (some ⟨g, 0, none⟩) n n) n (zs.map (Value.int .u8))) (hB : Bytes zs) (h1 : 0 < n) (h2 : n ≤ 16777216) :
    RM (w.alloc (.cells #[.slice (some ⟨g, 0, none⟩) n n] 133)) w.heap.size g zs := by
  obtain ⟨hh, rfl, hb⟩ := own_heap h
  have hlt := lt_of_heap hh
  exact ⟨heap_alloc_at _ _, (heap_alloc_past _ _ hlt).trans hh, by omega, hB, h1, h2⟩
theorem RM.wrote {w w' : World} {b g : Nat} {zs ys : List Int} (h : RM w b g zs) (hl : ys.length = zs.length) (hB : Bytes ys) (hr : w'.heap[g]? = some (.cells (ys.map (Value.int .u8)).toArray 5 (0, 0))) (hk : w.grownBy w' (some g)) : RM w' b g ys := by
  refine ⟨?_, hr, h.ne, hB, by have := h.pos; omega, by have := h.len; omega⟩
  rw [hk.block b h.blt (by have := h.ne; simp; omega), hl]
  exact h.cell

theorem rnew_no (f : Int) (w : World) (h : ¬ (1 ≤ f ∧ f ≤ 65536)) :
    Calls Tryd.prog 40 #[.int .i64 f] w fun e w' => e = .returned (.tuple #[.pointer none, .int .i64 2]) ∧ w' = w := by
  by_cases h1 : f < 1
  · go_enter Tryd.func40, Tryd.ntmps40
    go_wp2
    go_ret2
    exact ⟨rfl, rfl⟩
  · have h2 : 65536 < f := by omega
    go_enter Tryd.func40, Tryd.ntmps40
    go_wp2
    go_ret2
    exact ⟨rfl, rfl⟩
theorem rnew_yes (f : Nat) (w : World) (h1 : 1 ≤ f) (h2 : f ≤ 65536) :
    Calls Tryd.prog 40 #[.int .i64 f] w fun e w' => ∃ b g, e = .returned (.tuple #[.pointer (some ⟨b, 0, none⟩), .int .i64 0]) ∧ RM w' b g (List.replicate (f * 256) 0) ∧ w.heap.size ≤ b ∧ w.heap.size ≤ g ∧ Below w.heap.size w w' := by
  obtain ⟨i0, hi, hz0, hz1, hz2⟩ := info_parts Tryd.info5
  go_enter Tryd.func40, Tryd.ntmps40
  go_wp2_with (at_make; refine wpList_make_full _ rfl _ _ 94 rfl w.heap.size 5 i0 (.int .u8 0) 1 Tryd.underlying94 hi hz0 hz1 _ _ _ _ (f * 256) rfl rfl (by omega) (by omega) (by rw [hz2]; omega) (by unfold maxLen; omega) (by simp) ?_; intro w2 hown2 hgrow2)
  rw [made_zeros] at hown2
  have hs2 := hgrow2.size
  go_ret2
  exact ⟨w2.heap.size, w.heap.size, rfl, RM.box hown2 (bytes_zeros _) (by omega) (by omega), hs2, Nat.le_refl _, ((Below.refl _ _).grown hgrow2 (by simp) (by intro k h; cases h)).alloc (by omega) _⟩
theorem lies_any (b g : Nat) (zs : List Int) (t n : Int) (w : World) (h : RM w b g zs) (ht : 0 ≤ t) (hn : 0 ≤ n) (hn' : n < 9223372036854775808) :
    Calls Tryd.prog 111 #[.pointer (some ⟨b, 0, none⟩), .int .u64 t, .int .i64 n] w fun e w' => e = .returned (.bool (decide (t + n ≤ zs.length))) ∧ w' = w := by
  have hc := h.cell0
  have hlt := h.blt
  have hl := h.len
  by_cases h1 : n ≤ zs.length
  · go_enter Tryd.func111, Tryd.ntmps111
    go_wp2
    go_ret
    exact ⟨ret_bool (by simp; omega), rfl⟩
  · have h1' : (zs.length : Int) < n := by omega
    go_enter Tryd.func111, Tryd.ntmps111
    go_wp2
    go_ret
    exact ⟨ret_bool (by simp; omega), rfl⟩
theorem wrong_any (b g : Nat) (zs : List Int) (t n : Int) (w : World) (h : RM w b g zs) (ht : 0 ≤ t) (ht' : t < 18446744073709551616) (hn' : n < 9223372036854775808) :
    Calls Tryd.prog 104 #[.pointer (some ⟨b, 0, none⟩), .int .u64 t, .int .i64 n] w fun e w' => e = .returned (.int .i64 (numE zs.length t n)) ∧ w' = w := by
  by_cases h1 : isW n
  · have h1' : n = 1 ∨ n = 4 ∨ n = 8 := h1
    by_cases h2 : t % n = 0
    · by_cases h3 : t + n ≤ zs.length
      · have hd : decide (t + n ≤ zs.length) = true := decide_eq_true h3
        rw [show numE zs.length t n = 0 by simp [numE, h1, h2, h3]]
        have L := lies_any b g zs t n w h ht (by omega) hn'
        rw [hd] at L
        clear hd h3
        rcases h1' with rfl | rfl | rfl
        all_goals
          go_enter Tryd.func104, Tryd.ntmps104
          go_wp2_with fail
          refine L.mono ?_
          rintro e w2 ⟨rfl, rfl⟩
          go_wp2_with fail
          go_ret
          exact ⟨rfl, rfl⟩
      · have hd : decide (t + n ≤ zs.length) = false := decide_eq_false h3
        rw [show numE zs.length t n = 12 by simp [numE, h1, h2, h3]]
        have L := lies_any b g zs t n w h ht (by omega) hn'
        rw [hd] at L
        clear hd h3
        rcases h1' with rfl | rfl | rfl
        all_goals
          go_enter Tryd.func104, Tryd.ntmps104
          go_wp2_with fail
          refine L.mono ?_
          rintro e w2 ⟨rfl, rfl⟩
          go_wp2_with fail
          go_ret
          exact ⟨rfl, rfl⟩
    · rw [show numE zs.length t n = 11 by simp [numE, h1, h2]]
      have h1'' : n = 4 ∨ n = 8 := by
        rcases h1' with rfl | h | h
        · omega
        · exact .inl h
        · exact .inr h
      rcases h1'' with rfl | rfl
      all_goals
        go_enter Tryd.func104, Tryd.ntmps104
        go_wp2_with fail
        go_ret
        exact ⟨rfl, rfl⟩
  · rw [show numE zs.length t n = 2 by simp [numE, h1]]
    have e1 : (n != 1) = true := by rw [bne_iff_ne]; exact fun e => h1 (.inl e)
    have e4 : (n != 4) = true := by rw [bne_iff_ne]; exact fun e => h1 (.inr (.inl e))
    have e8 : (n != 8) = true := by rw [bne_iff_ne]; exact fun e => h1 (.inr (.inr e))
    go_enter Tryd.func104, Tryd.ntmps104
    go_wp2_with fail
    go_ret
    exact ⟨rfl, rfl⟩
theorem rmload_any (b g : Nat) (zs : List Int) (t n : Int) (w : World) (h : RM w b g zs) (ht : 0 ≤ t) (ht' : t < 18446744073709551616) (hn' : n < 9223372036854775808) :
    Calls Tryd.prog 130 #[.pointer (some ⟨b, 0, none⟩), .int .u64 t, .int .i64 n] w fun e w' => e = .returned (.tuple #[.int .u64 (loadV zs t n), .int .i64 (numE zs.length t n)]) ∧ w' = w := by
  have hc := h.cell0
  have hlt := h.blt
  have hl := h.len
  by_cases he : numE zs.length t n = 0
  · obtain ⟨h1, h2, h3⟩ := numE_zero he
    have hn0 : 0 ≤ n := by unfold isW at h1; omega
    have W := wrong_any b g zs t n w h ht ht' hn'
    have L := rload_any (some ⟨g, 0, none⟩) zs.length zs.length zs t n w h.slAll (by unfold maxLen; omega)
    have hok : okW zs.length t n = true := decide_eq_true ⟨h1, ht, by omega⟩
    rw [show valW zs zs.length t n = loadV zs t n by rw [valW, hok, if_pos rfl, loadV, if_pos he], hok] at L
    rw [he] at W
    rw [he]
    clear he hok h1 h2
    generalize loadV zs t n = x at *
    go_enter Tryd.func130, Tryd.ntmps130
    go_wp2_with fail
    refine W.mono ?_
    rintro e w1 ⟨rfl, rfl⟩
    go_wp2_with fail
    refine L.mono ?_
    rintro e w2 ⟨rfl, rfl⟩
    go_wp2_with fail
    go_ret2
    exact ⟨rfl, rfl⟩
  · have W := wrong_any b g zs t n w h ht ht' hn'
    have he' : (numE zs.length t n != 0) = true := by rw [bne_iff_ne]; exact he
    rw [show loadV zs t n = 0 by rw [loadV, if_neg he]]
    clear he
    generalize numE zs.length t n = x at *
    go_enter Tryd.func130, Tryd.ntmps130
    go_wp2_with fail
    refine W.mono ?_
    rintro e w1 ⟨rfl, rfl⟩
    go_wp2_with fail
    go_ret2
    exact ⟨rfl, rfl⟩
end Go.Proofs.YteghkhdpdeiocaaDoor
