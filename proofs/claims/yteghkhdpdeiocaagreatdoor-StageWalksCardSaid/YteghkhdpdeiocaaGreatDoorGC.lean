/-
  What Clear of a memory does: its contract.
  What the document's memory is in the heap, and what its New, lies, wrong and Load do: their contracts.
  What Store, Bytes, Put and Clear of the document's memory do: their contracts.
  What the document's Clear does: its contract.
-/
import Derived.Test.YteghkhdpdeiocaaGreatDoorGB
namespace Go.Proofs.YteghkhdpdeiocaaGreatDoor
open Go.RowKit
set_option linter.unusedVariables false
set_option maxRecDepth 100000

theorem frames_any (p : Value) (a : Option Addr) (n c : Nat) (w : World) (hn : n ≤ 16777216) (h : HV w p (.slice a n c)) : Calls Tryz.prog 52 #[p] w fun e w' => e = .returned (.int .i64 (n / 256 : Int)) ∧ w' = w := by
  go_enter Tryz.func52, Tryz.ntmps52
  go_wp2_with fail
  refine (held_any _ _ _ h).mono ?_
  rintro e w1 ⟨rfl, rfl⟩
  go_wp2_with fail
  go_ret
  exact ⟨ret_int (by simp), rfl⟩
theorem zero_cells (n : Nat) : (Builtin.zeroCells (Value.int .u8 0).cells n).toList = (List.replicate n (0 : Int)).map (Value.int .u8) := by
  apply List.ext_getElem (by simp [Builtin.zeroCells, Value.cells])
  intro i h1 h2
  simp [Builtin.zeroCells, Value.cells, Nat.mod_one]
/-- clear of a slice of bytes -/
theorem run_clear_sl {w : World} (ty : TypeId) (g off n c : Nat) (xs : List Int) (hg : w.heap[g]? = some (.cells (xs.map (Value.int .u8)).toArray 5 (0, 0))) (hn : 0 < n) (hfit : off + n ≤ xs.length) :
    ∃ w', (Builtin.clear_ #[33] ty #[.slice (some ⟨g, off, none⟩) n c]).run Tryz.prog w = .ok (.tuple #[]) w' ∧ w'.heap[g]? = some (.cells ((splice xs off (List.replicate n 0)).map (Value.int .u8)).toArray 5 (0, 0)) ∧ w.grownBy w' (some g) := by
  obtain ⟨i0, hi, hz0, hz1, hz2⟩ := info_parts Tryz.info5
  obtain ⟨m, rfl⟩ : ∃ m, n = m + 1 := ⟨n - 1, by omega⟩
  have hz : (zeroValue 5).run Tryz.prog w = .ok (.int .u8 0) w := by kernel_rfl
  have hlen : ((List.replicate (m + 1) (0 : Int)).map (Value.int .u8)).length = m + 1 := by simp
  have hone : ∀ v ∈ (List.replicate (m + 1) (0 : Int)).map (Value.int .u8), v.oneCell' = true := by intro v hv; obtain ⟨z, _, rfl⟩ := List.mem_map.1 hv; rfl
  have hzc := zero_cells (m + 1)
  have hfin : (splice xs off (List.replicate (m + 1) 0)).map (Value.int .u8) = (xs.map (Value.int .u8)).take off ++ (List.replicate (m + 1) (0 : Int)).map (Value.int .u8) ++ (xs.map (Value.int .u8)).drop (off + (m + 1)) := by
    simp only [splice, List.map_append, List.map_take, List.map_drop, List.length_replicate, List.append_assoc]
  rw [hfin]
  generalize (List.replicate (m + 1) (0 : Int)).map (Value.int .u8) = L at *
  have hst := run_storeCells_at Tryz.prog g off 5 L 0 _ w hg (by simp [hlen]; omega) hone
  refine ⟨w.setRow g ((xs.map (Value.int .u8)).take off ++ L ++ (xs.map (Value.int .u8)).drop (off + (m + 1))).toArray, ?_, ?_, ?_⟩
  · rw [hlen, Nat.add_zero] at hst
    simp [Builtin.clear_, run_underlying Tryz.underlying33, hz, hzc, hst]
  · rw [setRow_heap w g _ _ 5 _ hg]
  · exact ⟨rfl, rfl, rfl, by simp [World.setRow], fun k hk hne => setRow_other w g k _ (fun e => hne (by rw [e]))⟩
def clrE (len : Nat) (f : Int) : Int := if 0 ≤ f ∧ f < (len : Int) / 256 then 0 else 12
def clearV (zs : List Int) (f : Int) : List Int := if 0 ≤ f ∧ f < (zs.length : Int) / 256 then splice zs (f.toNat * 256) (List.replicate 256 0) else zs
theorem mclear_nobody (p : Value) (f : Int) (w : World) (h : HV w p (.slice none 0 0)) :
    Calls Tryz.prog 79 #[p, .int .i64 f] w fun e w' => e = .returned (.int .i64 1) ∧ w' = w := by
  go_enter Tryz.func79, Tryz.ntmps79
  go_wp2_with fail
  refine (made_any _ _ _ _ _ h).mono ?_
  rintro e w1 ⟨rfl, rfl⟩
  go_wp2_with fail
  go_ret
  exact ⟨rfl, rfl⟩
theorem mclear_mm (b g : Nat) (zs : List Int) (f : Int) (w : World) (h : MM w b g zs) :
    Calls Tryz.prog 79 #[.pointer (some ⟨b, 0, none⟩), .int .i64 f] w fun e w' => e = .returned (.int .i64 (clrE zs.length f)) ∧ MM w' b g (clearV zs f) ∧ w.grownBy w' (some g) := by
  have hd : decide (0 < zs.length) = true := decide_eq_true h.pos
  have hl := h.len
  have hc := h.cell0
  have hlt := h.blt
  by_cases h0 : f < 0
  · rw [show clrE zs.length f = 12 by rw [clrE, if_neg (by omega)], show clearV zs f = zs by rw [clearV, if_neg (by omega)]]
    go_enter Tryz.func79, Tryz.ntmps79
    go_wp2_with fail
    refine (made_any _ _ _ _ _ h.hv).mono ?_
    rintro e w1 ⟨rfl, rfl⟩
    rw [hd]
    clear hd
    go_wp2_with fail
    go_ret
    exact ⟨rfl, h, grown_refl _ _⟩
  · by_cases h1 : f < (zs.length : Int) / 256
    · rw [show clrE zs.length f = 0 by rw [clrE, if_pos (by omega)], show clearV zs f = splice zs (f.toNat * 256) (List.replicate 256 0) by rw [clearV, if_pos (by omega)]]
      obtain ⟨F, rfl⟩ := Int.eq_ofNat_of_zero_le (show 0 ≤ f by omega)
      rw [Int.toNat_natCast]
      have hle : F * 256 + 256 ≤ zs.length := by omega
      obtain ⟨w3, hr3, hg3, hgr3⟩ := run_clear_sl 0 g (F * 256) 256 (zs.length - F * 256) zs h.row (by decide) hle
      have hm3 := h.wrote (length_splice zs (F * 256) (List.replicate 256 0) (by rw [List.length_replicate]; omega)) (bytes_splice h.bytes (bytes_zeros 256) (F * 256) (by rw [List.length_replicate]; omega)) hg3 hgr3
      have HM : Hid (_) := hm3
      have HR : Hid (_) := hr3
      clear hm3 hg3 hr3
      go_enter Tryz.func79, Tryz.ntmps79
      go_wp2_with fail
      refine (made_any _ _ _ _ _ h.hv).mono ?_
      rintro e w1 ⟨rfl, rfl⟩
      rw [hd]
      clear hd
      go_wp2_with fail
      refine (frames_any _ _ _ _ _ hl h.hv).mono ?_
      rintro e w2 ⟨rfl, rfl⟩
      go_wp2_with fail
      rw [HR.out]
      go_wp2_with fail
      go_ret
      exact ⟨rfl, HM.out, hgr3⟩
    · rw [show clrE zs.length f = 12 by rw [clrE, if_neg (by omega)], show clearV zs f = zs by rw [clearV, if_neg (by omega)]]
      go_enter Tryz.func79, Tryz.ntmps79
      go_wp2_with fail
      refine (made_any _ _ _ _ _ h.hv).mono ?_
      rintro e w1 ⟨rfl, rfl⟩
      rw [hd]
      clear hd
      go_wp2_with fail
      refine (frames_any _ _ _ _ _ hl h.hv).mono ?_
      rintro e w2 ⟨rfl, rfl⟩
      go_wp2_with fail
      go_ret
      exact ⟨rfl, h, grown_refl _ _⟩
end Go.Proofs.YteghkhdpdeiocaaGreatDoor
namespace Go.Proofs.YteghkhdpdeiocaaGreatDoor
open Go.RowKit
set_option linter.unusedVariables false
set_option maxRecDepth 4000

/-- the document's memory: its block b, the row g of its bytes -/
structure RM (w : World) (b g : Nat) (zs : List Int) : Prop where
  cell : w.heap[b]? = some (.cells #[.slice (some ⟨g, 0, none⟩) zs.length zs.length] 49 (0, 0))
  row : w.heap[g]? = some (.cells (zs.map (Value.int .u8)).toArray 5 (0, 0))
  ne : b ≠ g
  bytes : Bytes zs
  pos : 0 < zs.length
  len : zs.length ≤ 16777216
theorem RM.blt {w : World} {b g : Nat} {zs : List Int} (h : RM w b g zs) : b < w.heap.size := lt_of_heap h.cell
theorem RM.glt {w : World} {b g : Nat} {zs : List Int} (h : RM w b g zs) : g < w.heap.size := lt_of_heap h.row
theorem RM.cell0 {w : World} {b g : Nat} {zs : List Int} (h : RM w b g zs) : w.cell? ⟨b, 0, none⟩ = some (.slice (some ⟨g, 0, none⟩) zs.length zs.length) := by
  simp [World.cell?, h.cell]
theorem RM.rowAt {w : World} {b g : Nat} {zs : List Int} (h : RM w b g zs) (i : Nat) (hi : i < zs.length) : w.cell? ⟨g, i, none⟩ = some (.int .u8 (zs.getD i 0)) := by
  simp [World.cell?, h.row, List.getElem?_eq_getElem hi]
theorem RM.kept {w w' : World} {b g : Nat} {zs : List Int} (h : RM w b g zs) {r : Option Nat} (hk : w.grownBy w' r) (hb : some b ≠ r) (hg : some g ≠ r) : RM w' b g zs :=
  ⟨(hk.block b h.blt hb).trans h.cell, (hk.block g h.glt hg).trans h.row, h.ne, h.bytes, h.pos, h.len⟩
theorem RM.below {w w' : World} {b g : Nat} {zs : List Int} (h : RM w b g zs) (hk : Below w.heap.size w w') : RM w' b g zs :=
  ⟨(hk.block b h.blt).trans h.cell, (hk.block g h.glt).trans h.row, h.ne, h.bytes, h.pos, h.len⟩
theorem RM.sl {w : World} {b g : Nat} {zs : List Int} (h : RM w b g zs) (o n : Nat) (hn : o + n ≤ zs.length) : SL w (some ⟨g, o, none⟩) n ((zs.drop o).take n) := by
  refine ⟨by simp; omega, bytes_mid h.bytes o n, .inr ⟨g, o, rfl, h.glt, fun i hi => ?_⟩⟩
  rw [h.rowAt (o + i) (by omega)]
  simp [List.getD, hi, List.getElem?_drop]
theorem RM.slAll {w : World} {b g : Nat} {zs : List Int} (h : RM w b g zs) : SL w (some ⟨g, 0, none⟩) zs.length zs := by
  have := h.sl 0 zs.length (by omega)
  simpa using this
theorem RM.box {w : World} {base g n : Nat} {zs : List Int} (h : w.ownsRow base 5 1 (.slice (some ⟨g, 0, none⟩) n n) n (zs.map (Value.int .u8))) (hB : Bytes zs) (h1 : 0 < n) (h2 : n ≤ 16777216) :
    RM (w.alloc (.cells #[.slice (some ⟨g, 0, none⟩) n n] 49)) w.heap.size g zs := by
  obtain ⟨hh, rfl, hb⟩ := own_heap h
  have hlt := lt_of_heap hh
  exact ⟨heap_alloc_at _ _, (heap_alloc_past _ _ hlt).trans hh, by omega, hB, h1, h2⟩
theorem RM.wrote {w w' : World} {b g : Nat} {zs ys : List Int} (h : RM w b g zs) (hl : ys.length = zs.length) (hB : Bytes ys) (hr : w'.heap[g]? = some (.cells (ys.map (Value.int .u8)).toArray 5 (0, 0))) (hk : w.grownBy w' (some g)) : RM w' b g ys := by
  refine ⟨?_, hr, h.ne, hB, by have := h.pos; omega, by have := h.len; omega⟩
  rw [hk.block b h.blt (by have := h.ne; simp; omega), hl]
  exact h.cell

theorem rnew_no (f : Int) (w : World) (h : ¬ (1 ≤ f ∧ f ≤ 65536)) :
    Calls Tryz.prog 15 #[.int .i64 f] w fun e w' => e = .returned (.tuple #[.pointer none, .int .i64 2]) ∧ w' = w := by
  by_cases h1 : f < 1
  · go_enter Tryz.func15, Tryz.ntmps15
    go_wp2
    go_ret2
    exact ⟨rfl, rfl⟩
  · have h2 : 65536 < f := by omega
    go_enter Tryz.func15, Tryz.ntmps15
    go_wp2
    go_ret2
    exact ⟨rfl, rfl⟩
theorem rnew_yes (f : Nat) (w : World) (h1 : 1 ≤ f) (h2 : f ≤ 65536) :
    Calls Tryz.prog 15 #[.int .i64 f] w fun e w' => ∃ b g, e = .returned (.tuple #[.pointer (some ⟨b, 0, none⟩), .int .i64 0]) ∧ RM w' b g (List.replicate (f * 256) 0) ∧ w.heap.size ≤ b ∧ w.heap.size ≤ g ∧ Below w.heap.size w w' := by
  obtain ⟨i0, hi, hz0, hz1, hz2⟩ := info_parts Tryz.info5
  go_enter Tryz.func15, Tryz.ntmps15
  go_wp2_with (at_make; refine wpList_make_full _ rfl _ _ 33 rfl w.heap.size 5 i0 (.int .u8 0) 1 Tryz.underlying33 hi hz0 hz1 _ _ _ _ (f * 256) rfl rfl (by omega) (by omega) (by rw [hz2]; omega) (by unfold maxLen; omega) (by simp) ?_; intro w2 hown2 hgrow2)
  rw [made_zeros] at hown2
  have hs2 := hgrow2.size
  go_ret2
  exact ⟨w2.heap.size, w.heap.size, rfl, RM.box hown2 (bytes_zeros _) (by omega) (by omega), hs2, Nat.le_refl _, ((Below.refl _ _).grown hgrow2 (by simp) (by intro k h; cases h)).alloc (by omega) _⟩
theorem lies_any (b g : Nat) (zs : List Int) (t n : Int) (w : World) (h : RM w b g zs) (ht : 0 ≤ t) (hn : 0 ≤ n) (hn' : n < 9223372036854775808) :
    Calls Tryz.prog 111 #[.pointer (some ⟨b, 0, none⟩), .int .u64 t, .int .i64 n] w fun e w' => e = .returned (.bool (decide (t + n ≤ zs.length))) ∧ w' = w := by
  have hc := h.cell0
  have hlt := h.blt
  have hl := h.len
  by_cases h1 : n ≤ zs.length
  · go_enter Tryz.func111, Tryz.ntmps111
    go_wp2
    go_ret
    exact ⟨ret_bool (by simp; omega), rfl⟩
  · have h1' : (zs.length : Int) < n := by omega
    go_enter Tryz.func111, Tryz.ntmps111
    go_wp2
    go_ret
    exact ⟨ret_bool (by simp; omega), rfl⟩
theorem wrong_any (b g : Nat) (zs : List Int) (t n : Int) (w : World) (h : RM w b g zs) (ht : 0 ≤ t) (ht' : t < 18446744073709551616) (hn' : n < 9223372036854775808) :
    Calls Tryz.prog 102 #[.pointer (some ⟨b, 0, none⟩), .int .u64 t, .int .i64 n] w fun e w' => e = .returned (.int .i64 (numE zs.length t n)) ∧ w' = w := by
  by_cases h1 : isW n
  · have h1' : n = 1 ∨ n = 4 ∨ n = 8 := h1
    by_cases h2 : t % n = 0
    · by_cases h3 : t + n ≤ zs.length
      · have hd : decide (t + n ≤ zs.length) = true := decide_eq_true h3
        rw [show numE zs.length t n = 0 by simp [numE, h1, h2, h3]]
        have L := lies_any b g zs t n w h ht (by omega) hn'
        rw [hd] at L
        clear hd h3
        rcases h1' with rfl | rfl | rfl
        all_goals
          go_enter Tryz.func102, Tryz.ntmps102
          go_wp2_with fail
          refine L.mono ?_
          rintro e w2 ⟨rfl, rfl⟩
          go_wp2_with fail
          go_ret
          exact ⟨rfl, rfl⟩
      · have hd : decide (t + n ≤ zs.length) = false := decide_eq_false h3
        rw [show numE zs.length t n = 12 by simp [numE, h1, h2, h3]]
        have L := lies_any b g zs t n w h ht (by omega) hn'
        rw [hd] at L
        clear hd h3
        rcases h1' with rfl | rfl | rfl
        all_goals
          go_enter Tryz.func102, Tryz.ntmps102
          go_wp2_with fail
          refine L.mono ?_
          rintro e w2 ⟨rfl, rfl⟩
          go_wp2_with fail
          go_ret
          exact ⟨rfl, rfl⟩
    · rw [show numE zs.length t n = 11 by simp [numE, h1, h2]]
      have h1'' : n = 4 ∨ n = 8 := by
        rcases h1' with rfl | h | h
        · omega
        · exact .inl h
        · exact .inr h
      rcases h1'' with rfl | rfl
      all_goals
        go_enter Tryz.func102, Tryz.ntmps102
        go_wp2_with fail
        go_ret
        exact ⟨rfl, rfl⟩
  · rw [show numE zs.length t n = 2 by simp [numE, h1]]
    have e1 : (n != 1) = true := by rw [bne_iff_ne]; exact fun e => h1 (.inl e)
    have e4 : (n != 4) = true := by rw [bne_iff_ne]; exact fun e => h1 (.inr (.inl e))
    have e8 : (n != 8) = true := by rw [bne_iff_ne]; exact fun e => h1 (.inr (.inr e))
    go_enter Tryz.func102, Tryz.ntmps102
    go_wp2_with fail
    go_ret
    exact ⟨rfl, rfl⟩
theorem rmload_any (b g : Nat) (zs : List Int) (t n : Int) (w : World) (h : RM w b g zs) (ht : 0 ≤ t) (ht' : t < 18446744073709551616) (hn' : n < 9223372036854775808) :
    Calls Tryz.prog 133 #[.pointer (some ⟨b, 0, none⟩), .int .u64 t, .int .i64 n] w fun e w' => e = .returned (.tuple #[.int .u64 (loadV zs t n), .int .i64 (numE zs.length t n)]) ∧ w' = w := by
  have hc := h.cell0
  have hlt := h.blt
  have hl := h.len
  by_cases he : numE zs.length t n = 0
  · obtain ⟨h1, h2, h3⟩ := numE_zero he
    have hn0 : 0 ≤ n := by unfold isW at h1; omega
    have W := wrong_any b g zs t n w h ht ht' hn'
    have L := rload_any (some ⟨g, 0, none⟩) zs.length zs.length zs t n w h.slAll (by unfold maxLen; omega)
    have hok : okW zs.length t n = true := decide_eq_true ⟨h1, ht, by omega⟩
    rw [show valW zs zs.length t n = loadV zs t n by rw [valW, hok, if_pos rfl, loadV, if_pos he], hok] at L
    rw [he] at W
    rw [he]
    clear he hok h1 h2
    generalize loadV zs t n = x at *
    go_enter Tryz.func133, Tryz.ntmps133
    go_wp2_with fail
    refine W.mono ?_
    rintro e w1 ⟨rfl, rfl⟩
    go_wp2_with fail
    refine L.mono ?_
    rintro e w2 ⟨rfl, rfl⟩
    go_wp2_with fail
    go_ret2
    exact ⟨rfl, rfl⟩
  · have W := wrong_any b g zs t n w h ht ht' hn'
    have he' : (numE zs.length t n != 0) = true := by rw [bne_iff_ne]; exact he
    rw [show loadV zs t n = 0 by rw [loadV, if_neg he]]
    clear he
    generalize numE zs.length t n = x at *
    go_enter Tryz.func133, Tryz.ntmps133
    go_wp2_with fail
    refine W.mono ?_
    rintro e w1 ⟨rfl, rfl⟩
    go_wp2_with fail
    go_ret2
    exact ⟨rfl, rfl⟩
end Go.Proofs.YteghkhdpdeiocaaGreatDoor
namespace Go.Proofs.YteghkhdpdeiocaaGreatDoor
open Go.RowKit
set_option linter.unusedVariables false

theorem eq_of_getD {xs ys : List Int} (hl : xs.length = ys.length) (h : ∀ i, i < xs.length → xs.getD i 0 = ys.getD i 0) : xs = ys := by
  apply List.ext_getElem hl
  intro i h1 h2
  have := h i h1
  simpa [List.getD, List.getElem?_eq_getElem h1, List.getElem?_eq_getElem h2] using this
theorem splice_getD (zs ys : List Int) (o i : Nat) (ho : o + ys.length ≤ zs.length) : (splice zs o ys).getD i 0 = if o ≤ i ∧ i < o + ys.length then ys.getD (i - o) 0 else zs.getD i 0 := by
  unfold splice
  simp only [List.getD, List.getElem?_append, List.length_take, List.getElem?_take, List.getElem?_drop]
  by_cases h1 : i < o
  · have e : i < min o zs.length := by omega
    have e2 : ¬ (o ≤ i ∧ i < o + ys.length) := by omega
    simp only [e, h1, if_true, e2, if_false]
  · have e1 : ¬ i < min o zs.length := by omega
    have e2 : min o zs.length = o := by omega
    rw [if_neg e1, e2]
    by_cases h2 : i - o < ys.length
    · rw [if_pos h2, if_pos (by omega)]
    · rw [if_neg h2, if_neg (by omega), show o + ys.length + (i - o - ys.length) = i by omega]

theorem set_getD (zs : List Int) (o : Nat) (z : Int) (i : Nat) (ho : o < zs.length) : (zs.set o z).getD i 0 = if i = o then z else zs.getD i 0 := by
  simp only [List.getD, List.getElem?_set]
  by_cases h : o = i
  · subst h; simp [ho]
  · rw [if_neg h, if_neg (fun e => h e.symm)]
theorem splice_snoc (zs ys : List Int) (z : Int) (o : Nat) (h : o + ys.length < zs.length) : splice zs o (ys ++ [z]) = (splice zs o ys).set (o + ys.length) z := by
  have l1 := length_splice zs o (ys ++ [z]) (by simp; omega)
  have l2 := length_splice zs o ys (by omega)
  apply eq_of_getD (by rw [l1, List.length_set, l2])
  intro i hi
  rw [set_getD _ _ _ _ (by omega), splice_getD _ _ _ _ (by simp; omega), splice_getD _ _ _ _ (by omega)]
  simp only [List.length_append, List.length_singleton]
  by_cases h1 : i = o + ys.length
  · subst h1
    rw [if_pos (by omega), if_pos rfl]
    simp [List.getD]
  · rw [if_neg h1]
    by_cases h2 : o ≤ i ∧ i < o + ys.length
    · rw [if_pos (by omega), if_pos h2]
      simp only [List.getD, List.getElem?_append]
      rw [if_pos (by omega)]
    · rw [if_neg (by omega), if_neg h2]
theorem splice_nil (zs : List Int) (o : Nat) : splice zs o [] = zs := by simp [splice]
theorem bytesOf_next (v : Int) (k : Nat) : bytesOf v (k + 1) = bytesOf v k ++ [byteAt v k] := by simp [bytesOf, List.range_succ]

/-- one byte of it written -/
theorem RM.set {w : World} {b g : Nat} {zs : List Int} (h : RM w b g zs) (i : Nat) (z : Int) (hi : i < zs.length) (h0 : 0 ≤ z) (h1 : z ≤ 255) :
    RM (w.setCell ⟨g, i, none⟩ (.int .u8 z)) b g (zs.set i z) ∧ w.grownBy (w.setCell ⟨g, i, none⟩ (.int .u8 z)) (some g) := by
  have e := setCell_eq_setRow w g i _ 5 (0, 0) (.int .u8 z) h.row
  have hk : w.grownBy (w.setCell ⟨g, i, none⟩ (.int .u8 z)) (some g) := by
    rw [e]
    exact ⟨rfl, rfl, rfl, by simp [World.setRow], fun k hk hne => setRow_other w g k _ (fun e => hne (by rw [e]))⟩
  refine ⟨h.wrote (by simp) ?_ ?_ hk, hk⟩
  · intro j
    rw [set_getD _ _ _ _ hi]
    split
    · omega
    · exact h.bytes j
  · rw [e, setRow_heap w g _ _ 5 _ h.row]
    simp [List.map_set]
theorem RM.drew {w : World} {b g : Nat} {zs : List Int} (h : RM w b g zs) : RM w.drew b g zs := ⟨h.cell, h.row, h.ne, h.bytes, h.pos, h.len⟩
theorem grown_drew {w w' : World} {r : Option Nat} (h : w.grownBy w' r) : w.grownBy w'.drew r := ⟨h.os, h.tape, h.output, h.size, h.block⟩

theorem own_cap3 {w : World} {base g cap n size : Nat} {e : TypeId} {xs : List Value} (h : w.ownsRow base e size (.slice (some ⟨g, 0, none⟩) n cap) n xs) : n ≤ cap := by
  rcases h.2 with ⟨h', _⟩ | ⟨g', cap', cur, h', _, _, hn, _⟩
  · cases h'
  · cases h'; exact hn
theorem rmstore_any (b g : Nat) (zs : List Int) (t n v : Int) (w : World) (h : RM w b g zs) (ht : 0 ≤ t) (ht' : t < 18446744073709551616) (hn' : n < 9223372036854775808) (h0 : 0 ≤ v) (h1 : v < 18446744073709551616) :
    Calls Tryz.prog 90 #[.pointer (some ⟨b, 0, none⟩), .int .u64 t, .int .i64 n, .int .u64 v] w fun e w' => e = .returned (.int .i64 (numE zs.length t n)) ∧ RM w' b g (storeV zs t n v) ∧ w.grownBy w' (some g) := by
  have W := wrong_any b g zs t n w h ht ht' hn'
  have hl := h.len
  by_cases he : numE zs.length t n = 0
  · obtain ⟨k1, k2, k3⟩ := numE_zero he
    have hn0 : 0 ≤ n := by unfold isW at k1; omega
    obtain ⟨T, rfl⟩ := Int.eq_ofNat_of_zero_le ht
    obtain ⟨N, rfl⟩ := Int.eq_ofNat_of_zero_le hn0
    rw [show storeV zs T N v = splice zs T (bytesOf v N) by rw [storeV, if_pos he, Int.toNat_natCast, Int.toNat_natCast]]
    have hN : N ≤ 8 := by unfold isW at k1; omega
    have S := rstore_yes v N w k1 h0 h1
    rw [he] at W
    rw [he]
    clear he
    go_enter Tryz.func90, Tryz.ntmps90
    go_wp2_with fail
    refine W.mono ?_
    rintro e w1 ⟨rfl, rfl⟩
    go_wp2_with fail
    refine S.mono ?_
    rintro e w2 ⟨g3, cap3, rfl, own3, hb3⟩
    have hg3 := (own3.lt g3 rfl).1
    have hcap := own_cap3 own3
    have hcell : ∀ j, j < N → w2.cell? ⟨g3, j, none⟩ = some (.int .u8 (byteAt v j)) := by
      intro j hj
      rw [own3.cellAt j (by omega)]
      simp [bytesOf, hj]
    have hne : g3 ≠ g := by have := h.glt; omega
    have HC : Hid (_) := hcell
    have hr2 := h.below hb3
    clear own3 W S hcell
    go_wp2_with fail
    go_loopw [11] (fun i wr => ∃ k : Nat, k ≤ N ∧ i = .int .i64 k ∧ RM wr b g (splice zs T (bytesOf v k)) ∧ w2.grownBy wr (some g)) (fun i _ => N - (intOf i).toNat)
    case atStart => exact ⟨0, by omega, rfl, by rw [show bytesOf v 0 = [] from rfl, splice_nil]; exact hr2, grown_refl _ _⟩
    case round =>
      obtain ⟨k, hk, rfl, hm, hgr⟩ := hrel
      have hb := byteAt_bound v k
      by_cases hlt : k < N
      · have hlen := length_splice zs T (bytesOf v k) (by rw [bytesOf_len]; omega)
        have hc := hm.cell0
        have hbl := hm.blt
        have hgl := hm.glt
        have hbk : wr.cell? ⟨g3, k, none⟩ = some (.int .u8 (byteAt v k)) := by
          rw [World.cell?_of_block (a := ⟨g3, k, none⟩) (hgr.block g3 (World.block_lt_of_cell? w2 ⟨g3, k, none⟩ (HC.out k hlt)) (by simp; exact hne))]
          exact HC.out k hlt
        have hg3l := World.block_lt_of_cell? wr ⟨g3, k, none⟩ hbk
        have htk := hm.rowAt (T + k) (by omega)
        have hfz : wr.frozen? ⟨g, T + k, none⟩ = false := by simp [World.frozen?, hm.row]
        have ST := hm.set (T + k) (byteAt v k) (by omega) hb.1 hb.2
        have e1 : (splice zs T (bytesOf v k)).set (T + k) (byteAt v k) = splice zs T (bytesOf v (k + 1)) := by
          rw [bytesOf_next, splice_snoc zs _ _ T (by rw [bytesOf_len]; omega), bytesOf_len]
        rw [e1] at ST
        have HST : Hid (_) := ST
        have HG : Hid (_) := hgr
        rw [hlen] at hc
        clear ST e1 hm hgr hlen
        generalize byteAt v k = z at *
        generalize (splice zs T (bytesOf v k)).getD (T + k) 0 = y at *
        have i1 : (0 : Int) ≤ (k : Int) ∧ (k : Int) < (N : Int) := by omega
        have i2 : (0 : Int) ≤ (T : Int) + (k : Int) ∧ (T : Int) + (k : Int) < (zs.length : Int) := by omega
        go_wp2_with fail
        go_region
        all_goals go_wp2_with fail
        exact ⟨⟨k + 1, by omega, by go_num, HST.out.1.drew, grown_drew (grown_trans HG.out HST.out.2)⟩, by simp [intOf]; omega⟩
      · obtain rfl : k = N := by omega
        go_wp2_with fail
        go_ret
        exact ⟨rfl, hm, grown_trans (grown_some hb3 _) hgr⟩
  · have he' : (numE zs.length t n != 0) = true := by rw [bne_iff_ne]; exact he
    rw [show storeV zs t n v = zs by rw [storeV, if_neg he]]
    clear he
    generalize numE zs.length t n = x at *
    go_enter Tryz.func90, Tryz.ntmps90
    go_wp2_with fail
    refine W.mono ?_
    rintro e w1 ⟨rfl, rfl⟩
    go_wp2_with fail
    go_ret
    exact ⟨rfl, h, grown_refl _ _⟩

/-- a row of the call's own, nil or not, as a slice of its numbers -/
theorem own_sl {w : World} {base n : Nat} {v : Value} {zs : List Int} (h : w.ownsRow base 5 1 v n (zs.map (Value.int .u8))) (hB : Bytes zs) : ∃ a cap, v = .slice a n cap ∧ SL w a n zs := by
  have hl : zs.length = n := by have := h.1; simpa using this
  rcases h.2 with ⟨rfl, rfl⟩ | ⟨g, cap, cur, rfl, _⟩
  · exact ⟨none, 0, rfl, hl, hB, .inl rfl⟩
  · exact ⟨_, cap, rfl, SL.own h hB⟩
def TuplesIs (x : Int) (v : Value) (e : Ending) : Prop := e = .returned (.tuple #[v, .int .i64 x])
end Go.Proofs.YteghkhdpdeiocaaGreatDoor
namespace Go.Proofs.YteghkhdpdeiocaaGreatDoor
open Go.RowKit
set_option linter.unusedVariables false
set_option maxRecDepth 100000

theorem rmclear_any (b g : Nat) (zs : List Int) (f : Int) (w : World) (h : RM w b g zs) :
    Calls Tryz.prog 80 #[.pointer (some ⟨b, 0, none⟩), .int .i64 f] w fun e w' => e = .returned (.int .i64 (clrE zs.length f)) ∧ RM w' b g (clearV zs f) ∧ w.grownBy w' (some g) := by
  have hl := h.len
  have hc := h.cell0
  have hlt := h.blt
  by_cases h0 : f < 0
  · rw [show clrE zs.length f = 12 by rw [clrE, if_neg (by omega)], show clearV zs f = zs by rw [clearV, if_neg (by omega)]]
    go_enter Tryz.func80, Tryz.ntmps80
    go_wp2_with fail
    go_ret
    exact ⟨rfl, h, grown_refl _ _⟩
  · by_cases h1 : f < (zs.length : Int) / 256
    · rw [show clrE zs.length f = 0 by rw [clrE, if_pos (by omega)], show clearV zs f = splice zs (f.toNat * 256) (List.replicate 256 0) by rw [clearV, if_pos (by omega)]]
      obtain ⟨F, rfl⟩ := Int.eq_ofNat_of_zero_le (show 0 ≤ f by omega)
      rw [Int.toNat_natCast]
      have hle : F * 256 + 256 ≤ zs.length := by omega
      go_enter Tryz.func80, Tryz.ntmps80
      go_wp2_with fail
      clear hc hlt
      go_loopw [5] (fun i wr => ∃ k : Nat, k ≤ 256 ∧ i = .int .i64 k ∧ RM wr b g (splice zs (F * 256) (List.replicate k 0)) ∧ w.grownBy wr (some g)) (fun i _ => 256 - (intOf i).toNat)
      case atStart => exact ⟨0, by omega, rfl, by rw [List.replicate_zero, splice_nil]; exact h, grown_refl _ _⟩
      case round =>
        obtain ⟨k, hk, rfl, hm, hgr⟩ := hrel
        by_cases hlt : k < 256
        · have htl : (List.replicate k (0 : Int)).length = k := List.length_replicate
          have hlen := length_splice zs (F * 256) (List.replicate k 0) (by omega)
          have hc := hm.cell0
          have hbl := hm.blt
          have hgl := hm.glt
          have htk := hm.rowAt (F * 256 + k) (by omega)
          have hfz : wr.frozen? ⟨g, F * 256 + k, none⟩ = false := by simp [World.frozen?, hm.row]
          have ST := hm.set (F * 256 + k) 0 (by omega) (by omega) (by omega)
          have e1 : (splice zs (F * 256) (List.replicate k 0)).set (F * 256 + k) 0 = splice zs (F * 256) (List.replicate (k + 1) 0) := by
            rw [List.replicate_succ', splice_snoc zs _ _ (F * 256) (by omega), htl]
          rw [e1] at ST
          have HST : Hid (_) := ST
          have HG : Hid (_) := hgr
          rw [hlen] at hc
          clear ST e1 hm hgr hlen htl h
          generalize (splice zs (F * 256) (List.replicate k 0)).getD (F * 256 + k) 0 = y at *
          go_wp2_with fail
          exact ⟨⟨k + 1, by omega, by go_num, HST.out.1, grown_trans HG.out HST.out.2⟩, by simp [intOf]; omega⟩
        · obtain rfl : k = 256 := by omega
          go_wp2_with fail
          go_ret
          exact ⟨rfl, hm, hgr⟩
    · rw [show clrE zs.length f = 12 by rw [clrE, if_neg (by omega)], show clearV zs f = zs by rw [clearV, if_neg (by omega)]]
      go_enter Tryz.func80, Tryz.ntmps80
      go_wp2_with fail
      go_ret
      exact ⟨rfl, h, grown_refl _ _⟩

end Go.Proofs.YteghkhdpdeiocaaGreatDoor
