/-
  What New, copied, Equal, Same and Clone do: their contracts.
-/
import Derived.Test.YteghkhdpdeiocaaDoorMem1
namespace Go.Proofs.YteghkhdpdeiocaaDoor
open Go.RowKit
set_option linter.unusedVariables false
set_option maxRecDepth 4000

theorem made_zeros (n : Nat) : (madeCells (Value.int .u8 0).cells (n * 1)).toList = (List.replicate n (0 : Int)).map (Value.int .u8) := by
  apply List.ext_getElem (by simp [madeCells])
  intro i h1 h2
  simp [madeCells, Value.cells, Nat.mod_one]
theorem bytes_zeros (n : Nat) : Bytes (List.replicate n 0) := by
  intro i
  by_cases h : i < n
  · simp [List.getD, h]
  · simp [List.getD, h]
/-- a whole row of the call's own, as its block reads -/
theorem own_heap {w : World} {base g n : Nat} {zs : List Int} (h : w.ownsRow base 5 1 (.slice (some ⟨g, 0, none⟩) n n) n (zs.map (Value.int .u8))) : w.heap[g]? = some (.cells (zs.map (Value.int .u8)).toArray 5 (0, 0)) ∧ zs.length = n ∧ base ≤ g := by
  have hl : zs.length = n := by have := h.1; simpa using this
  rcases h.2 with ⟨h', _⟩ | ⟨g', cap', cur, h', hb, hg, hn, hm, hsz, htk⟩
  · cases h'
  · cases h'
    refine ⟨?_, hl, hb⟩
    rw [hg]
    have : cur.toList = zs.map (Value.int .u8) := by rw [← htk, List.take_of_length_le (by simp; omega)]
    rw [← this]

theorem heap_alloc_at (w : World) (o : Obj) : (w.alloc o).heap[w.heap.size]? = some o := by show (w.heap.push o)[w.heap.size]? = _; simp
theorem heap_alloc_past (w : World) (o : Obj) {k : Nat} (h : k < w.heap.size) : (w.alloc o).heap[k]? = w.heap[k]? := by show (w.heap.push o)[k]? = _; simp [Array.getElem?_push, Nat.ne_of_lt h]
/-- a whole row of the call's own, boxed as a memory -/
theorem MM.box {w : World} {base g n : Nat} {zs : List Int} (h : w.ownsRow base 5 1 (.slice (some ⟨g, 0, none⟩) n n) n (zs.map (Value.int .u8))) (hB : Bytes zs) (h1 : 0 < n) (h2 : n ≤ 16777216) :
    MM (w.alloc (.cells #[.slice (some ⟨g, 0, none⟩) n n] 96)) w.heap.size g zs := by
  obtain ⟨hh, rfl, hb⟩ := own_heap h
  have hlt := lt_of_heap hh
  exact ⟨heap_alloc_at _ _, (heap_alloc_past _ _ hlt).trans hh, by omega, hB, h1, h2⟩
theorem new_no (f : Int) (w : World) (h : ¬ (1 ≤ f ∧ f ≤ 65536)) :
    Calls Tryd.prog 13 #[.int .i64 f] w fun e w' => e = .returned (.tuple #[.pointer none, .int .i64 2]) ∧ w' = w := by
  by_cases h1 : f < 1
  · go_enter Tryd.func13, Tryd.ntmps13
    go_wp2
    go_ret2
    exact ⟨rfl, rfl⟩
  · have h2 : 65536 < f := by omega
    go_enter Tryd.func13, Tryd.ntmps13
    go_wp2
    go_ret2
    exact ⟨rfl, rfl⟩
theorem new_yes (f : Nat) (w : World) (h1 : 1 ≤ f) (h2 : f ≤ 65536) :
    Calls Tryd.prog 13 #[.int .i64 f] w fun e w' => ∃ b g, e = .returned (.tuple #[.pointer (some ⟨b, 0, none⟩), .int .i64 0]) ∧ MM w' b g (List.replicate (f * 256) 0) ∧ w.heap.size ≤ b ∧ w.heap.size ≤ g ∧ Below w.heap.size w w' := by
  obtain ⟨i0, hi, hz0, hz1, hz2⟩ := info_parts Tryd.info5
  go_enter Tryd.func13, Tryd.ntmps13
  go_wp2_with (at_make; refine wpList_make_full _ rfl _ _ 94 rfl w.heap.size 5 i0 (.int .u8 0) 1 Tryd.underlying94 hi hz0 hz1 _ _ _ _ (f * 256) rfl rfl (by omega) (by omega) (by rw [hz2]; omega) (by unfold maxLen; omega) (by simp) ?_; intro w2 hown2 hgrow2)
  rw [made_zeros] at hown2
  have hs2 := hgrow2.size
  go_ret2
  exact ⟨w2.heap.size, w.heap.size, rfl, MM.box hown2 (bytes_zeros _) (by omega) (by omega), hs2, Nat.le_refl _, ((Below.refl _ _).grown hgrow2 (by simp) (by intro k h; cases h)).alloc (by omega) _⟩

/-- copy of a slice of bytes into a row as long -/
theorem run_copy_sl {w : World} (ty : TypeId) (g off n : Nat) (dp sp : Option Addr) (dCap sCap m : Nat) (xs zs : List Int) (hg : w.heap[g]? = some (.cells (xs.map (Value.int .u8)).toArray 5 (0, 0))) (hsl : SL w sp m zs) (hnm : m = n) (hdp : n = 0 ∨ dp = some ⟨g, off, none⟩) (hfit : off + n ≤ xs.length) :
    ∃ w', (Builtin.copy_ #[94, 94] ty #[.slice dp n dCap, .slice sp m sCap]).run Tryd.prog w = .ok (goInt n) w' ∧ w'.heap[g]? = some (.cells ((splice xs off zs).map (Value.int .u8)).toArray 5 (0, 0)) ∧ w.grownBy w' (some g) := by
  subst hnm
  have hsz : (Tryd.prog.info? 5).map (·.size) = some 1 := by kernel_rfl
  obtain ⟨hl, hB, hc⟩ := hsl
  by_cases h0 : m = 0
  · subst h0
    obtain rfl : zs = [] := List.length_eq_zero_iff.1 hl
    exact ⟨w, run_copy_none (P := Tryd.prog) w 94 94 ty 5 dp sp 0 dCap 0 sCap Tryd.underlying94 hsz rfl, by simpa [splice] using hg, grown_refl _ _⟩
  · rcases hc with hc | ⟨b, o', rfl, hlt, hc⟩
    · omega
    rcases hdp with hdp | rfl
    · omega
    have hsrc : ∀ j v, (zs.map (Value.int .u8))[j]? = some v → w.cell? ((⟨b, o', none⟩ : Addr).add j) = some v := by
      intro j u hj
      have hjl : j < zs.length := by
        rcases Nat.lt_or_ge j zs.length with h' | h'
        · exact h'
        · simp [List.getElem?_eq_none (show (zs.map (Value.int .u8)).length ≤ j by simpa using h')] at hj
      have hplain : (⟨b, o', none⟩ : Addr).add j = ⟨b, o' + j, none⟩ := by unfold Addr.add; split <;> simp_all
      rw [hplain, hc j (by omega)]
      simp [List.getElem?_eq_getElem hjl] at hj
      subst hj
      simp [List.getD, List.getElem?_eq_getElem hjl]
    have hrun := run_copy_row (P := Tryd.prog) w 94 94 ty 5 g off m dCap ⟨b, o', none⟩ m sCap _ 5 (zs.map (Value.int .u8)) Tryd.underlying94 hsz hg (by simp [hl]) hsrc (by simp [hl]; omega) (by intro v hv; obtain ⟨z, _, rfl⟩ := List.mem_map.1 hv; rfl)
    rw [List.length_map, hl] at hrun
    refine ⟨_, hrun, ?_, ⟨rfl, rfl, rfl, by simp [World.setRow], fun k hk hne => setRow_other w g k _ (fun e => hne (by rw [e]))⟩⟩
    rw [setRow_heap w g _ _ 5 _ hg]
    simp [splice, hl]

theorem splice_all {α : Type} (xs zs : List α) (h : zs.length = xs.length) : splice xs 0 zs = zs := by simp [splice, h]
theorem own_of_heap {w : World} {base g n : Nat} {zs : List Int} (h : w.heap[g]? = some (.cells (zs.map (Value.int .u8)).toArray 5 (0, 0))) (hn : zs.length = n) (hb : base ≤ g) (hm : n ≤ maxLen) : w.ownsRow base 5 1 (.slice (some ⟨g, 0, none⟩) n n) n (zs.map (Value.int .u8)) :=
  ⟨by simp [hn], .inr ⟨g, n, _, rfl, hb, h, Nat.le_refl _, hm, by simp [hn], by rw [Nat.mul_one]; exact List.take_of_length_le (by simp [hn])⟩⟩

end Go.Proofs.YteghkhdpdeiocaaDoor
