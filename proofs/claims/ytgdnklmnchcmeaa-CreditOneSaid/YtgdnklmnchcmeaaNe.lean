/-
  The program's New.
-/
import Derived.Test.YtgdnklmnchcmeaaCg
namespace Go.Proofs.Ytgdnklmnchcmeaa
open Go.RowKit Go.Maps
set_option linter.unusedVariables false
set_option maxRecDepth 100000
def pv0 : Pv := ⟨.slice none 0 0, false, 0, 0⟩
theorem info82 : ∃ i, Try.prog.info? 82 = some i ∧ i.zero = some (.agg (pvc pv0).toArray) ∧ i.size = 4 ∧ i.bytes ≤ 200 := by
  have h : (Try.prog.info? 82).map (fun i => (i.zero, i.size)) = some (some (.agg (pvc pv0).toArray), 4) := by kernel_rfl
  have h2 : (Try.prog.info? 82).map (fun i => decide (i.bytes ≤ 200)) = some true := by kernel_rfl
  obtain ⟨i, hi, hb⟩ := Option.map_eq_some_iff.1 h
  rw [hi] at h2
  simp only [Prod.mk.injEq] at hb
  exact ⟨i, hi, hb.1, hb.2, by simpa using h2⟩
def okNew (cores per : Int) : Prop := 1 ≤ cores ∧ cores ≤ 8 ∧ 1 ≤ per ∧ per ≤ 1048576
instance (cores per : Int) : Decidable (okNew cores per) := by unfold okNew; infer_instance
def S0 : St := ⟨[], fun _ => [], fun _ => 0⟩
theorem made_at (n : Nat) (hn : n ≤ 8) (i j : Nat) (hi : i < n) (hj : j < 4) : (madeCells (Value.agg (pvc pv0).toArray).cells (n * 4)).toList[i * 4 + j]? = (pvc pv0)[j]? := by
  have e : (i * 4 + j) % 4 = j := by omega
  have hsz : (Value.agg (pvc pv0).toArray).cells.size = 4 := rfl
  unfold madeCells
  rw [Array.getElem?_toList, Array.getElem?_map, hsz, Array.getElem?_range, if_pos (by omega)]
  simp only [Option.map_some, e]
  match j, hj with
  | 0, _ => rfl
  | 1, _ => rfl
  | 2, _ => rfl
  | 3, _ => rfl
theorem new_no (cores per : Int) (w : World) (h : ¬ okNew cores per) : Calls Try.prog 9 #[.int .i64 cores, .int .i64 per] w fun e w' => e = .returned (.tuple #[.pointer none, .int .i64 2]) ∧ w' = w := by
  unfold okNew at h
  by_cases h1 : cores < 1
  · go_enter Try.func9, Try.ntmps9
    go_wp2_with fail
    go_ret2
    exact ⟨rfl, rfl⟩
  · by_cases h2 : 8 < cores
    · go_enter Try.func9, Try.ntmps9
      go_wp2_with fail
      go_ret2
      exact ⟨rfl, rfl⟩
    · by_cases h3 : per < 1
      · go_enter Try.func9, Try.ntmps9
        go_wp2_with fail
        go_ret2
        exact ⟨rfl, rfl⟩
      · have h4 : 1048576 < per := by omega
        go_enter Try.func9, Try.ntmps9
        go_wp2_with fail
        go_ret2
        exact ⟨rfl, rfl⟩
theorem new_at (n : Nat) (per : Int) (w : World) (h : okNew n per) : Calls Try.prog 9 #[.int .i64 n, .int .i64 per] w fun e w' => ∃ c, e = .returned (.tuple #[.pointer (some ⟨c, 0, none⟩), .int .i64 0]) ∧ ∃ m p F, VX w' c m p n per F S0 ∧ Below w.heap.size w w' ∧ w.heap.size ≤ c ∧ ∀ k, Sp m p n F k → w.heap.size ≤ k := by
  obtain ⟨h1, h2, h3, h4⟩ := h
  have hmm := @run_makeMap Try.prog
  obtain ⟨i0, hi, hz, hs, hby⟩ := info82
  have hb : i0.bytes * n ≤ 281474976710656 := by
    have : i0.bytes * n ≤ 200 * 8 := Nat.mul_le_mul hby (by omega)
    omega
  have hm : n ≤ maxLen := by have := maxLen_big; omega
  have HM : Hid (MapIs (w.alloc (.map #[] 0)) w.heap.size 0 (fun _ => none) ∧ Below w.heap.size w (w.alloc (.map #[] 0))) := ⟨MapIs.new w, below_box w _⟩
  have HF : Hid (∀ y : World, y.ownsRow 0 82 4 (.slice (some ⟨w.heap.size + 1, 0, none⟩) n n) n (madeCells (Value.agg (pvc pv0).toArray).cells (n * 4)).toList → (w.alloc (.map #[] 0)).grownBy y none →
      VX (y.alloc (.cells #[.map (some w.heap.size), .slice (some ⟨w.heap.size + 1, 0, none⟩) n n, .int .i64 per] 44)) y.heap.size w.heap.size (w.heap.size + 1) n per (fun _ => pv0) S0 ∧ Below w.heap.size w (y.alloc (.cells #[.map (some w.heap.size), .slice (some ⟨w.heap.size + 1, 0, none⟩) n n, .int .i64 per] 44)) ∧ w.heap.size ≤ y.heap.size) := fun y hr hg => by
    have hb : Below (w.alloc (.map #[] 0)).heap.size (w.alloc (.map #[] 0)) y := ⟨hg.os, hg.tape, hg.output, hg.size, fun k hk => hg.block k hk (by simp)⟩
    have hb2 : Below w.heap.size w y := HM.out.2.trans (hb.mono HM.out.2.size)
    have b3 := below_box y (.cells #[.map (some w.heap.size), .slice (some ⟨w.heap.size + 1, 0, none⟩) n n, .int .i64 per] 44)
    refine ⟨⟨⟨heap_alloc_at y _, ((HM.out.1.keep (hb.block _ HM.out.1.lt)).keep (b3.block _ (HM.out.1.keep (hb.block _ HM.out.1.lt)).lt)).congr rfl (fun _ => rfl), ?_, fun i hi => .inl ⟨rfl, rfl⟩, (fun i j k _ _ e => by cases e), by omega⟩, fun i hi => ⟨rfl, rfl, rfl⟩, SOk.new ⟨by omega, by omega⟩ ⟨h3, h4⟩⟩, hb2.alloc hb2.size _, hb2.size⟩
    obtain ⟨_, ⟨e, _⟩ | ⟨g, cc, cur, e, _, g1, g2, g3, g4, g5⟩⟩ := hr
    · cases e
    · cases e
      refine ⟨cur, (b3.block _ (lt_of_heap g1)).trans g1, g4, fun i hi j hj => ?_⟩
      rw [← made_at n (by omega) i j hi hj, ← g5, List.getElem?_take_of_lt (by omega)]
      simp
  have hn1 : ¬ (n : Int) < 1 := by omega
  go_enter Try.func9, Try.ntmps9
  go_wp2_with (refine wpList_make_full _ rfl _ _ 42 rfl 0 82 i0 _ 4 Try.underlying42 hi hz hs .i64 .i64 n n n rfl rfl rfl rfl hb hm (Nat.zero_le _) ?_; intro y hrow hgrow)
  have hsz : (w.alloc (.map #[] 0)).heap.size = w.heap.size + 1 := by simp
  rw [hsz] at hrow
  obtain ⟨hv, hb1, hb2⟩ := HF.out y hrow hgrow
  have HE : Hid (_) := hv
  have HE2 : Hid (_) := hb1
  clear hv hb1 HF hrow hgrow
  go_ret2
  refine ⟨_, rfl, _, _, fun _ => pv0, HE.out, HE2.out, hb2, fun k hk => ?_⟩
  rcases hk with rfl | rfl | ⟨i, _, e⟩
  · exact Nat.le_refl _
  · omega
  · cases e
end Go.Proofs.Ytgdnklmnchcmeaa
