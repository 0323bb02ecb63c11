/-
  append of a new slice of zeros to a row of the call's own.
-/
import Derived.Test.YtkadpmmielegfaaOw
import Derived.Lib.AppendZeros
namespace Go.Proofs.Ytkadpmmielegfaa
open Go.RowKit Go.Maps
set_option linter.unusedVariables false
set_option maxRecDepth 20000

theorem zeros_list (m : Nat) : (Builtin.zeroCells (Value.int .u8 0).cells m).toList = (List.replicate m (0 : Int)).map (Value.int .u8) := zero_cells m
/-- there is room -/
theorem run_zeros_room {w : World} (ty : TypeId) (g n cap m : Nat) (cur : Array Value) (hg : w.heap[g]? = some (.cells cur 5 (0, 0))) (hm : 0 < m) (hroom : n + m ≤ cap) (hfit : n + m ≤ cur.size) (hml : m ≤ 1000000) :
    (Builtin.append_ #[39, 3] ty #[.slice (some ⟨g, 0, none⟩) n cap, .int .i64 m]).run Try.prog w =
      .ok (.slice (some ⟨g, 0, none⟩) (n + m) cap) (w.setRow g (cur.toList.take n ++ (List.replicate m (0 : Int)).map (Value.int .u8) ++ cur.toList.drop (n + m)).toArray) := by
  obtain ⟨i0, hi, hz0, hz1, hz2⟩ := info_parts Try.info5
  have hone : ∀ v ∈ (List.replicate m (0 : Int)).map (Value.int .u8), v.oneCell' = true := by intro v hv; obtain ⟨z, _, rfl⟩ := List.mem_map.1 hv; rfl
  have hst := run_storeCells_at Try.prog g n 5 ((List.replicate m (0 : Int)).map (Value.int .u8)) 0 cur w hg (by simp; omega) hone
  simp only [Nat.add_zero, List.length_map, List.length_replicate] at hst
  have hzl := zeros_list m
  generalize (List.replicate m (0 : Int)).map (Value.int .u8) = L at *
  have hw : IntKind.i64.wrap (m : Int) = m := by rw [IntKind.wrap_i64]; omega
  have hneg : ¬ ((m : Int) < 0) := by omega
  have h48 : ¬ (281474976710656 < (m : Int)) := by omega
  have hne : m ≠ 0 := by omega
  simp [Builtin.append_, run_underlying Try.underlying39, run_underlying Try.underlying3, sizeOf, typeInfo, zeroValue, hi, hz0, hz1, hz2, asInt, asIntOf, hw, hneg, h48, hne, hroom, Addr.add_lit, hzl, hst]
theorem run_zeros_grow {w : World} (ty : TypeId) (g n cap m : Nat) (xs : List Value) (hxl : xs.length = n) (hx : ∀ j u, xs[j]? = some u → w.cell? ((⟨g, 0, none⟩ : Addr).add j) = some u) (hm : 0 < m) (hroom : cap < n + m) (hn : n ≤ cap) (hml : n + m ≤ 1000000) :
    (Builtin.append_ #[39, 3] ty #[.slice (some ⟨g, 0, none⟩) n cap, .int .i64 m]).run Try.prog w =
      .ok (.slice (some ⟨w.heap.size, 0, none⟩) (n + m) (grownCap w (n + m) cap 5)) (w.drew.alloc (.cells (xs.toArray ++ ((List.replicate m (0 : Int)).map (Value.int .u8)).toArray ++ Builtin.zeroCells (Value.int .u8 0).cells (grownCap w (n + m) cap 5 - (n + m))) 5)) := by
  obtain ⟨i0, hi, hz0, hz1, hz2⟩ := info_parts Try.info5
  have hf := run_firstCells_some (P := Try.prog) w.drew 1 n ⟨g, 0, none⟩ n cap xs (by omega) (by simpa using hx)
  have hzl : Builtin.zeroCells (Value.int .u8 0).cells m = ((List.replicate m (0 : Int)).map (Value.int .u8)).toArray := by
    rw [← zeros_list m]
  generalize (List.replicate m (0 : Int)).map (Value.int .u8) = L at *
  have hw : IntKind.i64.wrap (m : Int) = m := by rw [IntKind.wrap_i64]; omega
  have hneg : ¬ ((m : Int) < 0) := by omega
  have h48 : ¬ (281474976710656 < (m : Int)) := by omega
  have hne : m ≠ 0 := by omega
  have hr : ¬ (n + m ≤ cap) := by omega
  have h63 : ¬ (9223372036854775807 < (n : Int) + (m : Int)) := by omega
  have h48' : ¬ (281474976710656 < Builtin.nextslicecap (n + m) cap) := by
    have := growslice_fits (need := n + m) (old := cap) (bytes := 1) (by omega) (by omega)
    omega
  simp [Builtin.append_, run_underlying Try.underlying39, run_underlying Try.underlying3, sizeOf, typeInfo, zeroValue, hi, hz0, hz1, hz2, asInt, asIntOf, hw, hneg, h48, hne, hr, h63, h48', hf, hzl, Question.forced, newRow, grownCap]
  congr 2
  apply Array.ext'
  simp [List.append_assoc]
theorem run_zeros_none {w : World} (ty : TypeId) (v : Option Addr) (n cap : Nat) (hn : n ≤ cap) : (Builtin.append_ #[39, 3] ty #[.slice v n cap, .int .i64 0]).run Try.prog w = .ok (.slice v n cap) w := by
  obtain ⟨i0, hi, hz0, hz1, hz2⟩ := info_parts Try.info5
  have hw : IntKind.i64.wrap 0 = 0 := by decide
  cases v <;> simp [Builtin.append_, run_underlying Try.underlying39, run_underlying Try.underlying3, sizeOf, typeInfo, zeroValue, hi, hz0, hz2, asInt, asIntOf, hw, hn, storeCells]
theorem run_zeros_own {w : World} (ty : TypeId) (base n m : Nat) (v : Value) (xs : List Int) (hown : w.ownsRow base 5 1 v n (xs.map (Value.int .u8))) (hml : n + m ≤ 1000000) (hbase : base ≤ w.heap.size) :
    ∃ v' w', (Builtin.append_ #[39, 3] ty #[v, .int .i64 m]).run Try.prog w = .ok v' w' ∧ w'.ownsRow base 5 1 v' (n + m) ((xs ++ List.replicate m 0).map (Value.int .u8)) ∧ w.grownBy w' v.ownBlock := by
  obtain ⟨i0, hi, hz0, hz1, hz2⟩ := info_parts Try.info5
  have hxl : (xs.map (Value.int .u8)).length = n := by have := hown.1; omega
  rcases Nat.eq_zero_or_pos m with rfl | hm
  · obtain ⟨a, c, rfl, hc⟩ : ∃ a c, v = .slice a n c ∧ n ≤ c := by
      rcases hown.2 with ⟨rfl, h0⟩ | ⟨g, cap, cur, rfl, _, _, hn, _⟩
      · exact ⟨none, 0, by rw [h0], by omega⟩
      · exact ⟨_, cap, rfl, hn⟩
    exact ⟨_, w, run_zeros_none ty a n c hc, by simpa using hown, grown_refl _ _⟩
  · have hcm : ∀ old, grownCap w (n + m) old 5 ≤ maxLen := fun old => grownCap_le_maxLen w (n + m) old 5 (by unfold maxLen; omega)
    have hlen : ((xs ++ List.replicate m 0).map (Value.int .u8)).length = n + m := by simp at hxl ⊢; omega
    rcases hown.2 with ⟨rfl, h0⟩ | ⟨g, cap, cur, rfl, hbg, hg, hnc, hcap, hcs, htake⟩
    · subst h0
      obtain rfl : xs = [] := by simpa using hxl
      have hr := Lib.run_append_nil_zeros (P := Try.prog) w 39 3 ty 5 i0 (.int .u8 0) .i64 .i64 Try.underlying39 Try.underlying3 hi hz0 m hm (by omega) (by omega) (by rw [hz2]; omega)
      refine ⟨_, _, hr, ⟨by simp, .inr ⟨w.heap.size, grownCap w m 0 5, _, by rw [Nat.zero_add], hbase, heap_alloc_at w.drew _, by simpa using grownCap_ge w m 0 5, by simpa using hcm 0, ?_, ?_⟩⟩, ⟨rfl, rfl, rfl, by simp, fun k hk _ => heap_alloc_past w.drew _ hk⟩⟩
      · have := grownCap_ge w m 0 5
        simp [size_zeroCells, Value.cells]
        omega
      · have hz := zeros_list m
        rw [Array.toList_append, hz]
        simp
    · by_cases hroom : n + m ≤ cap
      · have hr := run_zeros_room (w := w) ty g n cap m cur hg hm hroom (by omega) (by omega)
        refine ⟨_, _, hr, ⟨by rw [hlen]; omega, .inr ⟨g, cap, _, rfl, hbg, setRow_heap w g cur _ 5 _ hg, hroom, hcap, ?_, ?_⟩⟩, ⟨rfl, rfl, rfl, by simp, fun k _ hk => setRow_other w g k _ (fun e => hk (by simp [Value.ownBlock, e]))⟩⟩
        · simp
          omega
        · rw [Nat.mul_one] at htake
          rw [htake, ← List.map_append, Nat.mul_one, ← hlen]
          exact List.take_left
      · have hr := run_zeros_grow (w := w) ty g n cap m (xs.map (Value.int .u8)) hxl (hown.cells (g := g) rfl) hm (by omega) hnc (by omega)
        refine ⟨_, _, hr, ⟨by rw [hlen]; omega, .inr ⟨w.heap.size, _, _, rfl, hbase, heap_alloc_at w.drew _, grownCap_ge w (n + m) cap 5, hcm cap, ?_, ?_⟩⟩, ⟨rfl, rfl, rfl, by simp, fun k hk _ => heap_alloc_past w.drew _ hk⟩⟩
        · have := grownCap_ge w (n + m) cap 5
          simp [size_zeroCells, Value.cells]
          simp at hxl
          omega
        · rw [Array.toList_append, Array.toList_append, ← List.map_append, Nat.mul_one, ← hlen]
          exact List.take_left
end Go.Proofs.Ytkadpmmielegfaa
