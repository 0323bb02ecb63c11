/-
  The document's cache: what its Drop does.
-/
import Derived.Test.YtgafdbamlmaifaaRd
import Derived.Test.YtgafdbamlmaifaaUk
import Derived.BigRegion
namespace Go.Proofs.Ytgafdbamlmaifaa.R
open Go.RowKit
open Go.Proofs.Ytgafdbamlmaifaa.U (step_append_run)
set_option linter.unusedVariables false
set_option maxRecDepth 20000

theorem drop_miss (B r room : Nat) (v : Value) (is : List It) (g k : Int) (w : World) (h : RC B w r room v is)
    (C : Calls Try.prog 32 #[.pointer (some ⟨r, 0, none⟩), .int .i64 g, .int .u64 k] w fun e w' => e = .returned (.int .i64 (-1)) ∧ w' = w) :
    Calls Try.prog 13 #[.pointer (some ⟨r, 0, none⟩), .int .i64 g, .int .u64 k] w fun e w' => e = .returned (.bool false) ∧ w' = w := by
  clear h
  go_enter Try.func13, Try.ntmps13
  go_wp2_with fail
  refine C.mono ?_
  rintro e w1 ⟨rfl, rfl⟩
  go_wp2_with fail
  go_ret
  exact ⟨rfl, rfl⟩

/-- the two appends of Drop -/
theorem drop_runs {B r room : Nat} {is : List It} {w : World} {gg o c i : Nat} (h : RC B w r room (.slice (some ⟨gg, o * 3, none⟩) is.length c) is) (hBw : B ≤ w.heap.size) (hi : i < is.length) (hrow : Row w gg o c is.length (fun i => is.getD i i0)) :
    ∃ v1 w1 v2 w2, (Builtin.append_ #[41, 41] 41 #[.slice (some ⟨w.heap.size, 0, none⟩) 0 0, .slice (some ⟨gg, o * 3, none⟩) i c]).run Try.prog (w.drew.alloc (.cells #[] 74)) = .ok v1 w1 ∧
      (Builtin.append_ #[41, 41] 41 #[v1, .slice (some (if c = i + 1 then ⟨gg, o * 3, none⟩ else ⟨gg, o * 3 + (i + 1) * 3, none⟩)) (is.length - (i + 1)) (c - (i + 1))]).run Try.prog w1 = .ok v2 w2 ∧
      w1.heap[r]? = w.heap[r]? ∧ w2.heap[r]? = w.heap[r]? ∧ Its w.heap.size w2 v2 (is.eraseIdx i) ∧ w.grownBy w2 none := by
  obtain ⟨inf, hinf, hz, hs, hby⟩ := info_parts74
  have hrl := h.lt
  have hlen := h.len
  have hr2 := h.room2
  have hgl := hrow.lt
  have hcap := hrow.cap
  have hcells := hrow.cells
  have h0 : (w.drew.alloc (.cells #[] 74)).ownsRow w.heap.size 74 3 (.slice (some ⟨w.heap.size, 0, none⟩) 0 0) 0 [] :=
    ⟨rfl, .inr ⟨w.heap.size, 0, #[], rfl, Nat.le_refl _, heap_alloc_at w.drew _, by omega, by unfold maxLen; omega, rfl, rfl⟩⟩
  have hl1 : ((is.take i).flatMap ic).length = i * 3 := by rw [len3]; simp; omega
  have hk0 : ∀ j, j < w.heap.size → (w.drew.alloc (.cells #[] 74)).heap[j]? = w.heap[j]? := fun j hj => heap_alloc_past w.drew _ hj
  obtain ⟨v1, w1, hrun1, hw1, hg1, _, hb1⟩ := run_append_own_at (P := Try.prog) (w.drew.alloc (.cells #[] 74)) w.heap.size 41 41 74 inf _ 3 inf.bytes Try.underlying41 hinf hz hs rfl rfl (by decide) (.slice (some ⟨w.heap.size, 0, none⟩) 0 0) 0 [] h0 ⟨gg, o * 3, none⟩ i c ((is.take i).flatMap ic) hl1
    (fun j u hu => by
      rw [add_plain]
      have := hcells 0 i (by omega) j u (by simpa using hu)
      rw [World.cell?_of_block (a := ⟨gg, o * 3 + j, none⟩) (hk0 gg hgl)]
      simpa using this) (one3 _) (by unfold maxLen; omega) (by
      have : (0 + i) * inf.bytes ≤ 100000 * 200 := Nat.mul_le_mul (by omega) hby
      omega) (by simp)
  have hs1 : w.heap.size + 1 ≤ w1.heap.size := by have := hg1.size; simp at this; omega
  have old1 : ∀ j, j < w.heap.size → w1.heap[j]? = w.heap[j]? := fun j hj => (hg1.block j (by simp; omega) (fun e => by simp [Value.ownBlock] at e; omega)).trans (hk0 j hj)
  have hl2 : ((is.drop (i + 1)).flatMap ic).length = (is.length - (i + 1)) * 3 := by rw [len3]; simp
  obtain ⟨v2, w2, hrun2, hw2, hg2, _, hb2⟩ := run_append_own_at (P := Try.prog) w1 w.heap.size 41 41 74 inf _ 3 inf.bytes Try.underlying41 hinf hz hs rfl rfl (by decide) v1 (0 + i) _ hw1 (if c = i + 1 then ⟨gg, o * 3, none⟩ else ⟨gg, o * 3 + (i + 1) * 3, none⟩) (is.length - (i + 1)) (c - (i + 1)) ((is.drop (i + 1)).flatMap ic) hl2
    (fun j u hu => by
      have hj := (List.getElem?_eq_some_iff.1 hu).1
      rw [hl2] at hj
      rw [if_neg (by omega), add_plain]
      have := hcells (i + 1) (is.length - (i + 1)) (by omega) j u (by rw [List.take_of_length_le (by simp)]; exact hu)
      rw [World.cell?_of_block (a := ⟨gg, o * 3 + (i + 1) * 3 + j, none⟩) (old1 gg hgl)]
      rw [show o * 3 + (i + 1) * 3 + j = (o + (i + 1)) * 3 + j by omega]
      exact this) (one3 _) (by unfold maxLen; omega) (by
      have : (0 + i + (is.length - (i + 1))) * inf.bytes ≤ 100000 * 200 := Nat.mul_le_mul (by omega) hby
      omega) (by omega)
  have old2 : ∀ j, j < w.heap.size → w2.heap[j]? = w.heap[j]? := fun j hj => (hg2.block j (by omega) (fun e => by
    have := (hw1.lt j e.symm).1
    omega)).trans (old1 j hj)
  have her : is.eraseIdx i = is.take i ++ is.drop (i + 1) := List.eraseIdx_eq_take_drop_succ is i
  refine ⟨v1, w1, v2, w2, hrun1, hrun2, old1 r hrl, old2 r hrl, its_of_row ?_, ⟨hg2.os.trans hg1.os, hg2.tape.trans hg1.tape, hg2.output.trans hg1.output, by have := hg2.size; omega, fun j hj _ => old2 j hj⟩⟩
  rw [her]
  have hlen2 : (is.take i ++ is.drop (i + 1)).length = 0 + i + (is.length - (i + 1)) := by simp; omega
  rw [hlen2, List.flatMap_append]
  simpa using hw2

set_option maxHeartbeats 3200000 in
theorem drop_hit (B r room : Nat) (v : Value) (is : List It) (g k : Int) (i : Nat) (hi : Hit is g k i) (w : World) (h : RC B w r room v is) (hBw : B ≤ w.heap.size)
    (C : Calls Try.prog 32 #[.pointer (some ⟨r, 0, none⟩), .int .i64 g, .int .u64 k] w fun e w' => e = .returned (.int .i64 i) ∧ w' = w) :
    Calls Try.prog 13 #[.pointer (some ⟨r, 0, none⟩), .int .i64 g, .int .u64 k] w fun e w' => e = .returned (.bool true) ∧ ∃ v', RC B w' r room v' (is.eraseIdx i) ∧ Turn w w' r v v' := by
  have c1 := h.c1
  have hrl := h.lt
  have hlen := h.len
  have hr2 := h.room2
  obtain ⟨gg, o, c, rfl, hB, hrow⟩ := row_of h hi.1
  have hcap := hrow.cap
  have hi0 := hi.1
  obtain ⟨v1, w1, v2, w2, hrun1, hrun2, hb1, hb2, hI, hg⟩ := drop_runs h hBw hi.1 hrow
  obtain ⟨a2, n2, c2, rfl, hn2⟩ := its_form hI
  have hob1 : w1.heap[r]? = some (.cells #[.int .i64 room, .slice (some ⟨gg, o * 3, none⟩) is.length c] 43 (0, 0)) := hb1.trans h.ob
  have hob2 : w2.heap[r]? = some (.cells #[.int .i64 room, .slice (some ⟨gg, o * 3, none⟩) is.length c] 43 (0, 0)) := hb2.trans h.ob
  have x1 : w1.cell? ⟨r, 1, none⟩ = some (.slice (some ⟨gg, o * 3, none⟩) is.length c) := by simp [World.cell?, hob1]
  have y1 : w2.cell? ⟨r, 1, none⟩ = some (.slice (some ⟨gg, o * 3, none⟩) is.length c) := by simp [World.cell?, hob2]
  have yf : w2.frozen? ⟨r, 1, none⟩ = false := by simp [World.frozen?, hob2]
  have xl := lt_of_heap hob1
  have yl := lt_of_heap hob2
  have gr2 : (Value.slice a2 n2 c2).ownBlock ≠ some r := fun e => by have := (hI.lt r e).1; omega
  have HF : Hid (RC B (w2.setCell ⟨r, 1, none⟩ (.slice a2 n2 c2)) r room (.slice a2 n2 c2) (is.eraseIdx i) ∧ Turn w (w2.setCell ⟨r, 1, none⟩ (.slice a2 n2 c2)) r (.slice (some ⟨gg, o * 3, none⟩) is.length c) (.slice a2 n2 c2)) := by
    have o3 : (w2.setCell ⟨r, 1, none⟩ (.slice a2 n2 c2)).heap[r]? = some (.cells #[.int .i64 room, .slice a2 n2 c2] 43 (0, 0)) ∧ w2.grownBy (w2.setCell ⟨r, 1, none⟩ (.slice a2 n2 c2)) (some r) := by
      rw [setCell_eq_setRow w2 r 1 _ 43 (0, 0) _ hob2]
      exact ⟨setRow_heap w2 r _ _ 43 _ hob2, ⟨rfl, rfl, rfl, by simp [World.setRow], fun k hk hne => setRow_other w2 r k _ (fun e => hne (by rw [e]))⟩⟩
    have hI3 : Its w.heap.size (w2.setCell ⟨r, 1, none⟩ (.slice a2 n2 c2)) (.slice a2 n2 c2) (is.eraseIdx i) := hI.keep (fun j hj => gr_keep o3.2 (hI.lt j hj).2 (fun e => gr2 (by rw [← e]; exact hj)))
    have hI4 : Its B (w2.setCell ⟨r, 1, none⟩ (.slice a2 n2 c2)) (.slice a2 n2 c2) (is.eraseIdx i) := by
      rcases hI3 with h' | ⟨g', o', c', e, hB', hr'⟩
      · exact .inl h'
      · exact .inr ⟨g', o', c', e, by omega, hr'⟩
    have hle : (is.eraseIdx i).length ≤ room := by have := List.length_eraseIdx_le is i; omega
    refine ⟨⟨o3.1, hI4, h.rB, gr2, h.room1, h.room2, hle⟩, ⟨⟨o3.2.os.trans hg.os, o3.2.tape.trans hg.tape, o3.2.output.trans hg.output, Nat.le_trans hg.size o3.2.size, fun j hj hn => ?_⟩, fun j hj => .inr (hI.lt j hj).1⟩⟩
    exact (gr_keep o3.2 (Nat.lt_of_lt_of_le hj hg.size) (fun e => hn (.inl e))).trans (hg.block j hj (by simp))
  have q1 : (i : Int) ≤ (c : Int) := by omega
  have q2 : (i : Int) + 1 ≤ (is.length : Int) := by omega
  have q3 : ¬ ((i : Int) < 0) := by omega
  have q4 : (0 : Int) ≤ (i : Int) + 1 ∧ (i : Int) + 1 ≤ (is.length : Int) := by omega
  have q5 : ((i : Int) + 1).toNat = i + 1 := by omega
  have hwr : IntKind.i64.wrap ((i : Int) + 1) = (i : Int) + 1 := by rw [IntKind.wrap_i64]; omega
  have hn1024 : is.length ≤ 1024 := by omega
  clear h hrow hI hg hob1 hob2 hb1 hb2 hn2 hi gr2
  generalize is.length = n at *
  by_cases hc : c = i + 1
  · rw [if_pos hc] at hrun2
    have hn : n = i + 1 := by omega
    subst hc hn
    simp only [Nat.sub_self] at hrun2
    have q6 : (i : Int) ≤ (i : Int) + 1 := by omega
    have q7 : (0 : Int) ≤ (i : Int) + 1 := by omega
    go_enter Try.func13, Try.ntmps13
    go_wp2_with fail
    refine C.mono ?_
    rintro e w0 ⟨rfl, rfl⟩
    clear C
    go_wp2_with fail
    go_region_law (first | (refine step_append_run rfl (.tmp 15) (.tmp 21) 41 rfl _ _ _ w1 (by rfl) (by rfl) hrun1 ?_) | (refine step_append_run rfl (.tmp 22) (.tmp 29) 41 rfl _ _ _ w2 (by rfl) (by rfl) hrun2 ?_))
    all_goals
      go_wp2_with fail
      go_ret
      exact ⟨rfl, _, HF.out⟩
  · rw [if_neg hc] at hrun2
    go_enter Try.func13, Try.ntmps13
    go_wp2_with fail
    refine C.mono ?_
    rintro e w0 ⟨rfl, rfl⟩
    clear C
    go_wp2_with fail
    go_region_law (first | (refine step_append_run rfl (.tmp 15) (.tmp 21) 41 rfl _ _ _ w1 (by rfl) (by rfl) hrun1 ?_) | (refine step_append_run rfl (.tmp 22) (.tmp 29) 41 rfl _ _ _ w2 (by rfl) (by rfl) hrun2 ?_))
    all_goals
      go_wp2_with fail
      go_ret
      exact ⟨rfl, _, HF.out⟩
end Go.Proofs.Ytgafdbamlmaifaa.R
