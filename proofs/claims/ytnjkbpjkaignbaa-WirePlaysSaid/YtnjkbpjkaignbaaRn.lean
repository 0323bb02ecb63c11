/-
  What the document's New does.
-/
import Derived.Test.YtnjkbpjkaignbaaRe
import Derived.Test.YtnjkbpjkaignbaaNw
namespace Go.Proofs.Ytnjkbpjkaignbaa
open Go.RowKit
set_option linter.unusedVariables false
set_option maxRecDepth 20000

theorem rnew_bad (a : Option Addr) (n c : Nat) (h : n < 1 ∨ 32 < n) (w : World) : Calls Try.prog 8 #[.slice a n c] w fun e w' => e = .returned (.tuple #[.pointer none, .int .i64 2]) ∧ w' = w := by
  rcases h with h | h
  · have h1 : (n : Int) < 1 := by omega
    go_enter Try.func8, Try.ntmps8
    go_wp2
    go_ret2
    exact ⟨rfl, rfl⟩
  · have h' : ¬ (n : Int) < 1 := by omega
    have h1 : (32 : Int) < (n : Int) := by omega
    go_enter Try.func8, Try.ntmps8
    go_wp2
    go_ret2
    exact ⟨rfl, rfl⟩
theorem info3 : ∃ i, Try.prog.info? 3 = some i ∧ i.zero = some (.int .i64 0) ∧ i.size = 1 ∧ i.bytes = 8 := by
  have h : (Try.prog.info? 3).map (fun i => (i.zero, i.size, i.bytes)) = some (some (.int .i64 0), 1, 8) := by kernel_rfl
  obtain ⟨i, hi, hb⟩ := Option.map_eq_some_iff.1 h
  simp only [Prod.mk.injEq] at hb
  exact ⟨i, hi, hb.1, hb.2.1, hb.2.2⟩
theorem info52 : ∃ i, Try.prog.info? 52 = some i ∧ i.zero = some (.slice none 0 0) ∧ i.size = 1 ∧ i.bytes = 24 := by
  have h : (Try.prog.info? 52).map (fun i => (i.zero, i.size, i.bytes)) = some (some (.slice none 0 0), 1, 24) := by kernel_rfl
  obtain ⟨i, hi, hb⟩ := Option.map_eq_some_iff.1 h
  simp only [Prod.mk.injEq] at hb
  exact ⟨i, hi, hb.1, hb.2.1, hb.2.2⟩
/-- n slices that have nothing -/
def zs52 (n : Nat) : Array Value := madeCells (Value.slice none 0 0).cells (n * 1)
theorem zs52_at (n i : Nat) (hi : i < n) : (zs52 n)[i]? = some (.slice none 0 0) := by
  have e : (Value.slice none 0 0).cells.size = 1 := rfl
  have : i < n * 1 := by omega
  simp [zs52, madeCells, e, hi, Nat.mod_one]
  rfl
theorem run_make52 (n : Nat) (hn : n ≤ 32) (w : World) : (Instr.makeSlice 53 (.int .i64 (n : Int)) (.int .i64 (n : Int))).run Try.prog w = .ok (.slice (some ⟨w.heap.size, 0, none⟩) n n) (w.alloc (.cells (zs52 n) 52)) := by
  obtain ⟨i0, hi, hz0, hz1, hz2⟩ := info52
  have hr := run_make (P := Try.prog) w 53 52 i0 (.slice none 0 0) Try.underlying53 hi hz0 .i64 .i64 n n (by omega) (Int.le_refl _) (by rw [hz2]; omega) (by omega)
  simp only [Int.toNat_natCast] at hr
  rw [hr, hz1]
  rfl
/-- a block of numbers, the first n of them these -/
def NuB (w : World) (g n : Nat) (zs : List Int) : Prop := ∃ cur : Array Value, w.heap[g]? = some (.cells cur 3 (0, 0)) ∧ n ≤ cur.size ∧ ∀ i, i < n → cur[i]? = some (.int .i64 (zs.getD i 0))
theorem NuB.keep {w w' : World} {g n : Nat} {zs : List Int} (h : NuB w g n zs) (hb : Below w.heap.size w w') : NuB w' g n zs := by
  obtain ⟨cur, h1, h2⟩ := h
  exact ⟨cur, (hb.block g (lt_of_heap h1)).trans h1, h2⟩
/-- n numbers behind nothing -/
theorem append_nums (W : World) (E : Nat) (a : Option Addr) (n c : Nat) (zs : List Int) (h1 : 1 ≤ n) (hn : n ≤ 32) (hz : Nu W a n zs) :
    ∃ g cp w', (Builtin.append_ #[22, 22] 22 #[.slice (some ⟨E, 0, none⟩) 0 0, .slice a n c]).run Try.prog W = .ok (.slice (some ⟨g, 0, none⟩) n cp) w' ∧ W.heap.size ≤ g ∧ NuB w' g n zs ∧ Below W.heap.size W w' := by
  obtain ⟨i, hi, hz0, hs, hby⟩ := info3
  rcases hz with h0 | ⟨b, off, rfl, hlt, hc⟩
  · omega
  let news := (List.range n).map fun k => Value.int .i64 (zs.getD k 0)
  have hnl : news.length = n * 1 := by simp [news]
  obtain ⟨v', w', hrun, hown, hgr⟩ := run_append_arg_grows (P := Try.prog) W 22 22 3 i _ 1 i.bytes Try.underlying22 hi hz0 hs rfl rfl (by decide) ⟨E, 0, none⟩ 0 0 [] rfl (fun j u hu => by simp at hu) ⟨b, off, none⟩ n c news hnl
    (fun j u hu => by
      have hj : j < n := by have := (List.getElem?_eq_some_iff.1 hu).1; rw [hnl] at this; omega
      rw [add_at, hc j hj]
      simp [news, List.getElem?_range hj] at hu
      rw [← hu]
      simp [List.getD]) (by omega) (by unfold maxLen; omega) (by rw [hby]; omega)
  rw [Nat.zero_add, List.nil_append] at hown
  obtain ⟨_, ⟨rfl, h0⟩ | ⟨g, cp, cur, rfl, hB, hg, q2, q3, q1, q4⟩⟩ := hown
  · omega
  refine ⟨g, cp, w', hrun, hB, ⟨cur, hg, by omega, fun k hk => ?_⟩, hgr.os, hgr.tape, hgr.output, hgr.size, fun k hk => hgr.block k hk (by simp)⟩
  have e : (cur.toList.take (n * 1))[k]? = news[k]? := by rw [q4]
  rw [List.getElem?_take_of_lt (by omega)] at e
  rw [← Array.getElem?_toList, e]
  simp [news, List.getElem?_range hk]
theorem rnew_fin {B : Nat} {u : World} {g d n cp : Nat} {zs : List Int} (h1 : 1 ≤ n) (hn : n ≤ 32) (hg : NuB u g n zs) (hd : u.heap[d]? = some (.cells (zs52 n) 52 (0, 0))) (b1 : B ≤ g) (b2 : B ≤ d) :
    RZ B (u.alloc (.cells #[.slice (some ⟨g, 0, none⟩) n cp, .slice (some ⟨d, 0, none⟩) n n] 55)) u.heap.size g d n cp (fun i => zs.getD i 0) (fun _ => []) := by
  obtain ⟨cur, g1, g2, g3⟩ := hg
  refine ⟨fun _ => .slice none 0 0, ⟨heap_alloc_at _ _, ⟨cur, (heap_alloc_past _ _ (lt_of_heap g1)).trans g1, g2, g3⟩, ⟨zs52 n, (heap_alloc_past _ _ (lt_of_heap hd)).trans hd, by simp [zs52, size_madeCells], fun i hi => zs52_at n i hi⟩, fun i hi => .inl ⟨rfl, rfl⟩, (fun i j k _ _ h => by cases h), h1, hn, fun i hi => by simp, ?_, b1, b2⟩⟩
  have := lt_of_heap g1
  omega
/-- append of these numbers to nothing, in whatever world -/
theorem step_append_nums {W : World} {ops : Array Oper} {o : Oper} {a : Act} {K : Act → World → Prop} {Q : Exit → Act → World → Prop} {E : Prop} (hgd : o.guard = none) (s x : Operand)
    (ho : o.op = .call { callee := .builtin .append, args := #[s, x], argTypes := #[22, 22] }) (hty : o.type = 22) (e : Nat) (ad : Option Addr) (n c : Nat) (hs : a.eval s = .slice (some ⟨e, 0, none⟩) 0 0) (hx : a.eval x = .slice ad n c) (zs : List Int) (h1 : 1 ≤ n) (hn : n ≤ 32) (hz : Nu W ad n zs)
    (h : ∀ g cp w', W.heap.size ≤ g → NuB w' g n zs → Below W.heap.size W w' → K (a.put o.dst (.slice (some ⟨g, 0, none⟩) n cp)) w') : if Region.wanted o (yielded ops a.tmps) = true then Oper.wp Try.prog o a W K Q else E := by
  obtain ⟨g, cp, w', hrun, hB, hnu, hbel⟩ := append_nums W e ad n c zs h1 hn hz
  exact step_append_run hgd s x 22 ho _ _ _ _ hs hx (by rw [hty]; exact hrun) (h g cp w' hB hnu hbel)
theorem bel1 (w : World) (o : Obj) : Below w.heap.size w (w.alloc o).drew := ((Below.refl _ _).alloc (Nat.le_refl _) _).drew
theorem bel2 (w : World) (o o2 : Obj) : Below w.heap.size w ((w.alloc o).alloc o2).drew := (((Below.refl _ _).alloc (Nat.le_refl _) _).alloc (by simp) _).drew
theorem bel0 (w w' : World) (o : Obj) {k : Nat} (h : Below k w w') (hk : k ≤ w'.heap.size) : Below k w (w'.alloc o) := h.alloc hk o
theorem sz1 (w : World) (o : Obj) : (w.alloc o).drew.heap.size = w.heap.size + 1 := by show (w.alloc o).heap.size = _; simp
theorem sz2 (w : World) (o o2 : Obj) : ((w.alloc o).alloc o2).drew.heap.size = w.heap.size + 2 := by show ((w.alloc o).alloc o2).heap.size = _; simp
set_option maxHeartbeats 2000000 in
theorem rnew_ok (a : Option Addr) (n c : Nat) (zs : List Int) (h1 : 1 ≤ n) (h8 : n ≤ 32) (w : World) (hz : Nu w a n zs) (B : Nat) (hB : B ≤ w.heap.size) : Calls Try.prog 8 #[.slice a n c] w fun e w' => ∃ r g d gc, e = .returned (.tuple #[.pointer (some ⟨r, 0, none⟩), .int .i64 0]) ∧ RZ B w' r g d n gc (fun i => zs.getD i 0) (fun _ => []) ∧ Below w.heap.size w w' := by
  have k1 : ¬ ((n : Int) < 1) := by omega
  have k2 : ¬ ((32 : Int) < (n : Int)) := by omega
  have hms := run_make52 n h8
  have HZ : Hid (Nu w a n zs) := hz
  clear hz
  go_enter Try.func8, Try.ntmps8
  go_wp2_with fail
  go_region_law ((refine step_append_nums (by rfl) _ _ (by rfl) (by rfl) _ a n c (by rfl) (by rfl) zs h1 h8 (HZ.out.below (by first | exact bel1 _ _ | exact bel2 _ _ _)) ?_; intro gg cp w' hle hnu hbel; (have HN : Hid (NuB w' gg n zs) := hnu); (have HB : Hid (Below _ _ w') := hbel); clear hnu hbel))
  · rw [sz1] at hle
    have b1 : Below w.heap.size w w' := (bel1 w _).trans (HB.out.mono (bel1 w _).size)
    have b2 : Below w'.heap.size w' (w'.alloc (.cells (zs52 n) 52)) := (Below.refl _ _).alloc (Nat.le_refl _) _
    have hs := b1.size
    have HF : Hid (RZ B ((w'.alloc (.cells (zs52 n) 52)).alloc (.cells #[.slice (some ⟨gg, 0, none⟩) n cp, .slice (some ⟨w'.heap.size, 0, none⟩) n n] 55)) (w'.heap.size + 1) gg w'.heap.size n cp (fun i => zs.getD i 0) (fun _ => []) ∧ Below w.heap.size w ((w'.alloc (.cells (zs52 n) 52)).alloc (.cells #[.slice (some ⟨gg, 0, none⟩) n cp, .slice (some ⟨w'.heap.size, 0, none⟩) n n] 55))) := by
      have := rnew_fin (B := B) (u := w'.alloc (.cells (zs52 n) 52)) (g := gg) (d := w'.heap.size) (cp := cp) h1 h8 (HN.out.keep b2) (heap_alloc_at _ _) (by omega) (by omega)
      exact ⟨by simpa using this, bel0 _ _ _ (bel0 _ _ _ b1 hs) (by simp; omega)⟩
    clear HN HB HZ b1 b2
    go_wp2_with fail
    go_ret2
    exact ⟨_, _, _, _, rfl, HF.out.1, HF.out.2⟩
  · rw [sz2] at hle
    have b1 : Below w.heap.size w w' := (bel2 w _ _).trans (HB.out.mono (bel2 w _ _).size)
    have hs := b1.size
    have hd : w'.heap[w.heap.size + 1]? = some (.cells (zs52 n) 52 (0, 0)) := by
      rw [HB.out.block _ (by rw [sz2]; omega)]
      show ((w.alloc (.cells #[] 3)).alloc (.cells (zs52 n) 52)).heap[w.heap.size + 1]? = _
      have := heap_alloc_at (w.alloc (.cells #[] 3)) (.cells (zs52 n) 52)
      rw [World.size_alloc] at this
      exact this
    have HF : Hid (RZ B (w'.alloc (.cells #[.slice (some ⟨gg, 0, none⟩) n cp, .slice (some ⟨w.heap.size + 1, 0, none⟩) n n] 55)) w'.heap.size gg (w.heap.size + 1) n cp (fun i => zs.getD i 0) (fun _ => []) ∧ Below w.heap.size w (w'.alloc (.cells #[.slice (some ⟨gg, 0, none⟩) n cp, .slice (some ⟨w.heap.size + 1, 0, none⟩) n n] 55))) :=
      ⟨rnew_fin h1 h8 HN.out hd (by omega) (by omega), bel0 _ _ _ b1 hs⟩
    clear HN HB HZ b1 hd
    go_wp2_with fail
    go_ret2
    exact ⟨_, _, _, _, rfl, HF.out.1, HF.out.2⟩
  · rw [sz2] at hle
    have b1 : Below w.heap.size w w' := (bel2 w _ _).trans (HB.out.mono (bel2 w _ _).size)
    have hs := b1.size
    have hd : w'.heap[w.heap.size]? = some (.cells (zs52 n) 52 (0, 0)) := by
      rw [HB.out.block _ (by rw [sz2]; omega)]
      show ((w.alloc (.cells (zs52 n) 52)).alloc (.cells #[] 3)).heap[w.heap.size]? = _
      rw [heap_alloc_past _ _ (by simp)]
      exact heap_alloc_at w _
    have HF : Hid (RZ B (w'.alloc (.cells #[.slice (some ⟨gg, 0, none⟩) n cp, .slice (some ⟨w.heap.size, 0, none⟩) n n] 55)) w'.heap.size gg w.heap.size n cp (fun i => zs.getD i 0) (fun _ => []) ∧ Below w.heap.size w (w'.alloc (.cells #[.slice (some ⟨gg, 0, none⟩) n cp, .slice (some ⟨w.heap.size, 0, none⟩) n n] 55))) :=
      ⟨rnew_fin h1 h8 HN.out hd (by omega) (by omega), bel0 _ _ _ b1 hs⟩
    clear HN HB HZ b1 hd
    go_wp2_with fail
    go_ret2
    exact ⟨_, _, _, _, rfl, HF.out.1, HF.out.2⟩
theorem names_any (w : World) : Calls Try.prog 9 #[] w fun e w' => e = .returned (.bool true) ∧ w' = w := by
  go_enter Try.func9, Try.ntmps9
  go_wp2
  go_ret
  exact ⟨rfl, rfl⟩
end Go.Proofs.Ytnjkbpjkaignbaa
