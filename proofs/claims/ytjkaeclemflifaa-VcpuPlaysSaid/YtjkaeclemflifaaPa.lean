/-
  The document's virtual processor: New, Set; two virtual processors beside the document's, on one machine.
-/
import Derived.Test.YtjkaeclemflifaaQt
namespace Go.Proofs.Ytjkaeclemflifaa
open Go.RowKit
set_option linter.unusedVariables false
set_option maxRecDepth 100000
/-- the document's cells -/
def rvA (g ix st co : Int) (N : Nat → Int) : Array Value := #[.int .i64 g, .int .i64 ix, .int .i64 st, .int .i64 co, .int .u64 (N 0), .int .u64 (N 1), .int .u64 (N 2), .int .u64 (N 3), .int .u64 (N 4), .int .u64 (N 5), .int .u64 (N 6), .int .u64 (N 7), .int .u64 (N 8), .int .u64 (N 9), .int .u64 (N 10), .int .u64 (N 11), .int .u64 (N 12), .int .u64 (N 13), .int .u64 (N 14), .int .u64 (N 15), .int .u64 (N 16), .int .i64 (s64 (N 17))]
/-- it in the heap -/
def RV (w : World) (Q : Nat) (g ix st co : Int) (N : Nat → Int) : Prop := w.heap[Q]? = some (.cells (rvA g ix st co N) 47 (0, 0))
section
variable {w w' : World} {Q : Nat} {g ix st co : Int} {N : Nat → Int}
theorem RV.c0 (h : RV w Q g ix st co N) : w.cell? ⟨Q, 0, none⟩ = some (.int .i64 g) := (cell_at h 0).trans rfl
theorem RV.c1 (h : RV w Q g ix st co N) : w.cell? ⟨Q, 1, none⟩ = some (.int .i64 ix) := (cell_at h 1).trans rfl
theorem RV.c2 (h : RV w Q g ix st co N) : w.cell? ⟨Q, 2, none⟩ = some (.int .i64 st) := (cell_at h 2).trans rfl
theorem RV.c3 (h : RV w Q g ix st co N) : w.cell? ⟨Q, 3, none⟩ = some (.int .i64 co) := (cell_at h 3).trans rfl
theorem RV.lt (h : RV w Q g ix st co N) : Q < w.heap.size := lt_of_heap h
theorem RV.keep (h : RV w Q g ix st co N) (hk : w'.heap[Q]? = w.heap[Q]?) : RV w' Q g ix st co N := hk.trans h
theorem RV.below (h : RV w Q g ix st co N) (hb : Below w.heap.size w w') : RV w' Q g ix st co N := h.keep (hb.block _ h.lt)
theorem RV.setS (h : RV w Q g ix st co N) (s : Int) : RV (w.setCell ⟨Q, 2, none⟩ (.int .i64 s)) Q g ix s co N ∧ Trn (fun k => k = Q) w (w.setCell ⟨Q, 2, none⟩ (.int .i64 s)) := ⟨(heap_setCell h 2 _).trans rfl, trn_set1 h 2 _⟩
theorem RV.setC (h : RV w Q g ix st co N) (s : Int) : RV (w.setCell ⟨Q, 3, none⟩ (.int .i64 s)) Q g ix st s N ∧ Trn (fun k => k = Q) w (w.setCell ⟨Q, 3, none⟩ (.int .i64 s)) := ⟨(heap_setCell h 3 _).trans rfl, trn_set1 h 3 _⟩
theorem RV.rg (h : RV w Q g ix st co N) : w.rangeAt Q 4 (upA N).toList := fun j v hv => by
  have hv' : (upA N)[j]? = some v := by simpa using hv
  have hj : j < 18 := (Array.getElem?_eq_some_iff.1 hv').1
  rw [cell_at h, ← hv']
  match j, hj with
  | 0, _ | 1, _ | 2, _ | 3, _ | 4, _ | 5, _ | 6, _ | 7, _ | 8, _ | 9, _ | 10, _ | 11, _ | 12, _ | 13, _ | 14, _ | 15, _ | 16, _ | 17, _ => rfl
  | k + 18, h => omega
theorem RV.th (h : RV w Q g ix st co N) : w.there Q 4 18 := by
  intro j hj
  refine ⟨?_, fz_at h _⟩
  rw [cell_at h]
  match j, hj with
  | 0, _ | 1, _ | 2, _ | 3, _ | 4, _ | 5, _ | 6, _ | 7, _ | 8, _ | 9, _ | 10, _ | 11, _ | 12, _ | 13, _ | 14, _ | 15, _ | 16, _ | 17, _ => rfl
  | k + 18, h => omega
/-- other registers, as they came, then what may be set of them -/
theorem RV.wr (h : RV w Q g ix st co N) (N' : Nat → Int) : RV (w.setCells Q 4 (upA N').toList) Q g ix st co N' ∧ Trn (fun k => k = Q) w (w.setCells Q 4 (upA N').toList) := by
  obtain ⟨ds, hd, hz, hi, hg⟩ := setCells_heap Q 47 (upA N').toList 4 w _ h (show 4 + 18 ≤ 22 by decide)
  have he : ds = rvA g ix st co N' := by
    apply Array.ext_getElem?
    intro i
    rw [hi i]
    by_cases h23 : i < 22
    · match i, h23 with
      | 0, _ | 1, _ | 2, _ | 3, _ | 4, _ | 5, _ | 6, _ | 7, _ | 8, _ | 9, _ | 10, _ | 11, _ | 12, _ | 13, _ | 14, _ | 15, _ | 16, _ | 17, _ | 18, _ | 19, _ | 20, _ | 21, _ => rfl
      | k + 22, h => omega
    · have l18 : (upA N').toList.length = 18 := rfl
      rw [if_neg (by omega), Array.getElem?_eq_none (by show 22 ≤ i; omega), Array.getElem?_eq_none (by show 22 ≤ i; omega)]
  rw [he] at hd
  exact ⟨hd, .of_grown hg rfl⟩
/-- X[0] and Mode as they may be -/
theorem s64_and {v : Int} (h : U v) : bits .and .i64 (s64 v) 1 = s64 (bits .and .u64 v 1) := by
  have e : BitVec.ofInt 64 (s64 v) = BitVec.ofInt 64 v := by
    apply BitVec.eq_of_toNat_eq
    obtain ⟨h1, h2⟩ := h
    simp only [BitVec.toNat_ofInt, s64, wrap64]
    congr 1
    omega
  have h1 : (BitVec.ofInt 64 v &&& BitVec.ofInt 64 1).toNat ≤ 1 := by
    rw [BitVec.toNat_and, show (BitVec.ofInt 64 1).toNat = 1 from rfl]
    exact Nat.and_le_right
  show IntKind.i64.wrap ((BitVec.ofInt 64 (s64 v) &&& BitVec.ofInt 64 1).toNat : Int) = wrap64 (IntKind.u64.wrap ((BitVec.ofInt 64 v &&& BitVec.ofInt 64 1).toNat : Int))
  rw [e, IntKind.wrap_i64, IntKind.wrap_u64]
  unfold wrap64
  omega
theorem RV.allow (h : RV w Q g ix st co N) (hN : W18 N) : RV ((w.setCell ⟨Q, 4, none⟩ (.int .u64 0)).setCell ⟨Q, 21, none⟩ (.int .i64 (bits .and .i64 (s64 (N 17)) 1))) Q g ix st co (al N) ∧ Trn (fun k => k = Q) w ((w.setCell ⟨Q, 4, none⟩ (.int .u64 0)).setCell ⟨Q, 21, none⟩ (.int .i64 (bits .and .i64 (s64 (N 17)) 1))) := by
  have k1 := heap_setCell h 4 (.int .u64 0)
  have k2 := heap_setCell k1 21 (.int .i64 (bits .and .i64 (s64 (N 17)) 1))
  refine ⟨?_, (trn_set1 h 4 _).trans (trn_set1 k1 21 _)⟩
  rw [s64_and (hN 17 (by decide))] at k2
  rw [s64_and (hN 17 (by decide))]
  exact k2.trans rfl
theorem rnew_no (gu ix pc : Int) (h : gu < 1 ∨ 16 < gu ∨ ix < 0 ∨ 4 ≤ ix) (w : World) : Calls Try.prog 10 #[.int .i64 gu, .int .i64 ix, .int .u64 pc] w fun e w' => e = .returned (.tuple #[.pointer none, .int .i64 2]) ∧ w' = w := by
  by_cases h1 : gu < 1
  · go_enter Try.func10, Try.ntmps10
    go_wp2_with fail
    go_ret2
    exact ⟨rfl, rfl⟩
  · by_cases h2 : 16 < gu
    · go_enter Try.func10, Try.ntmps10
      go_wp2_with fail
      go_ret2
      exact ⟨rfl, rfl⟩
    · by_cases h3 : ix < 0
      · go_enter Try.func10, Try.ntmps10
        go_wp2_with fail
        go_ret2
        exact ⟨rfl, rfl⟩
      · have h4 : 4 ≤ ix := by omega
        clear h
        go_enter Try.func10, Try.ntmps10
        go_wp2_with fail
        go_ret2
        exact ⟨rfl, rfl⟩
theorem rvA_new (gu ix pc : Int) : rvA gu ix 1 (-1) (newN pc) = #[.int .i64 gu, .int .i64 ix, .int .i64 1, .int .i64 (-1), .int .u64 0, .int .u64 0, .int .u64 0, .int .u64 0, .int .u64 0, .int .u64 0, .int .u64 0, .int .u64 0, .int .u64 0, .int .u64 0, .int .u64 0, .int .u64 0, .int .u64 0, .int .u64 0, .int .u64 0, .int .u64 0, .int .u64 pc, .int .i64 1] := by simp [rvA, newN, s64, wrap64]
theorem rnew_yes (gu ix pc : Int) (h1 : 1 ≤ gu) (h2 : gu ≤ 16) (h3 : 0 ≤ ix) (h4 : ix < 4) (w : World) : Calls Try.prog 10 #[.int .i64 gu, .int .i64 ix, .int .u64 pc] w fun e w' => ∃ Q, e = .returned (.tuple #[.pointer (some ⟨Q, 0, none⟩), .int .i64 0]) ∧ RV w' Q gu ix 1 (-1) (newN pc) ∧ w.heap.size ≤ Q ∧ Below w.heap.size w w' := by
  have HF : Hid (RV (w.alloc (.cells (rvA gu ix 1 (-1) (newN pc)) 47)) w.heap.size gu ix 1 (-1) (newN pc) ∧ w.heap.size ≤ w.heap.size ∧ Below w.heap.size w (w.alloc (.cells (rvA gu ix 1 (-1) (newN pc)) 47))) := ⟨heap_alloc_at _ _, Nat.le_refl _, below_box _ _⟩
  rw [rvA_new] at HF
  go_enter Try.func10, Try.ntmps10
  go_wp2_with fail
  refine bodyPost_ret (v := _) ?h1 rfl ⟨_, rfl, HF.out⟩
  case h1 => simp [results, Try.results10, go_sem]
/-- what Set tells, and leaves -/
def setE (k s : Int) : Int := if (k = 0 ∧ s = 1) ∨ (k = 1 ∧ s = 3) ∨ (k = 2 ∧ (s = 1 ∨ s = 3)) then 0 else 21
def setS (k s : Int) : Int := if k = 0 ∧ s = 1 then 3 else if k = 1 ∧ s = 3 then 1 else if k = 2 ∧ (s = 1 ∨ s = 3) then 4 else s
theorem rset (h : RV w Q g ix st co N) (k : Int) (hk : k = 0 ∨ k = 1 ∨ k = 2) (hs : st = 1 ∨ st = 2 ∨ st = 3 ∨ st = 4) : Calls Try.prog 13 #[.pointer (some ⟨Q, 0, none⟩), .int .i64 k] w fun e w' => e = .returned (.int .i64 (setE k st)) ∧ RV w' Q g ix (setS k st) co N ∧ Trn (fun k => k = Q) w w' := by
  have c2 := h.c2
  have hl := h.lt
  have f2 := fz_at h 2
  have HF : Hid (_) := fun s => h.setS s
  have H0 : Hid (RV w Q g ix st co N) := h
  clear h
  rcases hk with rfl | rfl | rfl <;> rcases hs with rfl | rfl | rfl | rfl
  all_goals
    go_enter Try.func13, Try.ntmps13
    go_wp2_with fail
    go_ret
    first
      | exact ⟨rfl, H0.out, .refl _ _⟩
      | exact ⟨rfl, HF.out _⟩
theorem names_any (w : World) : Calls Try.prog 11 #[] w fun e w' => e = .returned (.bool true) ∧ w' = w := by
  go_enter Try.func11, Try.ntmps11
  go_wp2_with fail
  go_ret
  exact ⟨rfl, rfl⟩
end
end Go.Proofs.Ytjkaeclemflifaa
