/-
  New: the program's, and the document's.
-/
import Derived.Test.YtncjhdhfhojohaaRf
namespace Go.Proofs.Ytncjhdhfhojohaa
open Go.RowKit
set_option linter.unusedVariables false
set_option maxRecDepth 100000
/-- a controller whose first j sources are made -/
def nz (n j : Nat) : Z := ⟨n, fun _ => false, fun s => if s < j then -1 else 0, fun s => if s < j then 1 else 0, fun _ _ => false, fun _ => 0, fun _ => false⟩
theorem zero50 (w : World) : (zeroValue 50).run Try.prog w = .ok (.agg ((List.range 128).map (zc (nz 0 0))).toArray) w := by kernel_rfl
theorem zero44 (w : World) : (zeroValue 44).run Try.prog w = .ok (.agg ((List.range 128).map (zc (nz 0 0))).toArray) w := by kernel_rfl
theorem zA_at (o : Nat) (h : o < 128) : (((List.range 128).map (zc (nz 0 0))).toArray)[o]? = some (zc (nz 0 0) o) := by simp [h]
theorem zc_nz (n o : Nat) (h : o < 128) : zc (nz n 0) o = if o = 0 then .int .i64 n else zc (nz 0 0) o := by
  unfold zc
  split
  · rfl
  · rfl
theorem up_const {α : Type} (v : α) (k : Nat) : up (fun _ => v) k v = fun _ => v := by funext i; unfold up; split <;> rfl
theorem up_lt {α : Type} (x y : α) (k : Nat) : up (fun s => if s < k then x else y) k x = fun s => if s < k + 1 then x else y := by
  funext i
  unfold up
  by_cases e : i = k
  · rw [if_pos e, if_pos (by omega)]
  · rw [if_neg e]
    show (if i < k then x else y) = _
    by_cases l : i < k
    · rw [if_pos l, if_pos (by omega)]
    · rw [if_neg l, if_neg (by omega)]
theorem nz_step (n j : Nat) : (((((((nz n j).setP j false).setT j (-1)).setW j 1).setE j 0 false).setE j 1 false).setE j 2 false).setE j 3 false = nz n (j + 1) := by
  unfold nz Z.setP Z.setT Z.setW Z.setE
  simp only [up_const, up_lt]
theorem rnz_step (n j : Nat) : ((nz n j).setT j (-1)).setW j 1 = nz n (j + 1) := by
  unfold nz Z.setT Z.setW
  simp only [up_lt]
theorem nz_ok (n : Nat) (h1 : 1 ≤ n) (h4 : n ≤ 4) : Ok (nz n 17) := ⟨h1, h4, rfl, fun s hs => by show -1 ≤ if s < 17 then (-1 : Int) else 0; rw [if_pos hs]; decide⟩
theorem is_new {t : Nat} {w : World} {zs : Array Value} (n : Nat) (hs : zs.size = 128) (hat : ∀ o, o < 128 → zs[o]? = some (zc (nz 0 0) o)) : IS t (w.alloc (.cells (zs.setIfInBounds 0 (.int .i64 n)) t)) w.heap.size (nz n 0) :=
  ⟨_, heap_alloc_at w _, by simpa using hs, fun o ho => by
    rw [Array.getElem?_setIfInBounds, zc_nz n o ho]
    by_cases e : o = 0
    · subst e
      rw [if_pos rfl, if_pos (by omega), if_pos rfl]
    · rw [if_neg (fun e' => e e'.symm), if_neg e]
      exact hat o ho⟩
theorem bel_trn {B k : Nat} {a b c : World} (h : Below B a b) (hB : B ≤ a.heap.size) (hk : B ≤ k) (t : Trn (fun i => i = k) b c) : Below B a c :=
  h.trans (t.below (Nat.le_trans hB h.size) fun i e => by subst e; exact hk)
set_option maxHeartbeats 6400000 in
theorem new_is (n : Nat) (h1 : 1 ≤ n) (h4 : n ≤ 4) (w : World) : Calls Try.prog 7 #[.int .i64 n] w fun e w' => e = .returned (.tuple #[.pointer (some ⟨w.heap.size, 0, none⟩), .int .i64 0]) ∧ IS 50 w' w.heap.size (nz n 17) ∧ Below w.heap.size w w' := by
  have i1 : (1 : Int) ≤ n := by omega
  have i4 : (n : Int) ≤ 4 := by omega
  obtain ⟨zs, hz, hs, hne, hat⟩ : ∃ zs : Array Value, (∀ w, (zeroValue 50).run Try.prog w = .ok (.agg zs) w) ∧ zs.size = 128 ∧ ¬ zs = #[] ∧ ∀ o, o < 128 → zs[o]? = some (zc (nz 0 0) o) := ⟨_, zero50, by simp, by simp, zA_at⟩
  have H0 : Hid (Below w.heap.size w (w.alloc (.cells (zs.setIfInBounds 0 (.int .i64 n)) 50)) ∧ IS 50 (w.alloc (.cells (zs.setIfInBounds 0 (.int .i64 n)) 50)) w.heap.size (nz n 0)) := ⟨below_box w _, is_new n hs hat⟩
  clear hat h1 h4
  go_enter Try.func7, Try.ntmps7
  go_wp2_with fail
  generalize w.alloc (.cells (zs.setIfInBounds 0 (.int .i64 n)) 50) = y at *
  go_loopw [15] (fun q wr => ∃ j : Nat, j ≤ 17 ∧ q = .int .i64 j ∧ Hid (Below w.heap.size w wr ∧ IS 50 wr w.heap.size (nz n j))) (fun q _ => 17 - (intOf q).toNat)
  case atStart => exact ⟨0, by omega, rfl, H0.out⟩
  case round =>
    obtain ⟨j, hj, rfl, HJ⟩ := hrel
    clear H0
    by_cases hjn : j < 17
    · have hjn' : (j : Int) < 17 := by omega
      have c0 := HJ.out.2.cP j hjn
      have c1 := HJ.out.2.cT j hjn
      have c2 := HJ.out.2.cW j hjn
      have c3 := HJ.out.2.cE j 0 hjn (by decide)
      have c4 := HJ.out.2.cE j 1 hjn (by decide)
      have c5 := HJ.out.2.cE j 2 hjn (by decide)
      have c6 := HJ.out.2.cE j 3 hjn (by decide)
      have f0 := HJ.out.2.f (1 + j * 7)
      have f1 := HJ.out.2.f (1 + j * 7 + 1)
      have f2 := HJ.out.2.f (1 + j * 7 + 2)
      have f3 := HJ.out.2.f (1 + j * 7 + 3)
      have f4 := HJ.out.2.f (1 + j * 7 + 4)
      have f5 := HJ.out.2.f (1 + j * 7 + 5)
      have f6 := HJ.out.2.f (1 + j * 7 + 6)
      have hl := HJ.out.2.lt
      have HN : Hid (Below w.heap.size w (((((((wr.setCell ⟨w.heap.size, 1 + j * 7, none⟩ (.bool false)).setCell ⟨w.heap.size, 1 + j * 7 + 1, none⟩ (.int .i64 (-1))).setCell ⟨w.heap.size, 1 + j * 7 + 2, none⟩ (.int .i64 1)).setCell ⟨w.heap.size, 1 + j * 7 + 3, none⟩ (.bool false)).setCell ⟨w.heap.size, 1 + j * 7 + 4, none⟩ (.bool false)).setCell ⟨w.heap.size, 1 + j * 7 + 5, none⟩ (.bool false)).setCell ⟨w.heap.size, 1 + j * 7 + 6, none⟩ (.bool false)) ∧ IS 50 (((((((wr.setCell ⟨w.heap.size, 1 + j * 7, none⟩ (.bool false)).setCell ⟨w.heap.size, 1 + j * 7 + 1, none⟩ (.int .i64 (-1))).setCell ⟨w.heap.size, 1 + j * 7 + 2, none⟩ (.int .i64 1)).setCell ⟨w.heap.size, 1 + j * 7 + 3, none⟩ (.bool false)).setCell ⟨w.heap.size, 1 + j * 7 + 4, none⟩ (.bool false)).setCell ⟨w.heap.size, 1 + j * 7 + 5, none⟩ (.bool false)).setCell ⟨w.heap.size, 1 + j * 7 + 6, none⟩ (.bool false)) w.heap.size (nz n (j + 1))) := by
        have a0 := HJ.out.2.putP j hjn false
        have a1 := a0.1.putT j hjn (-1)
        have a2 := a1.1.putW j hjn 1
        have a3 := a2.1.putE j 0 hjn (by decide) false
        have a4 := a3.1.putE j 1 hjn (by decide) false
        have a5 := a4.1.putE j 2 hjn (by decide) false
        have a6 := a5.1.putE j 3 hjn (by decide) false
        rw [nz_step] at a6
        exact ⟨bel_trn HJ.out.1 (Nat.le_refl _) (Nat.le_refl _) ((((((a0.2.trans a1.2).trans a2.2).trans a3.2).trans a4.2).trans a5.2).trans a6.2), a6.1⟩
      go_wp2_with fail
      go_roundw
      case rel => exact ⟨j + 1, by omega, by go_num, HN.out⟩
      case measure => simp [intOf]; omega
    · obtain rfl : j = 17 := by omega
      go_wp2_with fail
      go_ret2
      exact ⟨rfl, HJ.out.2, HJ.out.1⟩
theorem new_no (n : Int) (h : ¬ (1 ≤ n ∧ n ≤ 4)) (w : World) : Calls Try.prog 7 #[.int .i64 n] w fun e w' => e = .returned (.tuple #[.pointer none, .int .i64 2]) ∧ w' = w := by
  by_cases h1 : n < 1
  · clear h
    go_enter Try.func7, Try.ntmps7
    go_wp2_with fail
    go_ret2
    exact ⟨rfl, rfl⟩
  · have h4 : 4 < n := by omega
    clear h
    go_enter Try.func7, Try.ntmps7
    go_wp2_with fail
    go_ret2
    exact ⟨rfl, rfl⟩
set_option maxHeartbeats 6400000 in
theorem rnew_is (n : Nat) (h1 : 1 ≤ n) (h4 : n ≤ 4) (w : World) : Calls Try.prog 8 #[.int .i64 n] w fun e w' => e = .returned (.tuple #[.pointer (some ⟨w.heap.size, 0, none⟩), .int .i64 0]) ∧ IS 44 w' w.heap.size (nz n 17) ∧ Below w.heap.size w w' := by
  have i1 : (1 : Int) ≤ n := by omega
  have i4 : (n : Int) ≤ 4 := by omega
  obtain ⟨zs, hz, hs, hne, hat⟩ : ∃ zs : Array Value, (∀ w, (zeroValue 44).run Try.prog w = .ok (.agg zs) w) ∧ zs.size = 128 ∧ ¬ zs = #[] ∧ ∀ o, o < 128 → zs[o]? = some (zc (nz 0 0) o) := ⟨_, zero44, by simp, by simp, zA_at⟩
  have H0 : Hid (Below w.heap.size w (w.alloc (.cells (zs.setIfInBounds 0 (.int .i64 n)) 44)) ∧ IS 44 (w.alloc (.cells (zs.setIfInBounds 0 (.int .i64 n)) 44)) w.heap.size (nz n 0)) := ⟨below_box w _, is_new n hs hat⟩
  clear hat h1 h4
  go_enter Try.func8, Try.ntmps8
  go_wp2_with fail
  generalize w.alloc (.cells (zs.setIfInBounds 0 (.int .i64 n)) 44) = y at *
  go_loopw [5] (fun q wr => ∃ j : Nat, j ≤ 17 ∧ q = .int .i64 j ∧ Hid (Below w.heap.size w wr ∧ IS 44 wr w.heap.size (nz n j))) (fun q _ => 17 - (intOf q).toNat)
  case atStart => exact ⟨0, by omega, rfl, H0.out⟩
  case round =>
    obtain ⟨j, hj, rfl, HJ⟩ := hrel
    clear H0
    by_cases hjn : j < 17
    · have hjn' : (j : Int) < 17 := by omega
      have c1 := HJ.out.2.cT j hjn
      have c2 := HJ.out.2.cW j hjn
      have f1 := HJ.out.2.f (1 + j * 7 + 1)
      have f2 := HJ.out.2.f (1 + j * 7 + 2)
      have hl := HJ.out.2.lt
      have HN : Hid (Below w.heap.size w ((wr.setCell ⟨w.heap.size, 1 + j * 7 + 1, none⟩ (.int .i64 (-1))).setCell ⟨w.heap.size, 1 + j * 7 + 2, none⟩ (.int .i64 1)) ∧ IS 44 ((wr.setCell ⟨w.heap.size, 1 + j * 7 + 1, none⟩ (.int .i64 (-1))).setCell ⟨w.heap.size, 1 + j * 7 + 2, none⟩ (.int .i64 1)) w.heap.size (nz n (j + 1))) := by
        have a1 := HJ.out.2.putT j hjn (-1)
        have a2 := a1.1.putW j hjn 1
        rw [rnz_step] at a2
        exact ⟨bel_trn HJ.out.1 (Nat.le_refl _) (Nat.le_refl _) (a1.2.trans a2.2), a2.1⟩
      go_wp2_with fail
      go_roundw
      case rel => exact ⟨j + 1, by omega, by go_num, HN.out⟩
      case measure => simp [intOf]; omega
    · obtain rfl : j = 17 := by omega
      go_wp2_with fail
      go_ret2
      exact ⟨rfl, HJ.out.2, HJ.out.1⟩
theorem rnew_no (n : Int) (h : ¬ (1 ≤ n ∧ n ≤ 4)) (w : World) : Calls Try.prog 8 #[.int .i64 n] w fun e w' => e = .returned (.tuple #[.pointer none, .int .i64 2]) ∧ w' = w := by
  by_cases h1 : n < 1
  · clear h
    go_enter Try.func8, Try.ntmps8
    go_wp2_with fail
    go_ret2
    exact ⟨rfl, rfl⟩
  · have h4 : 4 < n := by omega
    clear h
    go_enter Try.func8, Try.ntmps8
    go_wp2_with fail
    go_ret2
    exact ⟨rfl, rfl⟩
end Go.Proofs.Ytncjhdhfhojohaa
