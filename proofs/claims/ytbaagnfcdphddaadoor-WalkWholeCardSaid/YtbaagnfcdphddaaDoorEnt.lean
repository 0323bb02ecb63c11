/-
  What Leaf, grants and Allows of package entry tell: their contracts.
-/
import Derived.Test.YtbaagnfcdphddaaDoorWalks6
import Derived.WalkKit
import Derived.ProofKit
import Derived.OpenShut
import Derived.Deep.QuietTactic
import Derived.BigQuiet
import Derived.Below
import Derived.Test.YtbaagnfcdphddaaDoorEntMath
namespace Go.Proofs.YtbaagnfcdphddaaDoor
open Go.RowKit
set_option linter.unusedVariables false

/-- an entry as a value -/
def ent (v r w x u s d : Bool) (f : Int) : Value := .agg #[.bool v, .bool r, .bool w, .bool x, .bool u, .bool s, .bool d, .int .i64 f]
theorem leaf_any (v r w x u s d : Bool) (f : Int) (W : World) :
    Calls Tryd.prog 35 #[ent v r w x u s d f] W fun e W' => e = .returned (.bool (leafP v r x)) ∧ Below W.heap.size W W' := by
  unfold ent
  cases v <;> cases r
  all_goals
    go_enter Tryd.func35, Tryd.ntmps35
    go_wp2
    go_ret
    exact ⟨ret_bool (by simp [leafP]), (Below.refl _ _).alloc (Nat.le_refl _) _⟩

theorem grants_any (v r w x u s d : Bool) (f a : Int) (W : World) :
    Calls Tryd.prog 43 #[ent v r w x u s d f, .int .i64 a] W fun e W' => e = .returned (.bool (grantP r w x a)) ∧ Below W.heap.size W W' := by
  unfold ent
  go_enter Tryd.func43, Tryd.ntmps43
  go_wp2
  all_goals
    go_ret
    refine ⟨ret_bool ?_, (Below.refl _ _).alloc (Nat.le_refl _) _⟩
    unfold grantP
    simp_all

theorem allows_any (v r w x u s d : Bool) (f a : Int) (k : Bool) (W : World) :
    Calls Tryd.prog 36 #[ent v r w x u s d f, .int .i64 a, .bool k] W fun e W' => e = .returned (.bool (allowP v r w x u a k)) ∧ Below W.heap.size W W' := by
  have C1 := leaf_any v r w x u s d f
  have C2 := grants_any v r w x u s d f a
  unfold allowP
  generalize leafP v r x = L at *
  generalize grantP r w x a = G at *
  unfold ent at *
  cases L
  · clear C2
    go_enter Tryd.func36, Tryd.ntmps36
    go_wp2_with fail
    refine (C1 _).mono ?_
    rintro e w1 ⟨rfl, hb1⟩
    have HB : Hid (Below W.heap.size W w1) := ((Below.refl _ _).alloc (Nat.le_refl _) _).trans (hb1.mono (by simp))
    clear hb1 C1
    go_wp2_with fail
    go_ret
    exact ⟨rfl, HB.out⟩
  · cases hk : (u == k)
    · clear C2
      go_enter Tryd.func36, Tryd.ntmps36
      go_wp2_with fail
      refine (C1 _).mono ?_
      rintro e w1 ⟨rfl, hb1⟩
      have HB : Hid (Below W.heap.size W w1) := ((Below.refl _ _).alloc (Nat.le_refl _) _).trans (hb1.mono (by simp))
      obtain ⟨hcc1, hff1⟩ := bcell hb1
      simp only [World.size_alloc] at hcc1 hff1
      clear hb1 C1
      go_wp2_with fail
      go_ret
      exact ⟨rfl, HB.out⟩
    · go_enter Tryd.func36, Tryd.ntmps36
      go_wp2_with fail
      refine (C1 _).mono ?_
      rintro e w1 ⟨rfl, hb1⟩
      have HB : Hid (Below W.heap.size W w1) := ((Below.refl _ _).alloc (Nat.le_refl _) _).trans (hb1.mono (by simp))
      have hs : W.heap.size < w1.heap.size := by have := hb1.size; simp at this; omega
      obtain ⟨hcc1, hff1⟩ := bcell hb1
      simp only [World.size_alloc] at hcc1 hff1
      clear hb1 C1
      go_wp2_with fail
      refine (C2 _).mono ?_
      rintro e w2 ⟨rfl, hb2⟩
      have HB2 : Hid (Below W.heap.size W w2) := HB.out.trans (hb2.mono (by omega))
      clear hb2 C2 HB
      go_wp2_with fail
      go_ret
      exact ⟨ret_bool (by simp), HB2.out⟩

theorem below_any (n m : Int) (W : World) :
    Calls Tryd.prog 18 #[.int .i64 n, .int .i64 m] W fun e W' => e = .returned (.bool (decide (0 ≤ n ∧ n < m))) ∧ W' = W := by
  go_enter Tryd.func18, Tryd.ntmps18
  go_wp2
  all_goals
    go_ret
    refine ⟨ret_bool ?_, rfl⟩
    simp_all
    try omega

theorem table_any (f : Int) (W : World) :
    Calls Tryd.prog 53 #[.int .i64 f] W fun e W' => e = .returned (ent true false false false false false false f) ∧ Below W.heap.size W W' := by
  unfold ent
  go_enter Tryd.func53, Tryd.ntmps53
  go_wp2
  exact bodyPost_ret (v := .agg #[.bool true, .bool false, .bool false, .bool false, .bool false, .bool false, .bool false, .int .i64 f]) (by simp [results, Tryd.results53, go_sem]) rfl ⟨rfl, (Below.refl _ _).alloc (Nat.le_refl _) _⟩

theorem bit_any (b : Bool) (n : Int) (h0 : 0 ≤ n) (h1 : n < 7) (W : World) :
    Calls Tryd.prog 24 #[.bool b, .int .i64 n] W fun e W' => e = .returned (.int .u64 (b2 b * 2 ^ n.toNat)) ∧ W' = W := by
  cases b
  · go_enter Tryd.func24, Tryd.ntmps24
    go_wp2
    go_ret
    exact ⟨by simp [b2], rfl⟩
  · obtain rfl | rfl | rfl | rfl | rfl | rfl | rfl : n = 0 ∨ n = 1 ∨ n = 2 ∨ n = 3 ∨ n = 4 ∨ n = 5 ∨ n = 6 := by omega
    all_goals
      go_enter Tryd.func24, Tryd.ntmps24
      go_wp2
      go_ret
      exact ⟨rfl, rfl⟩

theorem flags_any (v r w x u s d : Bool) (f : Int) (W : World) :
    Calls Tryd.prog 51 #[ent v r w x u s d f] W fun e W' => e = .returned (.agg #[.bool v, .bool r, .bool w, .bool x, .bool u, .bool s, .bool d]) ∧ Below W.heap.size W W' := by
  unfold ent
  go_enter Tryd.func51, Tryd.ntmps51
  go_wp2
  exact bodyPost_ret (v := .agg #[.bool v, .bool r, .bool w, .bool x, .bool u, .bool s, .bool d]) (by simp [results, Tryd.results51, go_sem]) rfl ⟨rfl, ((Below.refl _ _).alloc (Nat.le_refl _) _).alloc (by simp) _⟩
end Go.Proofs.YtbaagnfcdphddaaDoor
