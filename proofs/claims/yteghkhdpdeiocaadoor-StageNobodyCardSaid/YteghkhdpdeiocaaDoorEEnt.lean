/-
  What Leaf, grants and Allows of package entry tell: their contracts.
-/
import Derived.Test.YteghkhdpdeiocaaDoorWalks6
import Derived.WalkKit
import Derived.ProofKit
import Derived.OpenShut
import Derived.Deep.QuietTactic
import Derived.BigQuiet
import Derived.Below
import Derived.Test.YteghkhdpdeiocaaDoorEEntMath
namespace Go.Proofs.YteghkhdpdeiocaaDoor.E
open Go.RowKit
set_option linter.unusedVariables false
set_option maxRecDepth 100000

/-- an entry as a value -/
def ent (v r w x u s d : Bool) (f : Int) : Value := .agg #[.bool v, .bool r, .bool w, .bool x, .bool u, .bool s, .bool d, .int .i64 f]
theorem leaf_any (v r w x u s d : Bool) (f : Int) (W : World) :
    Calls Tryd.prog 77 #[ent v r w x u s d f] W fun e W' => e = .returned (.bool (leafP v r x)) ∧ Below W.heap.size W W' := by
  unfold ent
  cases v <;> cases r
  all_goals
    go_enter Tryd.func77, Tryd.ntmps77
    go_wp2
    go_ret
    exact ⟨ret_bool (by simp [leafP]), (Below.refl _ _).alloc (Nat.le_refl _) _⟩

theorem grants_any (v r w x u s d : Bool) (f a : Int) (W : World) :
    Calls Tryd.prog 92 #[ent v r w x u s d f, .int .i64 a] W fun e W' => e = .returned (.bool (grantP r w x a)) ∧ Below W.heap.size W W' := by
  unfold ent
  go_enter Tryd.func92, Tryd.ntmps92
  go_wp2
  all_goals
    go_ret
    refine ⟨ret_bool ?_, (Below.refl _ _).alloc (Nat.le_refl _) _⟩
    unfold grantP
    simp_all

theorem allows_any (v r w x u s d : Bool) (f a : Int) (k : Bool) (W : World) :
    Calls Tryd.prog 78 #[ent v r w x u s d f, .int .i64 a, .bool k] W fun e W' => e = .returned (.bool (allowP v r w x u a k)) ∧ Below W.heap.size W W' := by
  have C1 := leaf_any v r w x u s d f
  have C2 := grants_any v r w x u s d f a
  unfold allowP
  generalize leafP v r x = L at *
  generalize grantP r w x a = G at *
  unfold ent at *
  cases L
  · clear C2
    go_enter Tryd.func78, Tryd.ntmps78
    go_wp2_with fail
    refine (C1 _).mono ?_
    rintro e w1 ⟨rfl, hb1⟩
    have HB : Hid (Below W.heap.size W w1) := ((Below.refl _ _).alloc (Nat.le_refl _) _).trans (hb1.mono (by simp))
    clear hb1 C1
    go_wp2_with fail
    go_ret
    exact ⟨rfl, HB.out⟩
  · cases hk : (u == k)
    · clear C2
      go_enter Tryd.func78, Tryd.ntmps78
      go_wp2_with fail
      refine (C1 _).mono ?_
      rintro e w1 ⟨rfl, hb1⟩
      have HB : Hid (Below W.heap.size W w1) := ((Below.refl _ _).alloc (Nat.le_refl _) _).trans (hb1.mono (by simp))
      obtain ⟨hcc1, hff1⟩ := bcell hb1
      simp only [World.size_alloc] at hcc1 hff1
      clear hb1 C1
      go_wp2_with fail
      go_ret
      exact ⟨rfl, HB.out⟩
    · go_enter Tryd.func78, Tryd.ntmps78
      go_wp2_with fail
      refine (C1 _).mono ?_
      rintro e w1 ⟨rfl, hb1⟩
      have HB : Hid (Below W.heap.size W w1) := ((Below.refl _ _).alloc (Nat.le_refl _) _).trans (hb1.mono (by simp))
      have hs : W.heap.size < w1.heap.size := by have := hb1.size; simp at this; omega
      obtain ⟨hcc1, hff1⟩ := bcell hb1
      simp only [World.size_alloc] at hcc1 hff1
      clear hb1 C1
      go_wp2_with fail
      refine (C2 _).mono ?_
      rintro e w2 ⟨rfl, hb2⟩
      have HB2 : Hid (Below W.heap.size W w2) := HB.out.trans (hb2.mono (by omega))
      clear hb2 C2 HB
      go_wp2_with fail
      go_ret
      exact ⟨ret_bool (by simp), HB2.out⟩

theorem below_any (n m : Int) (W : World) :
    Calls Tryd.prog 106 #[.int .i64 n, .int .i64 m] W fun e W' => e = .returned (.bool (decide (0 ≤ n ∧ n < m))) ∧ W' = W := by
  go_enter Tryd.func106, Tryd.ntmps106
  go_wp2
  all_goals
    go_ret
    refine ⟨ret_bool ?_, rfl⟩
    simp_all
    try omega

theorem table_any (f : Int) (W : World) :
    Calls Tryd.prog 107 #[.int .i64 f] W fun e W' => e = .returned (ent true false false false false false false f) ∧ Below W.heap.size W W' := by
  unfold ent
  go_enter Tryd.func107, Tryd.ntmps107
  go_wp2
  exact bodyPost_ret (v := .agg #[.bool true, .bool false, .bool false, .bool false, .bool false, .bool false, .bool false, .int .i64 f]) (by simp [results, Tryd.results107, go_sem]) rfl ⟨rfl, (Below.refl _ _).alloc (Nat.le_refl _) _⟩

theorem flags_any (v r w x u s d : Bool) (f : Int) (W : World) :
    Calls Tryd.prog 95 #[ent v r w x u s d f] W fun e W' => e = .returned (.agg #[.bool v, .bool r, .bool w, .bool x, .bool u, .bool s, .bool d]) ∧ Below W.heap.size W W' := by
  unfold ent
  go_enter Tryd.func95, Tryd.ntmps95
  go_wp2
  exact bodyPost_ret (v := .agg #[.bool v, .bool r, .bool w, .bool x, .bool u, .bool s, .bool d]) (by simp [results, Tryd.results95, go_sem]) rfl ⟨rfl, ((Below.refl _ _).alloc (Nat.le_refl _) _).alloc (by simp) _⟩
end Go.Proofs.YteghkhdpdeiocaaDoor.E
