/-
  What Leaf, grants and Allows of package entry tell: their contracts.
-/
import Derived.Test.YtonmmfomlfbpnaaRows
import Derived.WalkKit
import Derived.ProofKit
import Derived.OpenShut
import Derived.Deep.QuietTactic
import Derived.BigQuiet
import Derived.Below
namespace Go.Proofs.Ytonmmfomlfbpnaa
open Go.RowKit
set_option linter.unusedVariables false

theorem ret_bool {a b : Bool} (h : a = b) : Ending.returned (.bool a) = .returned (.bool b) := by rw [h]
theorem bcell {B : Nat} {W w1 : World} (hb : Below B W w1) : (∀ b o, b < B → w1.cell? ⟨b, o, none⟩ = W.cell? ⟨b, o, none⟩) ∧ (∀ b o, b < B → w1.frozen? ⟨b, o, none⟩ = W.frozen? ⟨b, o, none⟩) :=
  ⟨fun b o h => hb.cell (p := ⟨b, o, none⟩) h, fun b o h => hb.frozen (p := ⟨b, o, none⟩) h⟩

/-- an entry as a value -/
def ent (v r w x u s d : Bool) (f : Int) : Value := .agg #[.bool v, .bool r, .bool w, .bool x, .bool u, .bool s, .bool d, .int .i64 f]
def leafP (v r x : Bool) : Bool := v && (r || x)
def grantP (r w x : Bool) (a : Int) : Bool := if a = 0 then x else if a = 1 then r else if a = 2 then w else false
def allowP (v r w x u : Bool) (a : Int) (k : Bool) : Bool := leafP v r x && (u == k) && grantP r w x a

theorem leaf_any (v r w x u s d : Bool) (f : Int) (W : World) :
    Calls Try.prog 5 #[ent v r w x u s d f] W fun e W' => e = .returned (.bool (leafP v r x)) ∧ Below W.heap.size W W' := by
  unfold ent
  cases v <;> cases r
  all_goals
    go_enter Try.func5, Try.ntmps5
    go_wp2
    go_ret
    exact ⟨ret_bool (by simp [leafP]), (Below.refl _ _).alloc (Nat.le_refl _) _⟩

theorem grants_any (v r w x u s d : Bool) (f a : Int) (W : World) :
    Calls Try.prog 6 #[ent v r w x u s d f, .int .i64 a] W fun e W' => e = .returned (.bool (grantP r w x a)) ∧ Below W.heap.size W W' := by
  unfold ent
  go_enter Try.func6, Try.ntmps6
  go_wp2
  all_goals
    go_ret
    refine ⟨ret_bool ?_, (Below.refl _ _).alloc (Nat.le_refl _) _⟩
    unfold grantP
    simp_all

theorem allows_any (v r w x u s d : Bool) (f a : Int) (k : Bool) (W : World) :
    Calls Try.prog 4 #[ent v r w x u s d f, .int .i64 a, .bool k] W fun e W' => e = .returned (.bool (allowP v r w x u a k)) ∧ Below W.heap.size W W' := by
  have C1 := leaf_any v r w x u s d f
  have C2 := grants_any v r w x u s d f a
  unfold allowP
  generalize leafP v r x = L at *
  generalize grantP r w x a = G at *
  unfold ent at *
  cases L
  · clear C2
    go_enter Try.func4, Try.ntmps4
    go_wp2_with fail
    refine (C1 _).mono ?_
    rintro e w1 ⟨rfl, hb1⟩
    have HB : Hid (Below W.heap.size W w1) := ((Below.refl _ _).alloc (Nat.le_refl _) _).trans (hb1.mono (by simp))
    clear hb1 C1
    go_wp2_with fail
    go_ret
    exact ⟨rfl, HB.out⟩
  · cases hk : (u == k)
    · clear C2
      go_enter Try.func4, Try.ntmps4
      go_wp2_with fail
      refine (C1 _).mono ?_
      rintro e w1 ⟨rfl, hb1⟩
      have HB : Hid (Below W.heap.size W w1) := ((Below.refl _ _).alloc (Nat.le_refl _) _).trans (hb1.mono (by simp))
      obtain ⟨hcc1, hff1⟩ := bcell hb1
      simp only [World.size_alloc] at hcc1 hff1
      clear hb1 C1
      go_wp2_with fail
      go_ret
      exact ⟨rfl, HB.out⟩
    · go_enter Try.func4, Try.ntmps4
      go_wp2_with fail
      refine (C1 _).mono ?_
      rintro e w1 ⟨rfl, hb1⟩
      have HB : Hid (Below W.heap.size W w1) := ((Below.refl _ _).alloc (Nat.le_refl _) _).trans (hb1.mono (by simp))
      have hs : W.heap.size < w1.heap.size := by have := hb1.size; simp at this; omega
      obtain ⟨hcc1, hff1⟩ := bcell hb1
      simp only [World.size_alloc] at hcc1 hff1
      clear hb1 C1
      go_wp2_with fail
      refine (C2 _).mono ?_
      rintro e w2 ⟨rfl, hb2⟩
      have HB2 : Hid (Below W.heap.size W w2) := HB.out.trans (hb2.mono (by omega))
      clear hb2 C2 HB
      go_wp2_with fail
      go_ret
      exact ⟨ret_bool (by simp), HB2.out⟩
end Go.Proofs.Ytonmmfomlfbpnaa
