/-
  The document's cache: what its Get and Put do.
-/
import Derived.Test.YtgafdbamlmaifaaRa
namespace Go.Proofs.Ytgafdbamlmaifaa.R
open Go.RowKit
set_option linter.unusedVariables false
set_option maxRecDepth 20000

/-- what has turned between two worlds: blocks of S, and new ones -/
structure Trn (S : Nat → Prop) (w w' : World) : Prop where
  os : w'.os = w.os
  tape : w'.tape = w.tape
  output : w'.output = w.output
  size : w.heap.size ≤ w'.heap.size
  block : ∀ k, k < w.heap.size → ¬ S k → w'.heap[k]? = w.heap[k]?
theorem Trn.trans {S : Nat → Prop} {a b c : World} (h : Trn S a b) (k : Trn S b c) : Trn S a c :=
  ⟨k.os.trans h.os, k.tape.trans h.tape, k.output.trans h.output, Nat.le_trans h.size k.size, fun i hi hr => (k.block i (Nat.lt_of_lt_of_le hi h.size) hr).trans (h.block i hi hr)⟩
/-- what a call on the document's cache turns -/
structure Turn (w w' : World) (r : Nat) (v v' : Value) : Prop where
  trn : Trn (fun k => k = r ∨ v.ownBlock = some k) w w'
  own : ∀ k, v'.ownBlock = some k → v.ownBlock = some k ∨ w.heap.size ≤ k
theorem Turn.refl (w : World) (r : Nat) (v : Value) : Turn w w r v v := ⟨⟨rfl, rfl, rfl, Nat.le_refl _, fun _ _ _ => rfl⟩, fun k hk => .inl hk⟩
theorem Turn.trans {w w' w'' : World} {r : Nat} {v v' v'' : Value} (h : Turn w w' r v v') (k : Turn w' w'' r v' v'') : Turn w w'' r v v'' := by
  refine ⟨⟨k.trn.os.trans h.trn.os, k.trn.tape.trans h.trn.tape, k.trn.output.trans h.trn.output, Nat.le_trans h.trn.size k.trn.size, fun i hi hn => ?_⟩, fun i hi => ?_⟩
  · refine (k.trn.block i (Nat.lt_of_lt_of_le hi h.trn.size) (fun hs => hn ?_)).trans (h.trn.block i hi hn)
    rcases hs with hs | hs
    · exact .inl hs
    · rcases h.own i hs with h' | h'
      · exact .inr h'
      · omega
  · rcases k.own i hi with h' | h'
    · exact h.own i h'
    · exact .inr (Nat.le_trans h.trn.size h')
theorem gr_keep {w w' : World} {m : Nat} (h : w.grownBy w' (some m)) {k : Nat} (hk : k < w.heap.size) (hm : k ≠ m) : w'.heap[k]? = w.heap[k]? :=
  h.block k hk (fun e => hm (by cases e; rfl))
theorem grown_trans {a b c : World} {r : Option Nat} (h : a.grownBy b r) (k : b.grownBy c r) : a.grownBy c r :=
  ⟨k.os.trans h.os, k.tape.trans h.tape, k.output.trans h.output, Nat.le_trans h.size k.size, fun i hi hr => (k.block i (Nat.lt_of_lt_of_le hi h.size) hr).trans (h.block i hi hr)⟩

/-- a found item -/
def Hit (is : List It) (g k : Int) (i : Nat) : Prop := i < is.length ∧ (is.getD i i0).g = g ∧ (is.getD i i0).k = k
def NoHit (is : List It) (g k : Int) : Prop := ∀ j, j < is.length → ¬ ((is.getD j i0).g = g ∧ (is.getD j i0).k = k)
theorem at_hit (B r room : Nat) (v : Value) (is : List It) (g k : Int) (w : World) (h : RC B w r room v is) :
    (∃ i, Hit is g k i ∧ Calls Try.prog 32 #[.pointer (some ⟨r, 0, none⟩), .int .i64 g, .int .u64 k] w fun e w' => e = .returned (.int .i64 i) ∧ w' = w) ∨
      (NoHit is g k ∧ Calls Try.prog 32 #[.pointer (some ⟨r, 0, none⟩), .int .i64 g, .int .u64 k] w fun e w' => e = .returned (.int .i64 (-1)) ∧ w' = w) := by
  have C := at_any B r room v is g k w h
  by_cases hn : NoHit is g k
  · refine .inr ⟨hn, C.mono fun e w' ⟨hw, h'⟩ => ?_⟩
    rcases h' with ⟨he, _⟩ | ⟨i, hi, _, hh, _⟩
    · exact ⟨he, hw⟩
    · exact absurd hh (hn i hi)
  · have ⟨i, hi⟩ : ∃ i, Hit is g k i ∧ ∀ j, j < i → ¬ ((is.getD j i0).g = g ∧ (is.getD j i0).k = k) := by
      have hex : ∃ i, Hit is g k i := by
        apply Classical.byContradiction
        intro hne
        exact hn fun j hj hh => hne ⟨j, hj, hh⟩
      obtain ⟨i, hi⟩ := hex
      induction i using Nat.strongRecOn with
      | _ i ih =>
        by_cases hx : ∃ j, j < i ∧ Hit is g k j
        · obtain ⟨j, hj, hh⟩ := hx
          exact ih j hj hh
        · exact ⟨i, hi, fun j hj hh => hx ⟨j, hj, by have := hi.1; omega, hh⟩⟩
    refine .inl ⟨i, hi.1, C.mono fun e w' ⟨hw, h'⟩ => ?_⟩
    rcases h' with ⟨_, ha⟩ | ⟨i', hi', he, hh, hno⟩
    · exact absurd hi.1.2 (ha i hi.1.1)
    · rcases Nat.lt_trichotomy i i' with h1 | h1 | h1
      · exact absurd hi.1.2 (hno i h1)
      · subst h1; exact ⟨he, hw⟩
      · exact absurd hh (hi.2 i' h1)

theorem row_of {B : Nat} {w : World} {r room : Nat} {v : Value} {is : List It} (h : RC B w r room v is) {i : Nat} (hi : i < is.length) : ∃ g o c, v = .slice (some ⟨g, o * 3, none⟩) is.length c ∧ B ≤ g ∧ Row w g o c is.length (fun i => is.getD i i0) := by
  rcases h.its with ⟨_, e⟩ | h'
  · rw [e] at hi; simp at hi
  · exact h'

theorem get_any (B r room : Nat) (v : Value) (is : List It) (g k : Int) (w : World) (h : RC B w r room v is) :
    (∃ i, Hit is g k i ∧ Calls Try.prog 17 #[.pointer (some ⟨r, 0, none⟩), .int .i64 g, .int .u64 k] w fun e w' => e = .returned (.tuple #[.int .i64 (is.getD i i0).x, .bool true]) ∧ w' = w) ∨
      (NoHit is g k ∧ Calls Try.prog 17 #[.pointer (some ⟨r, 0, none⟩), .int .i64 g, .int .u64 k] w fun e w' => e = .returned (.tuple #[.int .i64 0, .bool false]) ∧ w' = w) := by
  have c1 := h.c1
  have hrl := h.lt
  have hlen := h.len
  have hr2 := h.room2
  rcases at_hit B r room v is g k w h with ⟨i, hi, C⟩ | ⟨hn, C⟩
  · refine .inl ⟨i, hi, ?_⟩
    obtain ⟨gg, o, c, rfl, hB, hrow⟩ := row_of h hi.1
    have hgl := hrow.lt
    obtain ⟨d0, d1, d2⟩ := hrow.c i hi.1
    have hi1 : (i : Int) < (is.length : Int) := by have := hi.1; omega
    have hi2 : ¬ ((i : Int) < 0) := by omega
    clear h hrow hi
    go_enter Try.func17, Try.ntmps17
    go_wp2_with fail
    refine C.mono ?_
    rintro e w1 ⟨rfl, rfl⟩
    go_wp2_with fail
    go_ret2
    exact ⟨rfl, rfl⟩
  · refine .inr ⟨hn, ?_⟩
    clear h hn
    go_enter Try.func17, Try.ntmps17
    go_wp2_with fail
    refine C.mono ?_
    rintro e w1 ⟨rfl, rfl⟩
    go_wp2_with fail
    go_ret2
    exact ⟨rfl, rfl⟩
end Go.Proofs.Ytgafdbamlmaifaa.R
