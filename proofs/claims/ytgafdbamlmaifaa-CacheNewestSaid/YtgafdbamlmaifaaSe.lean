/-
  A closure that is asked place by place; what slices.IndexFunc tells with it.
-/
import Derived.Test.YtgafdbamlmaifaaSc
namespace Go.Proofs.Ytgafdbamlmaifaa.S
open Go.RowKit Go.Maps
set_option linter.unusedVariables false
set_option maxRecDepth 20000

/-- what has turned between two worlds: blocks of S, and new ones -/
structure Trn (S : Nat → Prop) (w w' : World) : Prop where
  os : w'.os = w.os
  tape : w'.tape = w.tape
  output : w'.output = w.output
  size : w.heap.size ≤ w'.heap.size
  block : ∀ k, k < w.heap.size → ¬ S k → w'.heap[k]? = w.heap[k]?
theorem Trn.refl (S : Nat → Prop) (w : World) : Trn S w w := ⟨rfl, rfl, rfl, Nat.le_refl _, fun _ _ _ => rfl⟩
theorem Trn.trans {S : Nat → Prop} {a b c : World} (h : Trn S a b) (k : Trn S b c) : Trn S a c :=
  ⟨k.os.trans h.os, k.tape.trans h.tape, k.output.trans h.output, Nat.le_trans h.size k.size, fun i hi hr => (k.block i (Nat.lt_of_lt_of_le hi h.size) hr).trans (h.block i hi hr)⟩
theorem Trn.of_grown {S : Nat → Prop} {a b : World} {m : Nat} (h : a.grownBy b (some m)) (hm : S m) : Trn S a b :=
  ⟨h.os, h.tape, h.output, h.size, fun k hk hs => h.block k hk (fun e => hs (by cases e; exact hm))⟩
theorem Trn.of_below {S : Nat → Prop} {a b : World} (h : Below a.heap.size a b) : Trn S a b :=
  ⟨h.os, h.tape, h.output, h.size, fun k hk hs => h.block k hk⟩

/-- a closure that is asked place by place, G from 0 to n, and tells P of each; it may turn block m, and keeps the row g -/
structure Dels (f : FuncId) (caps : Array Value) (N0 m g n : Nat) (G : Nat → Pl) (P : Pl → Bool) (I : Nat → World → Prop) : Prop where
  enter : ∀ (args : Array Value) (w : World), (callFunc f args).run Try.prog w = .ok (.enter f args) w
  mlt : m < N0
  mg : m ≠ g
  keep : ∀ j w w', I j w → (∀ k, k < N0 → k ≠ g → w'.heap[k]? = w.heap[k]?) → I j w'
  call : ∀ j w, j < n → I j w → N0 ≤ w.heap.size → Calls Try.prog f (#[pv (G j)] ++ caps) w fun e w' => e = .returned (.bool (P (G j))) ∧ I (j + 1) w' ∧ w.grownBy w' (some m)

theorem index_nil (f : FuncId) (caps : Array Value) (w : World) :
    Calls Try.prog 57 #[.slice none 0 0, .func (.func f) #[] caps] w fun e w' => e = .returned (.int .i64 (-1)) ∧ w' = w := by
  go_enter Try.func57, Try.ntmps57
  go_wp2_with fail
  go_loopw [8] (fun i wr => i = .int .i64 0 ∧ wr = w) (fun _ _ => 0)
  case atStart => exact ⟨rfl, rfl⟩
  case round =>
    obtain ⟨rfl, rfl⟩ := hrel
    go_wp2_with fail
    go_ret
    exact ⟨rfl, rfl⟩

theorem gr_keep {w w' : World} {m : Nat} (h : w.grownBy w' (some m)) {k : Nat} (hk : k < w.heap.size) (hm : k ≠ m) : w'.heap[k]? = w.heap[k]? :=
  h.block k hk (fun e => hm (by cases e; rfl))

set_option maxHeartbeats 800000 in
theorem index_any (f : FuncId) (caps : Array Value) (N0 m g n c : Nat) (G : Nat → Pl) (P : Pl → Bool) (I : Nat → World → Prop) (w : World)
    (D : Dels f caps N0 m g n G P I) (hr : Row w g c n G) (hI : I 0 w) (hN : N0 ≤ w.heap.size) :
    Calls Try.prog 57 #[.slice (some ⟨g, 0, none⟩) n c, .func (.func f) #[] caps] w fun e w' => w.grownBy w' (some m) ∧
      ((e = .returned (.int .i64 (-1)) ∧ I n w' ∧ ∀ k, k < n → P (G k) = false) ∨ ∃ i, i < n ∧ e = .returned (.int .i64 i) ∧ I (i + 1) w' ∧ P (G i) = true ∧ ∀ k, k < i → P (G k) = false) := by
  have hcf := D.enter
  have hcap := hr.cap
  have hmx : maxLen < 9223372036854775808 := by decide
  have HD : Hid (_) := D
  have HR : Hid (Row w g c n G) := hr
  have HI : Hid (_) := hI
  clear D hr hI
  go_enter Try.func57, Try.ntmps57
  go_wp2_with fail
  go_loopw [8] (fun i wr => ∃ j : Nat, j ≤ n ∧ i = .int .i64 j ∧ Hid (I j wr ∧ w.grownBy wr (some m) ∧ (∀ k, k < j → P (G k) = false))) (fun i _ => n - (intOf i).toNat)
  case atStart => exact ⟨0, by omega, rfl, HI.out, ⟨rfl, rfl, rfl, Nat.le_refl _, fun _ _ _ => rfl⟩, fun k hk => absurd hk (by omega)⟩
  case round =>
    obtain ⟨j, hj, rfl, HJ⟩ := hrel
    by_cases hjn : j < n
    · have hjn' : (j : Int) < (n : Int) := by omega
      have hr1 : Row wr g c n G := Row.keep HR.out (gr_keep HJ.out.2.1 (Row.lt HR.out) (fun e => HD.out.mg e.symm))
      have c0 := hr1.c0 j hjn
      have c1 := hr1.c1 j hjn
      have hlt := hr1.lt
      have C := HD.out.call j wr hjn HJ.out.1 (Nat.le_trans hN HJ.out.2.1.size)
      have HR1 : Hid (Row wr g c n G) := hr1
      clear hr1
      unfold pv kv at *
      go_wp2_with fail
      refine C.mono ?_
      rintro e y1 ⟨rfl, hi1, hg1⟩
      have HG : Hid (I (j + 1) y1 ∧ w.grownBy y1 (some m)) := ⟨hi1, grown_trans HJ.out.2.1 hg1⟩
      clear hi1 hg1 C
      cases hP : P (G j)
      · go_wp2_with fail
        go_roundw
        case rel => exact ⟨j + 1, by omega, by go_num, HG.out.1, HG.out.2, fun k hk => by
          rcases Nat.lt_succ_iff_lt_or_eq.1 hk with h | rfl
          · exact HJ.out.2.2 k h
          · exact hP⟩
        case measure => simp [intOf]; omega
      · go_wp2_with fail
        go_ret
        exact ⟨HG.out.2, .inr ⟨j, hjn, rfl, HG.out.1, hP, HJ.out.2.2⟩⟩
    · obtain rfl : j = n := by omega
      go_wp2_with fail
      go_ret
      exact ⟨HJ.out.2.1, .inl ⟨rfl, HJ.out.1, HJ.out.2.2⟩⟩
end Go.Proofs.Ytgafdbamlmaifaa.S
