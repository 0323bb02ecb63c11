/-
  The law EntryUnpacks: its walk.
-/
import Derived.Test.YtonmmfomlfbpnaaDoorEnt7
import Derived.Test.YtonmmfomlfbpnaaDoorEnt5
namespace Go.Proofs.YtonmmfomlfbpnaaDoor
open Go.RowKit
set_option linter.unusedVariables false

theorem unpackV_is (n : Int) : ∃ (v r w x u s d : Bool) (f : Int), unpackV n = ent v r w x u s d f := by
  unfold unpackV
  split
  · exact ⟨_, _, _, _, _, _, _, _, rfl⟩
  · exact ⟨_, _, _, _, _, _, _, _, rfl⟩
theorem splitV_is (n : Int) : ∃ (a b c : Int) (k : Bool), splitV n = .tuple #[.int .i64 a, .int .i64 b, .int .i64 c, .bool k] := by
  unfold splitV
  split
  · exact ⟨_, _, _, _, rfl⟩
  · exact ⟨_, _, _, _, rfl⟩
theorem u64_range {n : Int} (h : (Lit.int .u64 n).wf = true) : 0 ≤ n ∧ n < 18446744073709551616 := by
  have := bounds_u64 h
  omega

set_option maxHeartbeats 1600000 in
theorem unpacks_walk (n up lo : Int) (w0 : (Lit.int .u64 n).wf = true) (W : World) (hT : BT W) :
    Calls Tryd.prog 4 #[.int .u64 n, .int .i64 up, .int .i64 lo] W fun e W' => e = .returned (.bool true) ∧ Below W.heap.size W W' := by
  obtain ⟨h0, h1⟩ := u64_range w0
  have C1 := unpack_any n h0 h1
  have C2 := runpack_any n h0 h1
  have C3 := split_any n h0 h1
  have C4 := rsplit_any n h0 h1
  have C5 := join_any up lo (n % 300)
  have C6 := rjoin_any up lo (n % 300)
  have C7 := names_any
  have wn : wrap64 (n % 300) = n % 300 := IntWalk.wrap64_in _ ⟨by omega, by omega⟩
  obtain ⟨b0, b1, b2, b3, b4, b5, b6, f, eV⟩ := unpackV_is n
  obtain ⟨s0, s1, s2, s3, eS⟩ := splitV_is n
  rw [eV] at C1 C2
  rw [eS] at C3 C4
  generalize unpackE n = ue at *
  generalize joinN up lo (n % 300) = jn at *
  generalize joinE up lo (n % 300) = je at *
  clear eV eS w0
  have HT : Hid (BT W) := hT
  clear hT
  unfold ent at *
  go_enter Tryd.func4, Tryd.ntmps4
  go_wp2_with fail
  refine (C1 _ HT.out).mono ?_
  rintro e w1 ⟨rfl, hb1⟩
  have HB1 : Hid (Below W.heap.size W w1) := hb1
  have hs1 : W.heap.size ≤ w1.heap.size := hb1.size
  clear hb1 C1
  go_wp2_with fail
  refine (C2 _).mono ?_
  rintro e w2 ⟨rfl, hb2⟩
  have HB2 : Hid (Below W.heap.size W w2) := (HB1.out.alloc (by omega) _).trans (hb2.mono (by simp; omega))
  have hs2 : w1.heap.size < w2.heap.size := by have := hb2.size; simp at this; omega
  obtain ⟨hc2, hf2⟩ := bcell hb2
  simp only [World.size_alloc] at hc2 hf2
  clear hb2 C2 HB1
  go_wp2_with fail
  refine (C3 _).mono ?_
  rintro e w3 ⟨rfl, rfl⟩
  clear C3
  go_wp2_with fail
  refine (C4 _).mono ?_
  rintro e w3 ⟨rfl, rfl⟩
  clear C4
  go_wp2_with fail
  refine (C5 _).mono ?_
  rintro e w3 ⟨rfl, rfl⟩
  clear C5
  go_wp2_with fail
  refine (C6 _).mono ?_
  rintro e w3 ⟨rfl, rfl⟩
  clear C6
  go_wp2_with fail
  refine (C7 _).mono ?_
  rintro e w3 ⟨rfl, rfl⟩
  clear C7
  go_wp2_with fail
  go_ret
  exact ⟨rfl, HB2.out.alloc (by omega) _⟩
end Go.Proofs.YtonmmfomlfbpnaaDoor
