/-
  What a write leaves of a register are its own bits alone: the walk of CsrMasks.
-/
import Derived.Test.YtcgopiljbodcdaaLv
import Derived.Test.YtcgopiljbodcdaaMt
namespace Go.Proofs.Ytcgopiljbodcdaa
open Go.RowKit
set_option linter.unusedVariables false
set_option maxRecDepth 20000
namespace csrMasks
/-- twelve numbers -/
def arr (W : Nat → Int) : Array Value := #[.int .u64 (W 0), .int .u64 (W 1), .int .u64 (W 2), .int .u64 (W 3), .int .u64 (W 4), .int .u64 (W 5), .int .u64 (W 6), .int .u64 (W 7), .int .u64 (W 8), .int .u64 (W 9), .int .u64 (W 10), .int .u64 (W 11)]
theorem arr_at (W : Nat → Int) (i : Nat) (h : i < 12) : (arr W)[i]? = some (.int .u64 (W i)) := by
  match i, h with
  | 0, _ | 1, _ | 2, _ | 3, _ | 4, _ | 5, _ | 6, _ | 7, _ | 8, _ | 9, _ | 10, _ | 11, _ => rfl
/-- the registers at F, the numbers at A -/
structure MS (w0 w : World) (F A : Nat) (R W : Nat → Int) : Prop where
  ff : FF w F R
  a : w.heap[A]? = some (.cells (arr W) 28 (0, 0))
  ne : A ≠ F
  hF : w0.heap.size ≤ F
  bel : Below w0.heap.size w0 w
theorem MS.grown {w0 w w' : World} {F A : Nat} {R R' W : Nat → Int} (h : MS w0 w F A R W) (hf : FF w' F R') (hg : w.grownBy w' (some F)) : MS w0 w' F A R' W :=
  ⟨hf, (gr_keep hg (lt_of_heap h.a) h.ne).trans h.a, h.ne, h.hF, h.bel.trans (gr_below hg h.hF h.bel.size)⟩
theorem MS.ca {w0 w : World} {F A : Nat} {R W : Nat → Int} (h : MS w0 w F A R W) (i : Nat) (hi : i < 12) : w.cell? ⟨A, i, none⟩ = some (.int .u64 (W i)) := by rw [cell_at h.a, arr_at W i hi]
/-- some of them set -/
def setJ (W : Nat → Int) (j : Nat) : Nat → Int := fun k => if k < j then W k else newP 3 k
set_option maxHeartbeats 3200000 in
theorem walk (n v : Int) (hn0 : -9223372036854775808 ≤ n) (hn1 : n < 9223372036854775808) (hv : U v) (W : Nat → Int) (hW : ∀ i, i < 12 → U (W i)) (w : World) :
    Calls Try.prog 5 #[.int .i64 n, .int .u64 v, .agg (arr W)] w fun e w' => e = .returned (.bool true) ∧ Below w.heap.size w w' := by
  have hb0 : Below w.heap.size w (w.alloc (.cells (arr W) 28)) := (Below.refl _ _).alloc (Nat.le_refl _) _
  have C := new_ff 3 (by decide) (by decide) (w.alloc (.cells (arr W) 28))
  have HB0 : Hid (Below w.heap.size w (w.alloc (.cells (arr W) 28))) := hb0
  clear hb0
  unfold arr at C
  go_enter Try.func5, Try.ntmps5
  unfold arr
  go_wp2_with fail
  refine C.mono ?_
  rintro e w1 ⟨F, rfl, hF, h1, hb1⟩
  have hb := HB0.out.trans (hb1.mono HB0.out.size)
  have hF' : w.heap.size < F := by simp at hF; omega
  have E0 : MS w w1 F w.heap.size (setJ W 0) W := ⟨h1.congr (fun k _ => by simp [setJ]), (hb1.block w.heap.size (by simp)).trans (heap_alloc_at w _), by omega, by omega, hb⟩
  have HE0 : Hid (MS w w1 F w.heap.size (setJ W 0) W) := E0
  have hr := tmod_rng n
  have hq := numP_eq n
  have HW : Hid (∀ i, i < 12 → U (W i)) := hW
  have HV : Hid (U v) := hv
  clear hF h1 hb1 hb E0 C HB0 hW hv
  go_wp2_with fail
  have hN := numP_lt n
  clear hr hq
  generalize numP n = N at *
  go_loopw [8] (fun i wr => ∃ j : Nat, j ≤ 12 ∧ i = .int .i64 j ∧ Hid (MS w wr F w.heap.size (setJ W j) W)) (fun i _ => 12 - (intOf i).toNat)
  case atStart => exact ⟨0, by omega, rfl, HE0⟩
  case round =>
    obtain ⟨j, hj, rfl, HE⟩ := hrel
    clear HE0
    by_cases h2 : j < 12
    · have h2' : (j : Int) < 12 := by omega
      have ca := HE.out.ca j h2
      have hA := lt_of_heap HE.out.a
      have C := set_ff F _ j h2 (W j) (HW.out j h2) wr HE.out.ff
      go_wp2_with fail
      refine C.mono ?_
      rintro e y1 ⟨rfl, hf, hg⟩
      have HE1 : Hid (MS w y1 F w.heap.size (setJ W (j + 1)) W) := HE.out.grown (hf.congr (fun k hk => by
        unfold upd setJ
        by_cases e : k = j
        · subst e; rw [if_pos rfl, if_pos (by omega)]
        · rw [if_neg e]
          by_cases e2 : k < j
          · rw [if_pos e2, if_pos (by omega)]
          · rw [if_neg e2, if_neg (by omega)])) hg
      clear hf hg C ca hA HE
      go_wp2_with fail
      go_roundw
      case rel => exact ⟨j + 1, by omega, by go_num, HE1⟩
      case measure => simp [intOf]; omega
    · obtain rfl : j = 12 := by omega
      have HE1 : Hid (MS w wr F w.heap.size W W) := HE.out.grown (HE.out.ff.congr (fun k hk => by simp [setJ, hk])) (grown_refl _ _)
      have C := write_ff F W N hN v HV.out wr HE1.out.ff
      clear HE
      go_wp2_with fail
      refine C.mono ?_
      rintro e y1 ⟨rfl, hf, hg⟩
      have HE2 : Hid (MS w y1 F w.heap.size (if leftE N = 0 then upd W N (leftP W N v) else W) W) := HE1.out.grown hf hg
      clear C HE1 hf hg
      have hnow : ∀ i, i < 12 → (i ≠ N ∨ leftE N ≠ 0) → (if leftE N = 0 then upd W N (leftP W N v) else W) i = W i := fun i hi ho => by
        by_cases e : leftE N = 0
        · rw [if_pos e]
          rcases ho with ho | ho
          · simp [upd, ho]
          · exact absurd e ho
        · rw [if_neg e]
      have HN : Hid (∀ i, i < 12 → (i ≠ N ∨ leftE N ≠ 0) → (if leftE N = 0 then upd W N (leftP W N v) else W) i = W i) := hnow
      clear hnow
      go_wp2_with fail
      go_loopw [10] (fun i wq => ∃ j : Nat, j ≤ 12 ∧ i = .int .i64 j ∧ Hid (MS w wq F w.heap.size (if leftE N = 0 then upd W N (leftP W N v) else W) W)) (fun i _ => 12 - (intOf i).toNat)
      case atStart => exact ⟨0, by omega, rfl, HE2⟩
      case round =>
        obtain ⟨j, hj, rfl, HE⟩ := hrel
        clear HE2
        by_cases h3 : j < 12
        · have h3' : (j : Int) < 12 := by omega
          have ca := HE.out.ca j h3
          have hA := lt_of_heap HE.out.a
          by_cases hjn : j = N
          · subst hjn
            by_cases he : leftE j = 0
            · go_wp2_with fail
              go_quiet (fail)
              go_wp2_with fail
              go_roundw
              case rel => exact ⟨j + 1, by omega, by go_num, HE.out.grown (HE.out.ff.keep rfl) (grown_of_below (below_drewN (Below.refl _ _) _))⟩
              case measure => simp [intOf]; omega
            · have hd : decide (leftE j = 0) = false := by simpa using he
              have hw := HN.out j h3 (.inr he)
              have C : ∀ x, FF x F (if leftE j = 0 then upd W j (leftP W j v) else W) → Calls Try.prog 12 #[.pointer (some ⟨F, 0, none⟩), .int .i64 j] x fun e w' => e = .returned (.int .u64 (W j)) ∧ w' = x := fun x hx => hw ▸ get_ff F _ j h3 x hx
              have HC : Hid (∀ x, FF x F (if leftE j = 0 then upd W j (leftP W j v) else W) → Calls Try.prog 12 #[.pointer (some ⟨F, 0, none⟩), .int .i64 j] x fun e w' => e = .returned (.int .u64 (W j)) ∧ w' = x) := C
              clear hw C
              go_wp2_with fail
              go_quiet ((go_at_call 12; refine Calls.quiet_of_same (HC.out _ (HE.out.ff.keep rfl))))
              go_wp2_with fail
              go_roundw
              case rel => exact ⟨j + 1, by omega, by go_num, HE.out.grown (HE.out.ff.keep rfl) (grown_of_below (below_drewN (Below.refl _ _) _))⟩
              case measure => simp [intOf]; omega
          · have hji : ¬ ((j : Int) = (N : Int)) := by omega
            have hd : decide ((j : Int) = (N : Int)) = false := by simpa using hji
            have hw := HN.out j h3 (.inl hjn)
            have C : ∀ x, FF x F (if leftE N = 0 then upd W N (leftP W N v) else W) → Calls Try.prog 12 #[.pointer (some ⟨F, 0, none⟩), .int .i64 j] x fun e w' => e = .returned (.int .u64 (W j)) ∧ w' = x := fun x hx => hw ▸ get_ff F _ j h3 x hx
            have HC : Hid (∀ x, FF x F (if leftE N = 0 then upd W N (leftP W N v) else W) → Calls Try.prog 12 #[.pointer (some ⟨F, 0, none⟩), .int .i64 j] x fun e w' => e = .returned (.int .u64 (W j)) ∧ w' = x) := C
            clear hw C
            go_wp2_with fail
            go_quiet ((go_at_call 12; refine Calls.quiet_of_same (HC.out _ (HE.out.ff.keep rfl))))
            go_wp2_with fail
            go_roundw
            case rel => exact ⟨j + 1, by omega, by go_num, HE.out.grown (HE.out.ff.keep rfl) (grown_of_below (below_drewN (Below.refl _ _) _))⟩
            case measure => simp [intOf]; omega
        · obtain rfl : j = 12 := by omega
          have C := get_ff F _ N hN wr HE.out.ff
          have bl := HE.out.bel
          have c2 := HE.out.ca 2 (by decide)
          have hA := lt_of_heap HE.out.a
          have ht := top_bit v HV.out.1 HV.out.2
          clear HE HN
          match N, hN with
          | 0, _ =>
            have eE : leftE 0 = 0 := rfl
            simp [leftE, leftP, upd] at C
            clear ht
            go_wp2_with fail
            refine C.mono ?_
            rintro e w9 ⟨rfl, rfl⟩
            go_wp2_with fail
            go_ret
            exact ⟨ret_bool (by simp), bl⟩
          | 1, _ =>
            have eE : leftE 1 = 0 := rfl
            simp [leftE, leftP, upd] at C
            clear ht
            go_wp2_with fail
            refine C.mono ?_
            rintro e w9 ⟨rfl, rfl⟩
            go_wp2_with fail
            go_ret
            exact ⟨ret_bool (by simp), bl⟩
          | 2, _ =>
            have eE : leftE 2 = 0 := rfl
            simp [leftE, leftP, upd] at C
            clear ht
            go_wp2_with fail
            refine C.mono ?_
            rintro e w9 ⟨rfl, rfl⟩
            go_wp2_with fail
            go_ret
            exact ⟨ret_bool (by simp), bl⟩
          | 3, _ =>
            have eE : leftE 3 = 0 := rfl
            simp [leftE, leftP, upd] at C
            clear ht
            go_wp2_with fail
            refine C.mono ?_
            rintro e w9 ⟨rfl, rfl⟩
            go_wp2_with fail
            go_ret
            exact ⟨ret_bool (by simp), bl⟩
          | 4, _ =>
            have eE : leftE 4 = 0 := rfl
            simp [leftE, leftP, upd] at C
            clear ht
            go_wp2_with fail
            refine C.mono ?_
            rintro e w9 ⟨rfl, rfl⟩
            go_wp2_with fail
            go_ret
            exact ⟨ret_bool (by simp), bl⟩
          | 5, _ =>
            have eE : leftE 5 = 0 := rfl
            simp [leftE, leftP, upd] at C
            clear ht
            go_wp2_with fail
            refine C.mono ?_
            rintro e w9 ⟨rfl, rfl⟩
            go_wp2_with fail
            go_ret
            exact ⟨ret_bool (by simp), bl⟩
          | 6, _ =>
            have eE : leftE 6 = 0 := rfl
            simp [leftE, leftP, upd] at C
            clear ht
            go_wp2_with fail
            refine C.mono ?_
            rintro e w9 ⟨rfl, rfl⟩
            go_wp2_with fail
            go_ret
            exact ⟨ret_bool (by simp), bl⟩
          | 7, _ =>
            have eE : leftE 7 = 0 := rfl
            simp [leftE, leftP, upd] at C
            clear ht
            go_wp2_with fail
            refine C.mono ?_
            rintro e w9 ⟨rfl, rfl⟩
            go_wp2_with fail
            go_ret
            exact ⟨ret_bool (by simp), bl⟩
          | 8, _ =>
            have eE : leftE 8 = 0 := rfl
            simp [leftE, leftP, upd] at C
            rcases ht with ⟨t1, t2⟩ | ⟨t1, t2⟩
            · simp [t1] at C
              go_wp2_with fail
              refine C.mono ?_
              rintro e w9 ⟨rfl, rfl⟩
              go_wp2_with fail
              go_ret
              exact ⟨ret_bool (by simp), bl⟩
            · simp [t1] at C
              go_wp2_with fail
              refine C.mono ?_
              rintro e w9 ⟨rfl, rfl⟩
              go_wp2_with fail
              all_goals
                go_ret
                exact ⟨ret_bool (by simp), bl⟩
          | 9, _ =>
            have eE : leftE 9 = 14 := rfl
            simp [leftE] at C
            clear ht
            go_wp2_with fail
            refine C.mono ?_
            rintro e w9 ⟨rfl, rfl⟩
            go_wp2_with fail
            go_ret
            exact ⟨ret_bool (by simp), bl⟩
          | 10, _ =>
            have eE : leftE 10 = 17 := rfl
            simp [leftE] at C
            clear ht
            go_wp2_with fail
            refine C.mono ?_
            rintro e w9 ⟨rfl, rfl⟩
            go_wp2_with fail
            go_ret
            exact ⟨ret_bool (by simp), bl⟩
          | 11, _ =>
            have eE : leftE 11 = 14 := rfl
            simp [leftE] at C
            clear ht
            go_wp2_with fail
            refine C.mono ?_
            rintro e w9 ⟨rfl, rfl⟩
            go_wp2_with fail
            go_ret
            exact ⟨ret_bool (by simp), bl⟩
end csrMasks
end Go.Proofs.Ytcgopiljbodcdaa
