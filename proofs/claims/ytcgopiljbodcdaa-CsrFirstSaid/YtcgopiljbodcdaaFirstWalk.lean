/-
  Of the lines that are set and enabled the first in the order device, soft, timer is due: the walk of CsrFirst.
-/
import Derived.Test.YtcgopiljbodcdaaFi
import Derived.Deep.RegionWith
namespace Go.Proofs.Ytcgopiljbodcdaa
open Go.RowKit
set_option linter.unusedVariables false
set_option maxRecDepth 20000
namespace csrFirst
def regsJ (s e : Nat → Bool) (j : Nat) : Nat → Int := fun k => if k = 1 then enJ e j else if k = 2 then peJ s j else 0
structure FS (w0 w : World) (F L : Nat) (R : Nat → Int) : Prop where
  ff : FF w F R
  l : w.heap[L]? = some (.cells #[.int .i64 9, .int .i64 1, .int .i64 5] 3 (0, 0))
  ne : L ≠ F
  hF : w0.heap.size ≤ F
  bel : Below w0.heap.size w0 w
theorem FS.grown {w0 w w' : World} {F L : Nat} {R R' : Nat → Int} (h : FS w0 w F L R) (hf : FF w' F R') (hg : w.grownBy w' (some F)) : FS w0 w' F L R' :=
  ⟨hf, (gr_keep hg (lt_of_heap h.l) h.ne).trans h.l, h.ne, h.hF, h.bel.trans (gr_below hg h.hF h.bel.size)⟩
theorem FS.cs {w0 w : World} {F L : Nat} {R : Nat → Int} (h : FS w0 w F L R) : w.cell? ⟨L, 0, none⟩ = some (.int .i64 9) ∧ w.cell? ⟨L, 1, none⟩ = some (.int .i64 1) ∧ w.cell? ⟨L, 2, none⟩ = some (.int .i64 5) ∧ L < w.heap.size := by
  have := lt_of_heap h.l
  rw [cell_at h.l, cell_at h.l, cell_at h.l]
  exact ⟨rfl, rfl, rfl, this⟩

theorem regs_put (s e : Nat → Bool) (j : Nat) (v u : Bool) : ∀ n, n < 12 → (if u then upd (upd (regsJ s e j) 2 (turnP (peJ s j) (lineB j) v)) 1 (bits .or .u64 (enJ e j) (lineB j)) else upd (regsJ s e j) 2 (turnP (peJ s j) (lineB j) v)) n = regsJ (put s j v) (put e j u) (j + 1) n := by
  intro n hn
  unfold regsJ
  rw [put_en, put_pe]
  cases u
  · by_cases h1 : n = 1
    · simp [upd, h1]
    · by_cases h2 : n = 2
      · simp [upd, h2]
      · simp [upd, h1, h2]
  · by_cases h1 : n = 1
    · simp [upd, h1]
    · by_cases h2 : n = 2
      · simp [upd, h2]
      · simp [upd, h1, h2]

set_option maxHeartbeats 6400000 in
theorem walk (st en : Int) (on : Bool) (w : World) :
    Calls Try.prog 6 #[.int .i64 st, .int .i64 en, .bool on] w fun e w' => e = .returned (.bool true) ∧ Below w.heap.size w w' := by
  have C := new_ff 0 (by decide) (by decide) w
  go_enter Try.func6, Try.ntmps6
  go_wp2_with fail
  refine C.mono ?_
  rintro e w1 ⟨F, rfl, hF, h1, hb1⟩
  have hb2 : Below w1.heap.size w1 (w1.alloc (.cells #[.int .i64 9, .int .i64 1, .int .i64 5] 3)) := (Below.refl _ _).alloc (Nat.le_refl _) _
  have HE0 : Hid (∀ s e, FS w (w1.alloc (.cells #[.int .i64 9, .int .i64 1, .int .i64 5] 3)) F w1.heap.size (regsJ s e 0)) := fun s e => ⟨(h1.below hb2).congr (fun n hn => by simp [regsJ, newP, enJ, peJ]), heap_alloc_at w1 _, by have := h1.lt; omega, hF, hb1.trans (hb2.mono hb1.size)⟩
  clear h1 hb1 hb2 C
  go_wp2_with fail
  generalize w1.heap.size = L at *
  generalize w1.alloc (.cells #[.int .i64 9, .int .i64 1, .int .i64 5] 3) = y0 at *
  go_loopw [9, 10, 11] (fun x y i wr => ∃ j : Nat, j ≤ 3 ∧ i = .int .i64 j ∧ ∃ s e, x = .int .i64 (wantJ s e j) ∧ y = .bool (isJ s e j) ∧ Hid (FS w wr F L (regsJ s e j))) (fun x y i _ => 3 - (intOf i).toNat)
  case atStart => exact ⟨0, by omega, rfl, fun _ => false, fun _ => false, rfl, rfl, HE0.out _ _⟩
  case round =>
    obtain ⟨j, hj, rfl, s, e, rfl, rfl, HE⟩ := hrel
    clear HE0
    obtain ⟨c0, c1, c2, cl⟩ := HE.out.cs
    obtain rfl | rfl | rfl | rfl : j = 0 ∨ j = 1 ∨ j = 2 ∨ j = 3 := by omega
    · obtain ⟨sv, hs⟩ : ∃ sv, (bits .and .i64 st 1 == 1) = sv := ⟨_, rfl⟩
      have C := line_ff F (regsJ s e 0) 9 512 (by simp) sv wr HE.out.ff
      go_wp2_with fail
      refine C.mono ?_
      rintro ee y1 ⟨rfl, hf, hg⟩
      have HE1 : Hid (FS w y1 F L (upd (regsJ s e 0) 2 (turnP (peJ s 0) 512 sv))) := HE.out.grown hf hg
      obtain ⟨d0, d1, d2, dl⟩ := HE1.out.cs
      clear C hf hg HE c0 c1 c2 cl
      cases he : (bits .and .i64 en 1 == 1)
      · go_wp2_with fail
        go_roundw
        case rel => exact ⟨0 + 1, by omega, by go_num, put s 0 sv, put e 0 false, by rw [put_want]; simp, by rw [put_is]; simp, HE1.out.grown (HE1.out.ff.congr (regs_put s e 0 sv false)) (grown_refl _ _)⟩
        case measure => simp [intOf]
      · have C12 : ∀ x, FF x F (upd (regsJ s e 0) 2 (turnP (peJ s 0) 512 sv)) → Calls Try.prog 12 #[.pointer (some ⟨F, 0, none⟩), .int .i64 1] x fun ee w' => ee = .returned (.int .u64 (enJ e 0)) ∧ w' = x := fun x hx => get_ff F (upd (regsJ s e 0) 2 (turnP (peJ s 0) 512 sv)) 1 (by decide) x hx
        have C13 : ∀ x, FF x F (upd (regsJ s e 0) 2 (turnP (peJ s 0) 512 sv)) → Calls Try.prog 13 #[.pointer (some ⟨F, 0, none⟩), .int .i64 1, .int .u64 (bits .or .u64 (enJ e 0) 512)] x fun ee w' => ee = .returned (.int .i64 0) ∧ FF w' F (upd (upd (regsJ s e 0) 2 (turnP (peJ s 0) 512 sv)) 1 (bits .or .u64 (enJ e 0) 512)) ∧ x.grownBy w' (some F) := fun x hx => set_ff F (upd (regsJ s e 0) 2 (turnP (peJ s 0) 512 sv)) 1 (by decide) _ (bits_U _ _ _) x hx
        have H12 : Hid (∀ x, FF x F (upd (regsJ s e 0) 2 (turnP (peJ s 0) 512 sv)) → Calls Try.prog 12 #[.pointer (some ⟨F, 0, none⟩), .int .i64 1] x fun ee w' => ee = .returned (.int .u64 (enJ e 0)) ∧ w' = x) := C12
        have H13 : Hid (∀ x, FF x F (upd (regsJ s e 0) 2 (turnP (peJ s 0) 512 sv)) → Calls Try.prog 13 #[.pointer (some ⟨F, 0, none⟩), .int .i64 1, .int .u64 (bits .or .u64 (enJ e 0) 512)] x fun ee w' => ee = .returned (.int .i64 0) ∧ FF w' F (upd (upd (regsJ s e 0) 2 (turnP (peJ s 0) 512 sv)) 1 (bits .or .u64 (enJ e 0) 512)) ∧ x.grownBy w' (some F)) := C13
        clear C12 C13
        go_wp2_with fail
        go_region_with (first | (go_at_call 13; refine (H13.out y1.drew (HE1.out.ff.keep rfl)).mono ?_; rintro ee y2 ⟨rfl, hf2, hg2⟩; have HE2 : Hid (FS w y2 F L (upd (upd (regsJ s e 0) 2 (turnP (peJ s 0) 512 sv)) 1 (bits .or .u64 (enJ e 0) 512))) := HE1.out.grown hf2 ⟨hg2.os, hg2.tape, hg2.output, hg2.size, hg2.block⟩; obtain ⟨f0, f1, f2, fl⟩ := HE2.out.cs; clear hf2 hg2) | (go_at_call 12; refine (H12.out y1.drew (HE1.out.ff.keep rfl)).mono ?_; rintro ee z ⟨rfl, rfl⟩))
        all_goals
          clear H12 H13 HE1 d0 d1 d2 dl
          cases hi : isJ s e 0
          all_goals
            cases sv
            all_goals
              go_wp2_with fail
              go_roundw
              case rel => first | exact ⟨0 + 1, by omega, by go_num, put s 0 false, put e 0 true, by rw [put_want, hi]; rfl, by rw [put_is, hi]; rfl, HE2.out.grown (HE2.out.ff.congr (regs_put s e 0 false true)) (grown_refl _ _)⟩ | exact ⟨0 + 1, by omega, by go_num, put s 0 true, put e 0 true, by rw [put_want, hi]; rfl, by rw [put_is, hi]; rfl, HE2.out.grown (HE2.out.ff.congr (regs_put s e 0 true true)) (grown_refl _ _)⟩
              case measure => simp [intOf]
    · obtain ⟨sv, hs⟩ : ∃ sv, (bits .and .i64 (st / 2) 1 == 1) = sv := ⟨_, rfl⟩
      have C := line_ff F (regsJ s e 1) 1 2 (by simp) sv wr HE.out.ff
      go_wp2_with fail
      refine C.mono ?_
      rintro ee y1 ⟨rfl, hf, hg⟩
      have HE1 : Hid (FS w y1 F L (upd (regsJ s e 1) 2 (turnP (peJ s 1) 2 sv))) := HE.out.grown hf hg
      obtain ⟨d0, d1, d2, dl⟩ := HE1.out.cs
      clear C hf hg HE c0 c1 c2 cl
      cases he : (bits .and .i64 (en / 2) 1 == 1)
      · go_wp2_with fail
        go_roundw
        case rel => exact ⟨1 + 1, by omega, by go_num, put s 1 sv, put e 1 false, by rw [put_want]; simp, by rw [put_is]; simp, HE1.out.grown (HE1.out.ff.congr (regs_put s e 1 sv false)) (grown_refl _ _)⟩
        case measure => simp [intOf]
      · have C12 : ∀ x, FF x F (upd (regsJ s e 1) 2 (turnP (peJ s 1) 2 sv)) → Calls Try.prog 12 #[.pointer (some ⟨F, 0, none⟩), .int .i64 1] x fun ee w' => ee = .returned (.int .u64 (enJ e 1)) ∧ w' = x := fun x hx => get_ff F (upd (regsJ s e 1) 2 (turnP (peJ s 1) 2 sv)) 1 (by decide) x hx
        have C13 : ∀ x, FF x F (upd (regsJ s e 1) 2 (turnP (peJ s 1) 2 sv)) → Calls Try.prog 13 #[.pointer (some ⟨F, 0, none⟩), .int .i64 1, .int .u64 (bits .or .u64 (enJ e 1) 2)] x fun ee w' => ee = .returned (.int .i64 0) ∧ FF w' F (upd (upd (regsJ s e 1) 2 (turnP (peJ s 1) 2 sv)) 1 (bits .or .u64 (enJ e 1) 2)) ∧ x.grownBy w' (some F) := fun x hx => set_ff F (upd (regsJ s e 1) 2 (turnP (peJ s 1) 2 sv)) 1 (by decide) _ (bits_U _ _ _) x hx
        have H12 : Hid (∀ x, FF x F (upd (regsJ s e 1) 2 (turnP (peJ s 1) 2 sv)) → Calls Try.prog 12 #[.pointer (some ⟨F, 0, none⟩), .int .i64 1] x fun ee w' => ee = .returned (.int .u64 (enJ e 1)) ∧ w' = x) := C12
        have H13 : Hid (∀ x, FF x F (upd (regsJ s e 1) 2 (turnP (peJ s 1) 2 sv)) → Calls Try.prog 13 #[.pointer (some ⟨F, 0, none⟩), .int .i64 1, .int .u64 (bits .or .u64 (enJ e 1) 2)] x fun ee w' => ee = .returned (.int .i64 0) ∧ FF w' F (upd (upd (regsJ s e 1) 2 (turnP (peJ s 1) 2 sv)) 1 (bits .or .u64 (enJ e 1) 2)) ∧ x.grownBy w' (some F)) := C13
        clear C12 C13
        go_wp2_with fail
        go_region_with (first | (go_at_call 13; refine (H13.out y1.drew (HE1.out.ff.keep rfl)).mono ?_; rintro ee y2 ⟨rfl, hf2, hg2⟩; have HE2 : Hid (FS w y2 F L (upd (upd (regsJ s e 1) 2 (turnP (peJ s 1) 2 sv)) 1 (bits .or .u64 (enJ e 1) 2))) := HE1.out.grown hf2 ⟨hg2.os, hg2.tape, hg2.output, hg2.size, hg2.block⟩; obtain ⟨f0, f1, f2, fl⟩ := HE2.out.cs; clear hf2 hg2) | (go_at_call 12; refine (H12.out y1.drew (HE1.out.ff.keep rfl)).mono ?_; rintro ee z ⟨rfl, rfl⟩))
        all_goals
          clear H12 H13 HE1 d0 d1 d2 dl
          cases hi : isJ s e 1
          all_goals
            cases sv
            all_goals
              go_wp2_with fail
              go_roundw
              case rel => first | exact ⟨1 + 1, by omega, by go_num, put s 1 false, put e 1 true, by rw [put_want, hi]; rfl, by rw [put_is, hi]; rfl, HE2.out.grown (HE2.out.ff.congr (regs_put s e 1 false true)) (grown_refl _ _)⟩ | exact ⟨1 + 1, by omega, by go_num, put s 1 true, put e 1 true, by rw [put_want, hi]; rfl, by rw [put_is, hi]; rfl, HE2.out.grown (HE2.out.ff.congr (regs_put s e 1 true true)) (grown_refl _ _)⟩
              case measure => simp [intOf]
    · obtain ⟨sv, hs⟩ : ∃ sv, (bits .and .i64 (st / 4) 1 == 1) = sv := ⟨_, rfl⟩
      have C := line_ff F (regsJ s e 2) 5 32 (by simp) sv wr HE.out.ff
      go_wp2_with fail
      refine C.mono ?_
      rintro ee y1 ⟨rfl, hf, hg⟩
      have HE1 : Hid (FS w y1 F L (upd (regsJ s e 2) 2 (turnP (peJ s 2) 32 sv))) := HE.out.grown hf hg
      obtain ⟨d0, d1, d2, dl⟩ := HE1.out.cs
      clear C hf hg HE c0 c1 c2 cl
      cases he : (bits .and .i64 (en / 4) 1 == 1)
      · go_wp2_with fail
        go_roundw
        case rel => exact ⟨2 + 1, by omega, by go_num, put s 2 sv, put e 2 false, by rw [put_want]; simp, by rw [put_is]; simp, HE1.out.grown (HE1.out.ff.congr (regs_put s e 2 sv false)) (grown_refl _ _)⟩
        case measure => simp [intOf]
      · have C12 : ∀ x, FF x F (upd (regsJ s e 2) 2 (turnP (peJ s 2) 32 sv)) → Calls Try.prog 12 #[.pointer (some ⟨F, 0, none⟩), .int .i64 1] x fun ee w' => ee = .returned (.int .u64 (enJ e 2)) ∧ w' = x := fun x hx => get_ff F (upd (regsJ s e 2) 2 (turnP (peJ s 2) 32 sv)) 1 (by decide) x hx
        have C13 : ∀ x, FF x F (upd (regsJ s e 2) 2 (turnP (peJ s 2) 32 sv)) → Calls Try.prog 13 #[.pointer (some ⟨F, 0, none⟩), .int .i64 1, .int .u64 (bits .or .u64 (enJ e 2) 32)] x fun ee w' => ee = .returned (.int .i64 0) ∧ FF w' F (upd (upd (regsJ s e 2) 2 (turnP (peJ s 2) 32 sv)) 1 (bits .or .u64 (enJ e 2) 32)) ∧ x.grownBy w' (some F) := fun x hx => set_ff F (upd (regsJ s e 2) 2 (turnP (peJ s 2) 32 sv)) 1 (by decide) _ (bits_U _ _ _) x hx
        have H12 : Hid (∀ x, FF x F (upd (regsJ s e 2) 2 (turnP (peJ s 2) 32 sv)) → Calls Try.prog 12 #[.pointer (some ⟨F, 0, none⟩), .int .i64 1] x fun ee w' => ee = .returned (.int .u64 (enJ e 2)) ∧ w' = x) := C12
        have H13 : Hid (∀ x, FF x F (upd (regsJ s e 2) 2 (turnP (peJ s 2) 32 sv)) → Calls Try.prog 13 #[.pointer (some ⟨F, 0, none⟩), .int .i64 1, .int .u64 (bits .or .u64 (enJ e 2) 32)] x fun ee w' => ee = .returned (.int .i64 0) ∧ FF w' F (upd (upd (regsJ s e 2) 2 (turnP (peJ s 2) 32 sv)) 1 (bits .or .u64 (enJ e 2) 32)) ∧ x.grownBy w' (some F)) := C13
        clear C12 C13
        go_wp2_with fail
        go_region_with (first | (go_at_call 13; refine (H13.out y1.drew (HE1.out.ff.keep rfl)).mono ?_; rintro ee y2 ⟨rfl, hf2, hg2⟩; have HE2 : Hid (FS w y2 F L (upd (upd (regsJ s e 2) 2 (turnP (peJ s 2) 32 sv)) 1 (bits .or .u64 (enJ e 2) 32))) := HE1.out.grown hf2 ⟨hg2.os, hg2.tape, hg2.output, hg2.size, hg2.block⟩; obtain ⟨f0, f1, f2, fl⟩ := HE2.out.cs; clear hf2 hg2) | (go_at_call 12; refine (H12.out y1.drew (HE1.out.ff.keep rfl)).mono ?_; rintro ee z ⟨rfl, rfl⟩))
        all_goals
          clear H12 H13 HE1 d0 d1 d2 dl
          cases hi : isJ s e 2
          all_goals
            cases sv
            all_goals
              go_wp2_with fail
              go_roundw
              case rel => first | exact ⟨2 + 1, by omega, by go_num, put s 2 false, put e 2 true, by rw [put_want, hi]; rfl, by rw [put_is, hi]; rfl, HE2.out.grown (HE2.out.ff.congr (regs_put s e 2 false true)) (grown_refl _ _)⟩ | exact ⟨2 + 1, by omega, by go_num, put s 2 true, put e 2 true, by rw [put_want, hi]; rfl, by rw [put_is, hi]; rfl, HE2.out.grown (HE2.out.ff.congr (regs_put s e 2 true true)) (grown_refl _ _)⟩
              case measure => simp [intOf]
    · have p := first_of s e
      have q0 : dueL (waitP (regsJ s e 3)) = (wantJ s e 3, isJ s e 3) := p.1
      have q3 : (waitP (regsJ s e 3) != 0) = isJ s e 3 := p.2
      have q4 : hasP (regsJ s e 3 0) 2 = false := show hasP 0 2 = false by decide +kernel
      clear p
      generalize wantJ s e 3 = wn at *
      generalize isJ s e 3 = is at *
      generalize hR : regsJ s e 3 = R at *
      clear hR c0 c1 c2 cl
      cases on
      · have C := due_user F R wr HE.out.ff
        rw [q0] at C
        go_wp2_with fail
        refine C.mono ?_
        rintro ee y1 ⟨rfl, hb⟩
        have HE1 : Hid (FS w y1 F L R) := HE.out.grown (HE.out.ff.below hb) (grown_of_below hb)
        have D := due_off F R 1 (by decide) q4 y1 HE1.out.ff
        have E := wakes_ff F R y1 HE1.out.ff
        rw [q3] at E
        clear C hb HE q0 q3 q4
        go_wp2_with fail
        refine D.mono ?_
        rintro ee y1 ⟨rfl, rfl⟩
        cases is
        all_goals
          go_wp2_with fail
          refine E.mono ?_
          rintro ee y2 ⟨rfl, hb⟩
          have bl := HE1.out.bel.trans (hb.mono HE1.out.bel.size)
          clear E hb D HE1
          go_wp2_with fail
          go_ret
          exact ⟨ret_bool (by simp), bl⟩
      · have S := set_ff F R 0 (by decide) 2 ⟨by decide, by decide⟩ wr HE.out.ff
        go_wp2_with fail
        refine S.mono ?_
        rintro ee y0 ⟨rfl, hf, hg⟩
        have HE0 : Hid (FS w y0 F L (upd R 0 2)) := HE.out.grown hf hg
        have C := due_user F _ y0 HE0.out.ff
        rw [show waitP (upd R 0 2) = waitP R from rfl, q0] at C
        clear S hf hg HE
        go_wp2_with fail
        refine C.mono ?_
        rintro ee y1 ⟨rfl, hb⟩
        have HE1 : Hid (FS w y1 F L (upd R 0 2)) := HE0.out.grown (HE0.out.ff.below hb) (grown_of_below hb)
        have D := due_kern F (upd R 0 2) (show hasP 2 2 = true by decide +kernel) y1 HE1.out.ff
        rw [show waitP (upd R 0 2) = waitP R from rfl, q0] at D
        clear C hb HE0 q4
        go_wp2_with fail
        refine D.mono ?_
        rintro ee y2 ⟨rfl, hb⟩
        have HE2 : Hid (FS w y2 F L (upd R 0 2)) := HE1.out.grown (HE1.out.ff.below hb) (grown_of_below hb)
        have E := wakes_ff F (upd R 0 2) y2 HE2.out.ff
        rw [show waitP (upd R 0 2) = waitP R from rfl, q3] at E
        clear D hb HE1 q0 q3
        cases is
        all_goals
          go_wp2_with fail
          refine E.mono ?_
          rintro ee y3 ⟨rfl, hb⟩
          have bl := HE2.out.bel.trans (hb.mono HE2.out.bel.size)
          clear E hb HE2
          go_wp2_with fail
          go_ret
          exact ⟨ret_bool (by simp), bl⟩
end csrFirst
end Go.Proofs.Ytcgopiljbodcdaa
