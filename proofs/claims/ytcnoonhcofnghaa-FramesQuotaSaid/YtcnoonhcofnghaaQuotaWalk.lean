/-
  An owner never has more frames than it may: the walk of FramesQuota.
-/
import Derived.Test.YtcnoonhcofnghaaNw
import Derived.Test.YtcnoonhcofnghaaQu
import Derived.Test.YtcnoonhcofnghaaOpens
namespace Go.Proofs.Ytcnoonhcofnghaa
open Go.RowKit
theorem and_low (v m : Int) (k : Nat) (hk : (BitVec.ofInt 64 m).toNat = k) (hb : k < 9223372036854775808) : ∃ i : Nat, i ≤ k ∧ bits .and .i64 v m = (i : Int) := by
  refine ⟨(BitVec.ofInt 64 v &&& BitVec.ofInt 64 m).toNat, ?_, ?_⟩
  · rw [BitVec.toNat_and, hk]
    exact Nat.and_le_right
  · show IntKind.i64.wrap ((BitVec.ofInt 64 v &&& BitVec.ofInt 64 m).toNat : Int) = _
    have h : (BitVec.ofInt 64 v &&& BitVec.ofInt 64 m).toNat ≤ k := by rw [BitVec.toNat_and, hk]; exact Nat.and_le_right
    rw [IntKind.wrap_i64]
    omega
end Go.Proofs.Ytcnoonhcofnghaa
namespace Go.Proofs.Ytcnoonhcofnghaa.framesQuota
open Go.RowKit
set_option linter.unusedVariables false
set_option maxRecDepth 20000
/-- the state between two calls -/
structure QW (w wr : World) (D : Nat) (q : Int) (S : Fs) : Prop where
  fx : FX w.heap.size wr D S
  qi : QI q S
  bel : Below w.heap.size w wr
theorem QW.below {w wr w' : World} {D : Nat} {q : Int} {S : Fs} (h : QW w wr D q S) (hb : Below wr.heap.size wr w') : QW w w' D q S := ⟨h.fx.below hb, h.qi, h.bel.trans (hb.mono h.bel.size)⟩
theorem QW.to {w wr w' : World} {D : Nat} {q : Int} {S S' : Fs} (h : QW w wr D q S) (hf : FX w.heap.size w' D S') (ht : Tu Of w.heap.size wr w') (hq : QI q S') : QW w w' D q S' := ⟨hf, hq, h.bel.trans (ht.below h.bel.size)⟩
theorem QW.cnt {w wr : World} {D : Nat} {q : Int} {S : Fs} (h : QW w wr D q S) : Calls Try.prog 12 #[.pointer (some ⟨D, 0, none⟩), .int .i64 2] wr fun e w' => e = .returned (.tuple #[.int .i64 (S.ct 2), .int .i64 (S.ct 17)]) ∧ Below wr.heap.size wr w' := by
  obtain ⟨r, C, s, hf⟩ := h.fx
  have := count_fr hf 2
  rwa [show own S 2 = S.ct 2 from rfl] at this
theorem QW.al {w wr : World} {D : Nat} {q : Int} {S : Fs} (h : QW w wr D q S) (a : Nat) (x : Int) (hx : x = a) : Calls Try.prog 16 #[.pointer (some ⟨D, 0, none⟩), .int .i64 x] wr fun e w' => e = .returned (.tuple #[.int .i64 (alR S x), .int .i64 (alE S x)]) ∧ QW w w' D q (alS S x) := by
  subst hx
  exact (alloc_fx h.fx h.bel.size a).mono fun e w' ⟨he, hf, ht⟩ => ⟨he, h.to hf ht (h.qi.al a)⟩
theorem QW.fr {w wr : World} {D : Nat} {q : Int} {S : Fs} (h : QW w wr D q S) (f : Int) : Calls Try.prog 17 #[.pointer (some ⟨D, 0, none⟩), .int .i64 f, .int .i64 2] wr fun e w' => e = .returned (.tuple #[.bool (frB S f 2), .int .i64 (errL S f 2 2)]) ∧ QW w w' D q (frS S f 2) :=
  (free_fx h.fx f 2).mono fun e w' ⟨he, hf, ht⟩ => ⟨he, h.to hf ht (h.qi.fr f 2)⟩
theorem QW.mo {w wr : World} {D : Nat} {q : Int} {S : Fs} (h : QW w wr D q S) (f : Int) : Calls Try.prog 19 #[.pointer (some ⟨D, 0, none⟩), .int .i64 f, .int .i64 1, .int .i64 2] wr fun e w' => e = .returned (.int .i64 (moE S f 1 2)) ∧ QW w w' D q (moS S f 1 2) :=
  (move_fx h.fx h.bel.size f 1 2).mono fun e w' ⟨he, hf, ht⟩ => ⟨he, h.to hf ht (h.qi.mo f 1 (by decide))⟩
set_option maxHeartbeats 1600000 in
theorem walk (q : Int) (ad : Option Addr) (len cap : Nat) (w : World) (hK : ActsIn w ad len) (hn : len < 9223372036854775808) :
    Calls Try.prog 6 #[.int .i64 q, .slice ad len cap] w fun e w' => e = .returned (.bool true) ∧ Below w.heap.size w w' := by
  have HK : Hid (ActsIn w ad len) := hK
  have C1 := new_yes 12 1 w (by omega) (by omega) (by omega)
  obtain ⟨p, hp, hpe⟩ := and_low q 7 7 (by decide) (by decide)
  clear hK
  go_enter Try.func6, Try.ntmps6
  go_wp2_with fail
  refine C1.mono ?_
  rintro e w1 ⟨D, rfl, hf1, hb1⟩
  have H1 : Hid (FX w.heap.size w1 D (nwS 12 1 1) ∧ Below w.heap.size w w1) := ⟨hf1, hb1⟩
  clear C1 hf1 hb1
  go_wp2_with fail
  refine (quota_fx H1.out.1 2 (p : Int) (by omega)).mono ?_
  rintro e w2 ⟨rfl, hf2, ht2⟩
  have E0 : Hid (QW w w2 D p (quS (nwS 12 1 1) 2 p)) := ⟨hf2, QI.start _ _ (by omega) (by decide), H1.out.2.trans (ht2.below H1.out.2.size)⟩
  have hq0 : quE 2 (p : Int) = 0 := by unfold quE; rw [if_pos ⟨⟨by decide, by decide⟩, by omega⟩]
  rw [hq0]
  clear hf2 ht2 H1 hq0 hpe
  go_wp2_with fail
  go_loopw [7] (fun i wr => ∃ j : Nat, j ≤ len ∧ i = .int .i64 j ∧ Hid (∃ S, QW w wr D p S)) (fun i _ => len - (intOf i).toNat)
  case atStart => exact ⟨0, by omega, rfl, ⟨_, E0.out⟩⟩
  case round =>
    obtain ⟨j, hj, rfl, HJ⟩ := hrel
    clear E0
    obtain ⟨S, hS⟩ := HJ.out
    have HS : Hid (QW w wr D p S) := hS
    clear hS HJ
    by_cases hjn : j < len
    · have hjn' : (j : Int) < len := by omega
      obtain ⟨X, off, rfl, hX, x, hx, A⟩ := HK.out.at hjn
      obtain ⟨a0, a1, a2, a3⟩ := A.below HS.out.bel hX
      have hXr : X < wr.heap.size := by have := HS.out.bel.size; omega
      clear A hx
      have HA : Hid (QW w (wr.alloc (.cells #[.int .i64 x.kd, .int .i64 x.fr, .int .i64 x.ow, .int .i64 x.to] 33)) D p S) := HS.out.below ((Below.refl _ _).alloc (Nat.le_refl _) _)
      clear HS
      go_wp2_with fail
      refine HA.out.cnt.mono ?_
      rintro e w3 ⟨rfl, b3⟩
      have H3 : Hid (QW w w3 D p S) := HA.out.below b3
      have hA3 : w3.heap[wr.heap.size]? = some (.cells #[.int .i64 x.kd, .int .i64 x.fr, .int .i64 x.ow, .int .i64 x.to] 33 (0, 0)) := (b3.block _ (by simp)).trans (heap_alloc_at wr _)
      have k0 := cell_at hA3 0
      have k1 := cell_at hA3 1
      have hl3 := lt_of_heap hA3
      simp only [List.getElem?_toArray, List.getElem?_cons_zero, List.getElem?_cons_succ] at k0 k1
      clear hA3 b3 HA a0 a1 a2 a3
      have hp0 : (0 : Int) ≤ p := by omega
      have hs0 : (0 : Int) ≤ S.ct 2 := by omega
      obtain ⟨s1, s2, s3⟩ := al_asks H3.out.qi
      have m1 := mo_asks H3.out.qi x.fr
      by_cases hd0 : x.kd = 0
      · rw [hd0] at k0
        clear m1
        go_wp2_with fail
        refine (H3.out.al 2 2 rfl).mono ?_
        rintro e w4 ⟨rfl, hq4⟩
        have HN : Hid (QW w w4 D p (alS S 2)) := hq4
        clear hq4
        by_cases hle : (p : Int) ≤ S.ct 2
        · have e1 := s1 hle
          have e2 := s3 (by omega)
          rw [e1, e2]
          clear s1 s2 s3
          generalize ((S.ct 2 : Nat) : Int) = c at *
          have hc := HN.out.qi.2
          go_wp2_with fail
          refine HN.out.cnt.mono ?_
          rintro e w5 ⟨rfl, b5⟩
          have H5 : Hid (∃ S, QW w w5 D p S) := ⟨_, HN.out.below b5⟩
          clear b5
          go_wp2_with fail
          go_roundw
          case rel => exact ⟨j + 1, by omega, by go_num, H5.out⟩
          case measure => simp [intOf]; omega
        · have hlt : ((S.ct 2 : Nat) : Int) < p := by omega
          rcases s2 hlt with e1 | e1
          · rw [e1]
            clear s1 s2 s3
            generalize ((S.ct 2 : Nat) : Int) = c at *
            generalize alR S 2 = k at *
            have hc := HN.out.qi.2
            go_wp2_with fail
            refine HN.out.cnt.mono ?_
            rintro e w5 ⟨rfl, b5⟩
            have H5 : Hid (∃ S, QW w w5 D p S) := ⟨_, HN.out.below b5⟩
            clear b5
            go_wp2_with fail
            go_roundw
            case rel => exact ⟨j + 1, by omega, by go_num, H5.out⟩
            case measure => simp [intOf]; omega
          · have e2 := s3 (by omega)
            rw [e1, e2]
            clear s1 s2 s3
            generalize ((S.ct 2 : Nat) : Int) = c at *
            have hc := HN.out.qi.2
            go_wp2_with fail
            refine HN.out.cnt.mono ?_
            rintro e w5 ⟨rfl, b5⟩
            have H5 : Hid (∃ S, QW w w5 D p S) := ⟨_, HN.out.below b5⟩
            clear b5
            go_wp2_with fail
            go_roundw
            case rel => exact ⟨j + 1, by omega, by go_num, H5.out⟩
            case measure => simp [intOf]; omega
      · clear s1 s2 s3
        by_cases hd1 : x.kd = 1
        · rw [hd1] at k0
          clear m1
          go_wp2_with fail
          refine (H3.out.al 1 1 rfl).mono ?_
          rintro e w4 ⟨rfl, hq4⟩
          have HN : Hid (QW w w4 D p (alS S 1)) := hq4
          clear hq4
          generalize alR S 1 = r1 at *
          generalize alE S 1 = r2 at *
          have hc := HN.out.qi.2
          go_wp2_with fail
          refine HN.out.cnt.mono ?_
          rintro e w5 ⟨rfl, b5⟩
          have H5 : Hid (∃ S, QW w w5 D p S) := ⟨_, HN.out.below b5⟩
          clear b5
          go_wp2_with fail
          go_roundw
          case rel => exact ⟨j + 1, by omega, by go_num, H5.out⟩
          case measure => simp [intOf]; omega
        · by_cases hd2 : x.kd = 2
          · rw [hd2] at k0
            clear m1
            go_wp2_with fail
            refine (H3.out.fr x.fr).mono ?_
            rintro e w4 ⟨rfl, hq4⟩
            have HN : Hid (QW w w4 D p (frS S x.fr 2)) := hq4
            clear hq4
            generalize frB S x.fr 2 = r1 at *
            generalize errL S x.fr 2 2 = r2 at *
            have hc := HN.out.qi.2
            go_wp2_with fail
            refine HN.out.cnt.mono ?_
            rintro e w5 ⟨rfl, b5⟩
            have H5 : Hid (∃ S, QW w w5 D p S) := ⟨_, HN.out.below b5⟩
            clear b5
            go_wp2_with fail
            go_roundw
            case rel => exact ⟨j + 1, by omega, by go_num, H5.out⟩
            case measure => simp [intOf]; omega
          · by_cases hd3 : x.kd = 3
            · rw [hd3] at k0
              go_wp2_with fail
              refine (H3.out.mo x.fr).mono ?_
              rintro e w4 ⟨rfl, hq4⟩
              have HN : Hid (QW w w4 D p (moS S x.fr 1 2)) := hq4
              clear hq4
              by_cases hle : (p : Int) ≤ S.ct 2
              · have e1 := m1 hle
                clear m1
                generalize moE S x.fr 1 2 = r1 at *
                generalize ((S.ct 2 : Nat) : Int) = c at *
                have hc := HN.out.qi.2
                go_wp2_with fail
                refine HN.out.cnt.mono ?_
                rintro e w5 ⟨rfl, b5⟩
                have H5 : Hid (∃ S, QW w w5 D p S) := ⟨_, HN.out.below b5⟩
                clear b5
                go_wp2_with fail
                go_roundw
                case rel => exact ⟨j + 1, by omega, by go_num, H5.out⟩
                case measure => simp [intOf]; omega
              · have hlt : ((S.ct 2 : Nat) : Int) < p := by omega
                clear m1
                generalize moE S x.fr 1 2 = r1 at *
                generalize ((S.ct 2 : Nat) : Int) = c at *
                have hc := HN.out.qi.2
                go_wp2_with fail
                refine HN.out.cnt.mono ?_
                rintro e w5 ⟨rfl, b5⟩
                have H5 : Hid (∃ S, QW w w5 D p S) := ⟨_, HN.out.below b5⟩
                clear b5
                go_wp2_with fail
                go_roundw
                case rel => exact ⟨j + 1, by omega, by go_num, H5.out⟩
                case measure => simp [intOf]; omega
            · have HN : Hid (QW w w3 D p S) := H3.out
              clear m1
              generalize hkd : x.kd = kd at *
              have hc := HN.out.qi.2
              go_wp2_with fail
              refine HN.out.cnt.mono ?_
              rintro e w5 ⟨rfl, b5⟩
              have H5 : Hid (∃ S, QW w w5 D p S) := ⟨_, HN.out.below b5⟩
              clear b5
              go_wp2_with fail
              go_roundw
              case rel => exact ⟨j + 1, by omega, by go_num, H5.out⟩
              case measure => simp [intOf]; omega
    · obtain rfl : j = len := by omega
      go_wp2_with fail
      refine HS.out.cnt.mono ?_
      rintro e w3 ⟨rfl, b3⟩
      have H3 : Hid (QW w w3 D p S) := HS.out.below b3
      clear b3
      go_wp2_with fail
      refine H3.out.cnt.mono ?_
      rintro e w4 ⟨rfl, b4⟩
      have H4 : Hid (QW w w4 D p S) := H3.out.below b4
      clear b4
      go_wp2_with fail
      refine (quota_fx H4.out.fx 2 0 (by omega)).mono ?_
      rintro e w5 ⟨rfl, hf5, ht5⟩
      have H5 : Hid (Below w.heap.size w w5) := H4.out.bel.trans (ht5.below H4.out.bel.size)
      rw [show quE 2 0 = 0 from rfl]
      clear hf5 ht5
      go_wp2_with fail
      go_ret
      exact ⟨rfl, H5.out⟩
end Go.Proofs.Ytcnoonhcofnghaa.framesQuota
