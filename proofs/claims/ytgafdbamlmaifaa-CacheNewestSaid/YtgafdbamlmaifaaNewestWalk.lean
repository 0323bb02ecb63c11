/-
  Of many keys the newest are kept, with the values that were put last: the walk of CacheNewest.
-/
import Derived.Test.YtgafdbamlmaifaaSn
namespace Go.Proofs.Ytgafdbamlmaifaa.S
open Go.RowKit
set_option linter.unusedVariables false
set_option maxRecDepth 20000

/-- the state in the loops -/
def SN (w wx : World) (b m R j : Nat) : Prop := ∃ v os M, CC w.heap.size wx b R m v os M ∧ NI R j os M ∧ Below w.heap.size w wx

theorem wf_small {j : Nat} (h : j < 256) : (Lit.int .i64 (j : Int)).wf = true := by
  simp [Lit.wf, IntKind.min, IntKind.max, IntKind.signed, IntKind.bits]
  omega
/-- what is told of a number's key, in its group and in the other -/
theorem gets2 {w wr : World} {b m R N j : Nat} (h : SN w wr b m R N) (hj : j < N) (hN : N ≤ 255) : ∃ kj : ByteArray, Utf8.encode (97 + (j : Int)) = kj ∧ ∃ x2 : Int, ∃ ok : Bool, ∃ x1 : Int,
    ((N : Int) - (R : Int) ≤ (j : Int) ∧ x1 = j ∧ x2 = 2 ∧ ok = true ∨ ¬ ((N : Int) - (R : Int) ≤ (j : Int)) ∧ x1 = 0 ∧ x2 = 0 ∧ ok = false) ∧
    (∀ y, Below wr.heap.size wr y → SN w y b m R N) ∧
    (∀ y, Below wr.heap.size wr y → Calls Try.prog 22 #[.pointer (some ⟨b, 0, none⟩), .int .i64 ((j : Int) % 2), .string kj] y fun e w' => e = .returned (.tuple #[.agg #[.int .i64 x1, .int .i64 x2], .bool ok]) ∧ Below y.heap.size y w') ∧
    (∀ y, Below wr.heap.size wr y → Calls Try.prog 22 #[.pointer (some ⟨b, 0, none⟩), .int .i64 (1 - (j : Int) % 2), .string kj] y fun e w' => e = .returned (.tuple #[.agg #[.int .i64 0, .int .i64 0], .bool false]) ∧ Below y.heap.size y w') := by
  obtain ⟨v, os, M, hC, hI, hbel⟩ := h
  have hoW := ot_W (i := j) (by omega)
  have hpW := pl_W (i := j) (by omega)
  have hMo : M ⟨1 - (j : Int) % 2, kk j⟩ = none := by
    cases e : M ⟨1 - (j : Int) % 2, kk j⟩ with
    | none => rfl
    | some x =>
      have := (hC.inn _ hoW).1 (by simp [e])
      rw [hI.os] at this
      exact absurd this (other_not (by omega) (by omega))
  have hge : ((N : Int) - (R : Int) ≤ (j : Int) ∧ M (pl j) = some (pair j 2)) ∨ (¬ ((N : Int) - (R : Int) ≤ (j : Int)) ∧ M (pl j) = none) := by
    by_cases h : N - R ≤ j
    · exact .inl ⟨by omega, hI.at_ j h hj⟩
    · refine .inr ⟨by omega, ?_⟩
      cases e : M (pl j) with
      | none => rfl
      | some x =>
        have := (hC.inn _ hpW).1 (by simp [e])
        rw [hI.os, mem_osN] at this
        obtain ⟨q, h1, h2, e⟩ := this
        have := pl_inj (by omega) (by omega) e
        omega
  have hSN : ∀ y, Below wr.heap.size wr y → SN w y b m R N := fun y hy => ⟨v, os, M, hC.below hy, hI, hbel.trans (hy.mono hbel.size)⟩
  clear hI hbel
  unfold pl at *
  have hkk : Utf8.encode (97 + (j : Int)) = kk j := rfl
  refine ⟨kk j, hkk, ?_⟩
  clear hkk
  generalize kk j = kj at *
  have hO : ∀ y, Below wr.heap.size wr y → Calls Try.prog 22 #[.pointer (some ⟨b, 0, none⟩), .int .i64 (1 - (j : Int) % 2), .string kj] y fun e w' => e = .returned (.tuple #[.agg #[.int .i64 0, .int .i64 0], .bool false]) ∧ Below y.heap.size y w' := fun y hy => by
    have := get_any w.heap.size b R m v os M ⟨1 - (j : Int) % 2, kj⟩ hoW 0 0 (by rw [hMo]; rfl) y (hC.below hy)
    rw [hMo] at this
    exact this
  rcases hge with ⟨hg, hM⟩ | ⟨hg, hM⟩
  · refine ⟨2, true, j, .inl ⟨hg, rfl, rfl, rfl⟩, hSN, fun y hy => ?_, hO⟩
    have := get_any w.heap.size b R m v os M ⟨(j : Int) % 2, kj⟩ hpW j 2 (by rw [hM]; rfl) y (hC.below hy)
    rw [hM] at this
    exact this
  · refine ⟨0, false, 0, .inr ⟨hg, rfl, rfl, rfl⟩, hSN, fun y hy => ?_, hO⟩
    have := get_any w.heap.size b R m v os M ⟨(j : Int) % 2, kj⟩ hpW 0 0 (by rw [hM]; rfl) y (hC.below hy)
    rw [hM] at this
    exact this

set_option maxHeartbeats 3200000 in
theorem walk (room n : Int) (w : World) :
    Calls Try.prog 5 #[.int .i64 room, .int .i64 n] w fun e w' => e = .returned (.bool true) ∧ Below w.heap.size w w' := by
  obtain ⟨r0, hr0, hr1⟩ : ∃ r0 : Nat, bits .and .i64 room 63 = (r0 : Int) ∧ r0 ≤ 63 := ⟨(room % 64).toNat, by rw [and63]; omega, by omega⟩
  obtain ⟨N, hN0, hN1⟩ : ∃ N : Nat, bits .and .i64 n 255 = (N : Int) ∧ N ≤ 255 := ⟨(n % 256).toNat, by rw [and255]; omega, by omega⟩
  obtain ⟨R, hR, HR0, hR1⟩ : ∃ R : Nat, 1 + (r0 : Int) = (R : Int) ∧ Hid (1 ≤ R) ∧ R ≤ 64 := ⟨1 + r0, by omega, by show 1 ≤ _; omega, by omega⟩
  have C1 := new_yes R HR0.out (by omega)
  go_enter Try.func5, Try.ntmps5
  go_wp2_with fail
  refine (C1 _).mono ?_
  rintro e w1 ⟨b, rfl, ⟨m, hC⟩, hb1⟩
  have E0 : Hid (SN w w1 b m R 0) := ⟨_, _, _, hC, NI.nil R, hb1⟩
  clear C1 hC hb1 hR hr0 hr1 hN0
  go_wp2_with fail
  go_loopw [7] (fun q wr => ∃ j : Nat, j ≤ N ∧ q = .int .i64 j ∧ Hid (SN w wr b m R j)) (fun q _ => N - (intOf q).toNat)
  case atStart => exact ⟨0, by omega, rfl, E0⟩
  case round =>
    obtain ⟨j, hj, rfl, HS⟩ := hrel
    clear E0
    by_cases hjn : j < N
    · have hjn' : (j : Int) < (N : Int) := by omega
      have ha : bits .and .i64 (j : Int) 1 = (j : Int) % 2 := and1 _
      have hw : IntKind.i32.wrap (97 + (j : Int)) = 97 + (j : Int) := by rw [IntKind.wrap_i32]; omega
      have hk : Utf8.encode (97 + (j : Int)) = kk j := rfl
      obtain ⟨v, os, M, hC, hI, hbel⟩ := HS.out
      have CA := put_new w.heap.size b R m v os M (pl j) j 1 hI.vals (pl_W (by omega)) wr hC hbel.size (hI.fresh (by omega))
      have CB : ∀ y v1, CC w.heap.size y b R m v1 (evO R os ++ [pl j]) (upd (evM R os M) (pl j) (some (pair j 1))) → _ := fun y v1 hCy => put_was w.heap.size b R m v1 _ _ (pl j) j 2 ((hI.vals.ev R os).upd _ _ _) (pl_W (by omega)) y hCy (by simp)
      have hI' := hI.step HR0.out (by omega)
      have hlen : (evO R os ++ [pl j]).length = min R (j + 1) := by rw [hI'.os, len_osN]
      have CL : ∀ y v1 M1, CC w.heap.size y b R m v1 (evO R os ++ [pl j]) M1 → _ := fun y v1 M1 hCy => len_any w.heap.size b R m v1 _ M1 y hCy
      have HX : Hid (CC w.heap.size wr b R m v os M ∧ Below w.heap.size w wr) := ⟨hC, hbel⟩
      have HI : Hid (NI R (j + 1) (evO R os ++ [pl j]) (upd (upd (evM R os M) (pl j) (some (pair j 1))) (pl j) (some (pair j 2)))) := hI'
      clear hC hI hI' hbel HS
      rw [hlen] at CL
      unfold pl pair kv at CA CB
      simp only at CA CB
      have hmin : (((min R (j + 1) : Nat) : Int) = (R : Int) ∧ (R : Int) ≤ (j : Int) + 1) ∨ (((min R (j + 1) : Nat) : Int) = (j : Int) + 1 ∧ (j : Int) + 1 < (R : Int)) := by omega
      clear hlen
      rcases hmin with ⟨hm1, hm2⟩ | ⟨hm1, hm2⟩
      all_goals
        rw [hm1] at CL
        clear hm1
        go_wp2_with fail
        refine CA.mono ?_
        rintro e y1 ⟨rfl, v1, hC1, hT1⟩
        have C2 := CB _ _ hC1
        have HT1 : Hid (CC w.heap.size y1 b R m v1 _ _ ∧ Turn wr y1 b m v v1) := ⟨hC1, hT1⟩
        clear CA CB hC1 hT1
        go_wp2_with fail
        refine C2.mono ?_
        rintro e y2 ⟨rfl, v2, hC2, hT2⟩
        have C3 := CL _ _ _ hC2
        have HN : Hid (SN w y2 b m R (j + 1)) := by
          obtain ⟨hC, hbel⟩ := HX.out
          obtain ⟨hC1, hT1⟩ := HT1.out
          have hb1 := hT1.below hC hbel.size
          exact ⟨_, _, _, hC2, HI.out, (hbel.trans hb1).trans (hT2.below hC1 (Nat.le_trans hbel.size hb1.size))⟩
        clear C2 CL hC2 hT2 HT1 HX HI
        go_wp2_with fail
        refine C3.mono ?_
        rintro e y3 ⟨rfl, rfl⟩
        clear C3
        go_wp2_with fail
        go_roundw
        case rel => exact ⟨j + 1, by omega, by go_num, HN⟩
        case measure => simp [intOf]; omega
    · obtain rfl : N = j := by omega
      clear hj hjn
      have hN' : ¬ ((N : Int) < (N : Int)) := by omega
      go_wp2_with fail
      go_loopw [8] (fun q wr => ∃ j : Nat, j ≤ N ∧ q = .int .i64 j ∧ Hid (SN w wr b m R N)) (fun q _ => N - (intOf q).toNat)
      case atStart => exact ⟨0, by omega, rfl, HS⟩
      case round =>
        obtain ⟨j, hj, rfl, HS2⟩ := hrel
        clear HS hN'
        by_cases hjn : j < N
        · have hjn' : (j : Int) < (N : Int) := by omega
          have ha : bits .and .i64 (j : Int) 1 = (j : Int) % 2 := and1 _
          have hw : IntKind.i32.wrap (97 + (j : Int)) = 97 + (j : Int) := by rw [IntKind.wrap_i32]; omega
          obtain ⟨kj, hk, x2, ok, x1, hge, hSN, CG, CO⟩ := gets2 HS2.out hjn hN1
          have HX : Hid (∀ y, Below wr.heap.size wr y → SN w y b m R N) := hSN
          have CG1 := CG wr (Below.refl _ _)
          have hb21 : (0 : Int) ≤ (j : Int) % 2 ∧ (j : Int) % 2 ≤ 1 := by omega
          clear hSN HS2 CG
          rcases hge with ⟨hg, rfl, rfl, rfl⟩ | ⟨hg, rfl, rfl, rfl⟩
          case' inr =>
            have hgd : decide ((N : Int) - (R : Int) ≤ (j : Int)) = false := decide_eq_false hg
          case' inl =>
            have hgd : decide ((N : Int) - (R : Int) ≤ (j : Int)) = true := decide_eq_true hg
          all_goals
            clear hg
            go_wp2_with fail
            refine CG1.mono ?_
            rintro e y1 ⟨rfl, hb1⟩
            have C2 := fun o => CO _ (hb1.alloc hb1.size o)
            have HB1 : Hid (Below wr.heap.size wr y1) := hb1
            clear CG1 CO hb1
            go_wp2_with fail
            first | rw [pair_eq j 2 (wf_small (by omega)) (by decide)] | rw [pair_eq 0 0 (by decide) (by decide)]
            simp only [Result.andThen_ok, Oper.upon_value]
            clear hgd
            go_wp2_with fail
            refine (C2 _).mono ?_
            rintro e y2 ⟨rfl, hb2⟩
            clear C2
            have HN : Hid (∀ o, SN w (y2.alloc o) b m R N) := fun o => by
              have h1 := HB1.out.size
              have h2 := (HB1.out.alloc h1 _).trans (hb2.mono (by simp; omega))
              exact HX.out _ (h2.alloc h2.size o)
            clear hb2 HB1 HX
            go_wp2_with fail
            go_roundw
            case rel => exact ⟨j + 1, by omega, by go_num, HN.out _⟩
            case measure => simp [intOf]; omega
        · obtain rfl : N = j := by omega
          obtain ⟨v, os, M, hC, hI, hbel⟩ := HS2.out
          have CA := dropGroup_any w.heap.size b R m v os M 0 wr hC
          obtain ⟨o2, ho2⟩ : ∃ o2, Hid (o2 = os.filter (fun q => !decide (q.g = 0))) := ⟨_, rfl⟩
          have hlen := len_osN R N
          rw [← hI.os] at hlen
          have hfl := List.length_filter_le (fun q : Pl => !decide (q.g = 0)) os
          have htwo := two_filters (R := R) (j := N)
          rw [← hI.os] at htwo
          rw [← ho2.out] at CA hfl htwo
          have HX : Hid (CC w.heap.size wr b R m v os M ∧ Below w.heap.size w wr) := ⟨hC, hbel⟩
          obtain ⟨l0, hl0⟩ : ∃ l0, l0 = os.length := ⟨_, rfl⟩
          obtain ⟨l2, hl2⟩ : ∃ l2, Hid (l2 = o2.length) := ⟨_, rfl⟩
          rw [← hl0] at CA hlen hfl
          rw [← hl2.out] at CA hfl
          clear hC hI hbel HS2 hl0
          have hmin : (l0 = R ∧ (R : Int) ≤ (N : Int)) ∨ (l0 = N ∧ (N : Int) < (R : Int)) := by omega
          have hsub : ((l0 : Int) - (l2 : Int)) + (l2 : Int) = (l0 : Int) := by omega
          clear hlen
          rcases hmin with ⟨rfl, hm2⟩ | ⟨rfl, hm2⟩
          all_goals
            go_wp2_with fail
            refine CA.mono ?_
            rintro e y1 ⟨rfl, v1, hC1, hT1⟩
            have CB := dropGroup_any w.heap.size b _ m v1 o2 _ 1 y1 hC1
            rw [htwo, ← hl2.out] at CB
            simp only [List.length_nil] at CB
            have HX1 : Hid (CC w.heap.size y1 b _ m v1 _ _ ∧ Turn wr y1 b m v v1) := ⟨hC1, hT1⟩
            clear CA hC1 hT1
            go_wp2_with fail
            refine CB.mono ?_
            rintro e y2 ⟨rfl, v2, hC2, hT2⟩
            have CL := len_any w.heap.size b _ m v2 _ _ y2 hC2
            have HF : Hid (Below w.heap.size w y2) := by
              obtain ⟨hC, hbel⟩ := HX.out
              obtain ⟨hC1, hT1⟩ := HX1.out
              have hb1 := hT1.below hC hbel.size
              exact (hbel.trans hb1).trans (hT2.below hC1 (Nat.le_trans hbel.size hb1.size))
            clear CB hC2 hT2 HX HX1
            simp only [List.length_nil] at CL
            go_wp2_with fail
            refine CL.mono ?_
            rintro e y3 ⟨rfl, rfl⟩
            clear CL
            go_wp2_with fail
            go_ret
            exact ⟨rfl, HF.out⟩
end Go.Proofs.Ytgafdbamlmaifaa.S
