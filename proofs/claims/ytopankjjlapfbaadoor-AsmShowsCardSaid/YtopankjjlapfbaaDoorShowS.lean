/-
  The document's Show, walked.
-/
import Derived.Test.YtopankjjlapfbaaDoorShowR
import Derived.RegionCalls
import Derived.BigRegion
namespace Go.Proofs.YtopankjjlapfbaaDoor
open Go.RowKit
set_option linter.unusedVariables false

theorem rshow_no (a : Int) (ha : 0 ≤ a) (ha' : a ≤ 4294967295) (hv : validW a = false) (w : World) :
    Calls Tryd.prog 5 #[.int .u32 a] w fun e w' => e = .returned (.string (⟨#[46, 119, 111, 114, 100, 32]⟩ ++ itoS a)) ∧ Below w.heap.size w w' := by
  have C1 := rdecode_no a ha ha' hv
  have C2 := fun w => rfield_any a 0 32 ha ha' (by decide) (by decide) w
  have C3 := fun w => decimal_any a (by omega) (by omega) w
  have hf : fieldW a 0 32 = a := by
    unfold fieldW
    simp
    omega
  rw [hf] at C2
  have hs := itoS_size a
  have hs' : (itoS a).size ≤ 4294967300 := by omega
  unfold ins at C1
  clear hv hs hf
  generalize itoS a = s at *
  go_enter Tryd.func5, Tryd.ntmps5
  go_wp2_with fail
  refine (C1 _).mono ?_
  rintro e w1 ⟨rfl, hb1⟩
  go_wp2_with fail
  refine (C2 _).mono ?_
  rintro e w2 ⟨rfl, rfl⟩
  go_wp2_with fail
  refine (C3 _).mono ?_
  rintro e w2 ⟨rfl, hb2⟩
  go_wp2_with fail
  go_ret
  exact ⟨rfl, (hb1.alloc hb1.size _).trans (hb2.mono (by simp; have := hb1.size; omega))⟩

set_option maxHeartbeats 3200000 in
theorem rshow_of (a x0 x1 x2 x3 x4 : Int) (n : Nat) (nm : ByteArray) (ps : List Int) (h0 : x0 = (n : Int) + 1) (hn : n < 48) (hnm : nm.size ≤ 10)
    (hx : ∀ p, -1000000 ≤ fv x1 x2 x3 x4 p ∧ fv x1 x2 x3 x4 p ≤ 1000000) (hr : ps.length ≤ 3)
    (C1 : ∀ w, Calls Tryd.prog 11 #[.int .u32 a] w fun e w' => e = .returned (.tuple #[.agg #[.int .i64 x0, .int .i64 x1, .int .i64 x2, .int .i64 x3, .int .i64 x4], .int .i64 0]) ∧ Below w.heap.size w w')
    (C2 : ∀ w, Calls Tryd.prog 15 #[.int .i64 x0] w fun e w' => e = .returned (.string ⟨(ps.map chr).toArray⟩) ∧ w' = w)
    (w : World) (hc : nameL.getD (n + 1) ⟨#[]⟩ = nm) :
    Calls Tryd.prog 5 #[.int .u32 a] w fun e w' => e = .returned (.string (lineS nm x1 x2 x3 x4 ps)) ∧ Below w.heap.size w w' := by
  subst h0
  go_enter Tryd.func5, Tryd.ntmps5
  go_wp2_with fail
  refine (C1 _).mono ?_
  rintro e w1 ⟨rfl, hb1⟩
  have hg := rnames_at (n + 1) (by omega) (by omega) (w1.alloc (.cells #[.int .i64 ((n : Int) + 1), .int .i64 x1, .int .i64 x2, .int .i64 x3, .int .i64 x4] 26))
  rw [hc] at hg
  simp only [World.size_alloc, Nat.add_sub_cancel] at hg
  have hi0 : (0 : Int) ≤ (n : Int) := by omega
  have hi1 : (n : Int) < 48 := by omega
  have hi2 : ¬ (n : Int) < 0 := by omega
  have hi3 : ¬ (48 : Int) ≤ (n : Int) := by omega
  have hi4 : ¬ 48 ≤ n := by omega
  have hi5 : decide ((n : Int) < 48) = true := by simp; omega
  have hi6 : IntKind.i64.wrap (n : Int) = (n : Int) := by rw [IntKind.wrap_i64]; omega
  clear C1
  go_wp2_with fail
  go_region_with (refine (names_ref _).mono ?_; rintro e w2 ⟨rfl, rfl⟩)
  all_goals
    clear hg hi2 hi3 hi4 hi5 hi6
    have HB2 : Hid (Below w.heap.size w ((w1.alloc (.cells #[.int .i64 ((n : Int) + 1), .int .i64 x1, .int .i64 x2, .int .i64 x3, .int .i64 x4] 26)).alloc (.cells rnames 9)).drew) :=
      ((hb1.alloc hb1.size _).alloc (by simp; have := hb1.size; omega) _).drew
    have hi1 : ((w1.alloc (.cells #[.int .i64 ((n : Int) + 1), .int .i64 x1, .int .i64 x2, .int .i64 x3, .int .i64 x4] 26)).alloc (.cells rnames 9)).drew.cell? ⟨w1.heap.size, 1, none⟩ = some (.int .i64 x1) := by simp
    have hi2 : ((w1.alloc (.cells #[.int .i64 ((n : Int) + 1), .int .i64 x1, .int .i64 x2, .int .i64 x3, .int .i64 x4] 26)).alloc (.cells rnames 9)).drew.cell? ⟨w1.heap.size, 2, none⟩ = some (.int .i64 x2) := by simp
    have hi3 : ((w1.alloc (.cells #[.int .i64 ((n : Int) + 1), .int .i64 x1, .int .i64 x2, .int .i64 x3, .int .i64 x4] 26)).alloc (.cells rnames 9)).drew.cell? ⟨w1.heap.size, 3, none⟩ = some (.int .i64 x3) := by simp
    have hi4 : ((w1.alloc (.cells #[.int .i64 ((n : Int) + 1), .int .i64 x1, .int .i64 x2, .int .i64 x3, .int .i64 x4] 26)).alloc (.cells rnames 9)).drew.cell? ⟨w1.heap.size, 4, none⟩ = some (.int .i64 x4) := by simp
    have hz : ((w1.alloc (.cells #[.int .i64 ((n : Int) + 1), .int .i64 x1, .int .i64 x2, .int .i64 x3, .int .i64 x4] 26)).alloc (.cells rnames 9)).drew.heap.size = w1.heap.size + 2 := by simp [World.drew]
    go_wp2_with fail
    refine (C2 _).mono ?_
    rintro e w2 ⟨rfl, rfl⟩
    go_wp2_with fail
    generalize ((w1.alloc (.cells #[.int .i64 ((n : Int) + 1), .int .i64 x1, .int .i64 x2, .int .i64 x3, .int .i64 x4] 26)).alloc (.cells rnames 9)).drew = w2 at *
    have hos : (⟨(ps.map chr).toArray⟩ : ByteArray).size = ps.length := by show (ps.map chr).toArray.size = _; simp
    have HOC : Hid (∀ k, k < ps.length → (ps.map chr).toArray[k]? = some (chr (ps.getD k 0))) := fun k hk => by simp [hk, List.getD]
    have HLS : Hid (∀ k, (lineS nm x1 x2 x3 x4 (ps.take k)).size ≤ 4000000) := fun k => by
      have h := lineS_size x1 x2 x3 x4 hx (ps.take k) nm
      have h2 : (ps.take k).length ≤ 3 := by simp; omega
      omega
    have HT : Hid (∀ k, k < ps.length → ps.take (k + 1) = ps.take k ++ [ps.getD k 0]) := fun k hk => by
      rw [List.take_succ_eq_append_getElem hk]
      simp [List.getD, hk]
    have HA : Hid (ps.take ps.length = ps) := List.take_length
    generalize hCS : (ps.map chr).toArray = cs at *
    generalize ps.length = L at *
    generalize w1.heap.size = B at *
    have HX : Hid (∀ p, -1000000 ≤ fv x1 x2 x3 x4 p ∧ fv x1 x2 x3 x4 p ≤ 1000000) := hx
    clear hx hCS
    go_loopw [5, 7] (fun s i wr => ∃ k : Nat, k ≤ L ∧ i = .int .i64 k ∧ s = .string (lineS nm x1 x2 x3 x4 (ps.take k)) ∧ Below w2.heap.size w2 wr) (fun _ i _ => L - (intOf i).toNat)
    case atStart => exact ⟨0, by omega, rfl, rfl, Below.refl _ _⟩
    case round =>
      obtain ⟨k, hk, rfl, rfl, hb⟩ := hrel
      by_cases hlt : k < L
      · have hcp := HOC.out k hlt
        have hs1 := HLS.out k
        have hs2 := HLS.out (k + 1)
        have hh := congrArg (lineS nm x1 x2 x3 x4) (HT.out k hlt)
        rw [lineS_snoc] at hh
        rw [hh] at hs2
        generalize ps.getD k 0 = q at *
        have hc1 := hb.cell (p := ⟨B, 1, none⟩) (by show B < _; omega)
        have hc2 := hb.cell (p := ⟨B, 2, none⟩) (by show B < _; omega)
        have hc3 := hb.cell (p := ⟨B, 3, none⟩) (by show B < _; omega)
        have hc4 := hb.cell (p := ⟨B, 4, none⟩) (by show B < _; omega)
        rw [hi1] at hc1
        rw [hi2] at hc2
        rw [hi3] at hc3
        rw [hi4] at hc4
        have hx4 := HX.out 3
        have hx1 := HX.out 0
        have hx2 := HX.out 1
        have hx3 := HX.out 2
        unfold fv at hx4 hx1 hx2 hx3
        simp at hx4 hx1 hx2 hx3
        have D4 := decimal_any x4 (by omega) (by omega) wr
        have hz1 := itoS_size x1
        have hz2 := itoS_size x2
        have hz3 := itoS_size x3
        have hz4 := itoS_size x4
        have hy1 : (itoS x1).size ≤ 1000002 := by omega
        have hy2 : (itoS x2).size ≤ 1000002 := by omega
        have hy3 : (itoS x3).size ≤ 1000002 := by omega
        have hy4 : (itoS x4).size ≤ 1000002 := by omega
        have hbb : ∀ (h : k < (⟨cs⟩ : ByteArray).size), ((⟨cs⟩ : ByteArray)[k].toNat : Int) = ((chr q).toNat : Int) := fun h => by
          have h2 : cs[k]? = some ((⟨cs⟩ : ByteArray)[k]) := by rw [Array.getElem?_eq_getElem h]; rfl
          rw [hcp] at h2
          rw [Option.some.inj h2]
        have HN : Hid (lineS nm x1 x2 x3 x4 (ps.take (k + 1)) = lineS nm x1 x2 x3 x4 (ps.take k) ++ (⟨#[32]⟩ ++ opdS q (fv x1 x2 x3 x4 q))) := hh
        clear hcp hs2 hh hz1 hz2 hz3 hz4 hi1 hi2 hi3 hi4
        unfold opdS fv at HN
        generalize lineS nm x1 x2 x3 x4 (ps.take k) = sl at *
        by_cases q0 : q = 0
        · subst q0
          have hby : ∀ (h : k < (⟨cs⟩ : ByteArray).size), ((⟨cs⟩ : ByteArray)[k].toNat : Int) = 100 := fun h => by rw [hbb h]; rfl
          have D1 := fun w => decimal_any x1 (by omega) (by omega) w
          have HM : Hid (lineS nm x1 x2 x3 x4 (ps.take (k + 1)) = sl ++ (⟨#[32]⟩ ++ (⟨#[120]⟩ ++ itoS x1))) := by
            have h := HN.out
            simp at h
            exact h
          clear hbb HN
          generalize itoS x1 = sx at *
          go_wp2_with fail
          refine D4.mono ?_
          rintro e w4 ⟨rfl, hb4⟩
          have hd := hb4.cell (p := ⟨B, 1, none⟩) (by show B < _; have := hb.size; omega)
          rw [hc1] at hd
          go_wp2_with fail
          refine (D1 _).mono ?_
          rintro e w5 ⟨rfl, hb5⟩
          go_wp2_with fail
          go_roundw
          case rel => exact ⟨k + 1, by omega, by go_num, by rw [HM.out, ByteArray.append_assoc], hb.trans ((hb4.trans (hb5.mono hb4.size)).mono hb.size)⟩
          case measure => simp [intOf]; omega
        by_cases q1 : q = 1
        · subst q1
          have hby : ∀ (h : k < (⟨cs⟩ : ByteArray).size), ((⟨cs⟩ : ByteArray)[k].toNat : Int) = 97 := fun h => by rw [hbb h]; rfl
          have D1 := fun w => decimal_any x2 (by omega) (by omega) w
          have HM : Hid (lineS nm x1 x2 x3 x4 (ps.take (k + 1)) = sl ++ (⟨#[32]⟩ ++ (⟨#[120]⟩ ++ itoS x2))) := by
            have h := HN.out
            simp at h
            exact h
          clear hbb HN
          generalize itoS x2 = sx at *
          go_wp2_with fail
          refine D4.mono ?_
          rintro e w4 ⟨rfl, hb4⟩
          have hd := hb4.cell (p := ⟨B, 2, none⟩) (by show B < _; have := hb.size; omega)
          rw [hc2] at hd
          go_wp2_with fail
          refine (D1 _).mono ?_
          rintro e w5 ⟨rfl, hb5⟩
          go_wp2_with fail
          go_roundw
          case rel => exact ⟨k + 1, by omega, by go_num, by rw [HM.out, ByteArray.append_assoc], hb.trans ((hb4.trans (hb5.mono hb4.size)).mono hb.size)⟩
          case measure => simp [intOf]; omega
        by_cases q2 : q = 2
        · subst q2
          have hby : ∀ (h : k < (⟨cs⟩ : ByteArray).size), ((⟨cs⟩ : ByteArray)[k].toNat : Int) = 98 := fun h => by rw [hbb h]; rfl
          have D1 := fun w => decimal_any x3 (by omega) (by omega) w
          have HM : Hid (lineS nm x1 x2 x3 x4 (ps.take (k + 1)) = sl ++ (⟨#[32]⟩ ++ (⟨#[120]⟩ ++ itoS x3))) := by
            have h := HN.out
            simp at h
            exact h
          clear hbb HN
          generalize itoS x3 = sx at *
          go_wp2_with fail
          refine D4.mono ?_
          rintro e w4 ⟨rfl, hb4⟩
          have hd := hb4.cell (p := ⟨B, 3, none⟩) (by show B < _; have := hb.size; omega)
          rw [hc3] at hd
          go_wp2_with fail
          refine (D1 _).mono ?_
          rintro e w5 ⟨rfl, hb5⟩
          go_wp2_with fail
          go_roundw
          case rel => exact ⟨k + 1, by omega, by go_num, by rw [HM.out, ByteArray.append_assoc], hb.trans ((hb4.trans (hb5.mono hb4.size)).mono hb.size)⟩
          case measure => simp [intOf]; omega
        have hby : ∃ z : Int, z ≠ 100 ∧ z ≠ 97 ∧ z ≠ 98 ∧ ∀ (h : k < (⟨cs⟩ : ByteArray).size), ((⟨cs⟩ : ByteArray)[k].toNat : Int) = z := by
          refine ⟨((chr q).toNat : Int), ?_, ?_, ?_, hbb⟩
          all_goals
          unfold chr
          rw [if_neg q0, if_neg q1, if_neg q2]
          split <;> decide
        obtain ⟨z, z1, z2, z3, hby⟩ := hby
        rw [if_neg (show ¬ (q = 0 ∨ q = 1 ∨ q = 2) by omega), if_neg q0, if_neg q1, if_neg q2] at HN
        clear hbb
        generalize itoS x4 = sx at *
        go_wp2_with fail
        refine D4.mono ?_
        rintro e w4 ⟨rfl, hb4⟩
        go_wp2_with fail
        go_roundw
        case rel => exact ⟨k + 1, by omega, by go_num, by rw [HN.out, ByteArray.append_assoc], hb.trans (hb4.mono hb.size)⟩
        case measure => simp [intOf]; omega
      · obtain rfl : k = L := by omega
        go_wp2_with fail
        go_ret
        exact ⟨congrArg (fun l => Ending.returned (.string (lineS nm x1 x2 x3 x4 l))) HA.out, HB2.out.trans (hb.mono HB2.out.size)⟩
end Go.Proofs.YtopankjjlapfbaaDoor
