/-
  What the program takes for a name.
-/
import Derived.Test.YtopankjjlapfbaaGreatDoorNum
namespace Go.Proofs.YtopankjjlapfbaaGreatDoor
open Go.RowKit
set_option linter.unusedVariables false
set_option maxRecDepth 100000

/-- a byte of a string -/
def bsA (s : ByteArray) (k : Nat) : Int := (((s.data.toList.getD k 0).toNat : Nat) : Int)

set_option maxHeartbeats 1600000 in
theorem isName_any (s : ByteArray) (hs : s.size ≤ 65536) (w : World) (he : Errs w) :
    Calls Tryz.prog 72 #[.string s] w fun e w' => e = .returned (.bool (nameB s)) ∧ Below w.heap.size w w' := by
  have CR := register_any s hs
  by_cases h0 : s.size = 0
  · have hb : nameB s = false := by unfold nameB; simp [h0]
    have h0' : (s.toList == []) = true := by
      rw [Go.ByteArray.toList_eq]
      have : s.data.toList.length = 0 := by rw [Array.length_toList]; exact h0
      rw [List.length_eq_zero_iff.1 this]
      rfl
    rw [hb]
    clear hb CR
    go_enter Tryz.func72, Tryz.ntmps72
    go_wp2_with (refine (isDigit_any _ _).mono ?_; rintro e w1 ⟨rfl, rfl⟩)
    go_ret
    exact ⟨rfl, Below.refl _ _⟩
  have h0' : (s.toList == []) = false := by
    rw [beq_eq_false_iff_ne, Go.ByteArray.toList_eq]
    intro h
    have : s.data.toList.length = 0 := by rw [h]; rfl
    rw [Array.length_toList] at this
    exact h0 this
  by_cases h30 : 30 < s.size
  · have hb : nameB s = false := by unfold nameB; simp [show ¬ s.size ≤ 30 by omega]
    rw [hb]
    clear hb CR
    go_enter Tryz.func72, Tryz.ntmps72
    go_wp2_with (refine (isDigit_any _ _).mono ?_; rintro e w1 ⟨rfl, rfl⟩)
    go_ret
    exact ⟨rfl, Below.refl _ _⟩
  have hz : ∀ k (h : k < s.size), ((s[k].toNat : Nat) : Int) = bsA s k := fun k h => by
    unfold bsA
    rw [List.getD_eq_getElem?_getD, Array.getElem?_toList, Array.getElem?_eq_getElem (show k < s.data.size from h)]
    rfl
  have hd0 : (((s.data.toList.headD 0).toNat : Nat) : Int) = bsA s 0 := by unfold bsA; cases s.data.toList <;> rfl
  have hall : s.data.toList.all (fun c => chrB ((c.toNat : Nat) : Int)) = true ↔ ∀ k, k < s.size → chrB (bsA s k) = true := by
    rw [List.all_eq_true]
    have hl : s.data.toList.length = s.size := by rw [Array.length_toList]; rfl
    constructor
    · intro h k hk
      unfold bsA
      rw [List.getD_eq_getElem?_getD, List.getElem?_eq_getElem (by omega)]
      exact h _ (List.getElem_mem _)
    · intro h c hc
      obtain ⟨k, hk, rfl⟩ := List.getElem_of_mem hc
      have := h k (by omega)
      unfold bsA at this
      rw [List.getD_eq_getElem?_getD, List.getElem?_eq_getElem hk] at this
      exact this
  have hnb : nameB s = (!digB (bsA s 0) && s.data.toList.all (fun c => chrB ((c.toNat : Nat) : Int)) && (regO s).isNone) := by
    unfold nameB
    rw [hd0, show (s.size == 0) = false from by rw [beq_eq_false_iff_ne]; exact h0, show decide (s.size ≤ 30) = true from decide_eq_true (by omega)]
    simp only [Bool.not_false, Bool.true_and]
  rw [hnb]
  have hpos : 0 < s.size := by omega
  have hz0 := hz 0 hpos
  have HZ : Hid (∀ k (h : k < s.size), ((s[k].toNat : Nat) : Int) = bsA s k) := hz
  clear hz hd0 hnb
  generalize hAll : s.data.toList.all (fun c => chrB ((c.toNat : Nat) : Int)) = al at *
  clear hAll
  cases hdg : digB (bsA s 0) with
  | true =>
    go_enter Tryz.func72, Tryz.ntmps72
    go_wp2_with fail
    refine (isDigit_any _ _).mono ?_
    rintro e w1 ⟨rfl, rfl⟩
    rw [hdg]
    go_wp2_with fail
    go_ret
    exact ⟨rfl, Below.refl _ _⟩
  | false =>
    go_enter Tryz.func72, Tryz.ntmps72
    go_wp2_with fail
    refine (isDigit_any _ _).mono ?_
    rintro e w1 ⟨rfl, rfl⟩
    rw [hdg]
    go_wp2_with fail
    go_loop [20] (fun i => ∃ k : Nat, k ≤ s.size ∧ i = .int .i64 k ∧ ∀ j, j < k → chrB (bsA s j) = true) (fun i => s.size - (intOf i).toNat)
    case atStart => exact ⟨0, by omega, rfl, fun j hj => by omega⟩
    case round =>
      obtain ⟨k, hk, rfl, hall0⟩ := hrel
      by_cases hlt : k < s.size
      · have hzk := HZ.out k hlt
        have HA0 : Hid (∀ j, j < k → chrB (bsA s j) = true) := hall0
        have HAL : Hid (al = true ↔ ∀ k, k < s.size → chrB (bsA s k) = true) := hall
        clear hall hall0 CR
        have hno : chrB (bsA s k) = false → al = false := fun h => by
          cases hq : al with
          | false => rfl
          | true => rw [HAL.out.1 hq k hlt] at h; cases h
        have HYES : Hid (chrB (bsA s k) = true → ∀ j, j < k + 1 → chrB (bsA s j) = true) := fun h j hj => by
          rcases Nat.lt_or_ge j k with h' | h'
          · exact HA0.out j h'
          · obtain rfl : j = k := by omega
            exact h
        generalize bsA s k = z at *
        unfold chrB at hno HYES
        cases hdz : digB z with
        | true =>
          go_wp2_with fail
          refine (isDigit_any _ _).mono ?_
          rintro e w2 ⟨rfl, rfl⟩
          rw [hdz]
          go_wp2_with fail
          go_round
          case rel => exact ⟨k + 1, by omega, by go_num, HYES.out (by rw [hdz]; rfl)⟩
          case measure => simp [intOf]; omega
        | false =>
          by_cases h95 : z = 95
          · subst h95
            go_wp2_with fail
            refine (isDigit_any _ _).mono ?_
            rintro e w2 ⟨rfl, rfl⟩
            rw [hdz]
            go_wp2_with fail
            go_round
            case rel => exact ⟨k + 1, by omega, by go_num, HYES.out rfl⟩
            case measure => simp [intOf]; omega
          · by_cases hr1 : z < 97
            · have hal := hno (by rw [hdz]; simp [h95]; omega)
              subst hal
              clear hno
              go_wp2_with fail
              refine (isDigit_any _ _).mono ?_
              rintro e w2 ⟨rfl, rfl⟩
              rw [hdz]
              go_wp2_with fail
              go_ret
              exact ⟨by simp, Below.refl _ _⟩
            · by_cases hr2 : 122 < z
              · have hal := hno (by rw [hdz]; simp [h95]; omega)
                subst hal
                clear hno
                go_wp2_with fail
                refine (isDigit_any _ _).mono ?_
                rintro e w2 ⟨rfl, rfl⟩
                rw [hdz]
                go_wp2_with fail
                go_ret
                exact ⟨by simp, Below.refl _ _⟩
              · clear hno
                go_wp2_with fail
                refine (isDigit_any _ _).mono ?_
                rintro e w2 ⟨rfl, rfl⟩
                rw [hdz]
                go_wp2_with fail
                go_round
                case rel => exact ⟨k + 1, by omega, by go_num, HYES.out (by rw [hdz]; simp; omega)⟩
                case measure => simp [intOf]; omega
      · obtain rfl : k = s.size := by omega
        have hal : al = true := hall.2 hall0
        subst hal
        clear hall hall0
        go_wp2_with fail
        refine (CR _ he).mono ?_
        rintro e w2 ⟨⟨v, rfl, _⟩, hb⟩
        go_wp2_with fail
        go_ret
        exact ⟨by cases regO s <;> rfl, hb⟩
end Go.Proofs.YtopankjjlapfbaaGreatDoor
