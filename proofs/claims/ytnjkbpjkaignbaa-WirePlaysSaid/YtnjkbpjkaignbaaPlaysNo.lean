/-
  The walk of WirePlays where there is no wire.
-/
import Derived.Test.YtnjkbpjkaignbaaPb
namespace Go.Proofs.Ytnjkbpjkaignbaa
open Go.RowKit
set_option linter.unusedVariables false
set_option maxRecDepth 20000
namespace wirePlays
set_option maxHeartbeats 4000000 in
theorem walk_no (ga : Option Addr) (n gc0 : Nat) (zs : List Int) (hN : n < 1 ∨ 32 < n) (hzl : zs.length = n) (hn8 : n * 8 ≤ 140737488355328) (hnil : ga = none → n = 0 ∧ gc0 = 0) (ad : Option Addr) (len cap : Nat) (w : World) (hG : Nu w ga n zs) (hlen : len < 9223372036854775808) :
    Calls Try.prog 3 #[.slice ga n gc0, .slice ad len cap] w fun e w' => e = .returned (.bool true) ∧ Below w.heap.size w w' := by
  have bE : Below w.heap.size w (w.alloc (.cells #[] 3)) := (Below.refl _ _).alloc (Nat.le_refl _) _
  have hownA : (w.alloc (.cells #[] 3)).ownsRow w.heap.size 3 1 (.slice (some ⟨w.heap.size, 0, none⟩) 0 0) 0 [] := World.ownsRow_lit w #[] 0 (Nat.le_refl _) (by decide) rfl
  have hGA : Nu (w.alloc (.cells #[] 3)) ga n zs := hG.below bE
  have HG : Hid (Below w.heap.size w (w.alloc (.cells #[] 3)) ∧ (ga = none → n = 0 ∧ gc0 = 0)) := ⟨bE, hnil⟩
  clear hG bE hnil
  go_enter Try.func3, Try.ntmps3
  go_wp2_with (at_builtin; refine wpList_append_in rfl (.tmp 25) (.tmp 26) rfl w.heap.size (.slice (some ⟨w.heap.size, 0, none⟩) 0 0) rfl hownA ga n gc0 zs hzl rfl HG.out.2 hGA hn8 (by simp) ?_; intro v1 w1 hown1 hgrow1; obtain ⟨a1, c1, rfl, hnu1, hin1⟩ := own_in hown1 hzl)
  have bw : Below w.heap.size w w1 := HG.out.1.grown hgrow1 (by simp) (by intro k h; cases h; exact Nat.le_refl _)
  have NW := new_bad a1 n c1 hN w1
  have RN := rnew_bad ga n gc0 hN w1
  have H1 : Hid (Below w.heap.size w w1 ∧ (n = 0 ∨ ∃ X, a1 = some ⟨X, 0, none⟩ ∧ w.heap.size ≤ X ∧ IR w1 X n)) := ⟨bw, hin1⟩
  clear hownA hGA hown1 hgrow1 hnu1 hin1 bw HG hN
  refine NW.mono ?_
  rintro e w1 ⟨rfl, rfl⟩
  clear NW
  go_wp2_with fail
  refine RN.mono ?_
  rintro e w1 ⟨rfl, rfl⟩
  clear RN
  go_wp2_with fail
  refine (names_any _).mono ?_
  rintro e w1 ⟨rfl, rfl⟩
  go_wp2_with fail
  go_loopw [10] (fun q wr => ∃ j : Nat, j ≤ n ∧ q = .int .i64 j ∧ Hid (Below w.heap.size w wr ∧ (n = 0 ∨ ∃ X, a1 = some ⟨X, 0, none⟩ ∧ w.heap.size ≤ X ∧ IR wr X n))) (fun q _ => n - (intOf q).toNat)
  case atStart => exact ⟨0, by omega, rfl, H1⟩
  case round =>
    obtain ⟨j, hj, rfl, HS⟩ := hrel
    clear H1
    by_cases hjn : j < n
    · have hjn' : (j : Int) < (n : Int) := by omega
      rcases HS.out.2 with h0 | ⟨X, rfl, hX1, hX2⟩
      · omega
      obtain ⟨⟨z, cz⟩, fz, xl⟩ := hX2.at j hjn
      have EN : Hid (∀ z', Below w.heap.size w (wr.setCell ⟨X, j, none⟩ (.int .i64 z')) ∧ (n = 0 ∨ ∃ X', some (⟨X, 0, none⟩ : Addr) = some ⟨X', 0, none⟩ ∧ w.heap.size ≤ X' ∧ IR (wr.setCell ⟨X, j, none⟩ (.int .i64 z')) X' n)) := fun z' => by
        obtain ⟨f1, f2⟩ := hX2.set j hjn z'
        exact ⟨HS.out.1.trans (f2.below (fun k hk => hk ▸ hX1) HS.out.1.size), .inr ⟨X, rfl, hX1, f1⟩⟩
      clear HS hX2
      go_wp2_with fail
      go_roundw
      case rel => exact ⟨j + 1, by omega, by go_num, EN.out _⟩
      case measure => simp [intOf]; omega
    · have hj9 : (n : Int) ≤ (j : Int) := by omega
      have hd9 : decide (j < n) = false := decide_eq_false hjn
      have E1 : Hid (Below w.heap.size w wr) := HS.out.1
      clear HS hj hjn
      obtain ⟨wq, rfl⟩ : ∃ wq, wq = wr := ⟨_, rfl⟩
      go_wp2_with fail
      go_loopw [11] (fun q wr => q = .int .i64 0 ∧ Hid (Below w.heap.size w wr)) (fun _ _ => 0)
      case atStart => exact ⟨rfl, E1⟩
      case round =>
        obtain ⟨rfl, HB⟩ := hrel
        by_cases hl0 : 0 < len
        case' pos => have hl0' : (0 : Int) < (len : Int) := by omega
        case' neg => have hl0' : (len : Int) ≤ 0 := by omega
        all_goals
          go_wp2_with fail
          go_ret
          exact ⟨rfl, HB.out⟩
end wirePlays
end Go.Proofs.Ytnjkbpjkaignbaa
