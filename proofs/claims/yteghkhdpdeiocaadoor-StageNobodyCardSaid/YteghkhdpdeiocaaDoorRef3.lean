/-
  What the document's Clear does: its contract.
-/
import Derived.Test.YteghkhdpdeiocaaDoorMem6
import Derived.Test.YteghkhdpdeiocaaDoorRef2
namespace Go.Proofs.YteghkhdpdeiocaaDoor
open Go.RowKit
set_option linter.unusedVariables false
set_option maxRecDepth 100000

theorem rmclear_any (b g : Nat) (zs : List Int) (f : Int) (w : World) (h : RM w b g zs) :
    Calls Tryd.prog 87 #[.pointer (some ⟨b, 0, none⟩), .int .i64 f] w fun e w' => e = .returned (.int .i64 (clrE zs.length f)) ∧ RM w' b g (clearV zs f) ∧ w.grownBy w' (some g) := by
  have hl := h.len
  have hc := h.cell0
  have hlt := h.blt
  by_cases h0 : f < 0
  · rw [show clrE zs.length f = 12 by rw [clrE, if_neg (by omega)], show clearV zs f = zs by rw [clearV, if_neg (by omega)]]
    go_enter Tryd.func87, Tryd.ntmps87
    go_wp2_with fail
    go_ret
    exact ⟨rfl, h, grown_refl _ _⟩
  · by_cases h1 : f < (zs.length : Int) / 256
    · rw [show clrE zs.length f = 0 by rw [clrE, if_pos (by omega)], show clearV zs f = splice zs (f.toNat * 256) (List.replicate 256 0) by rw [clearV, if_pos (by omega)]]
      obtain ⟨F, rfl⟩ := Int.eq_ofNat_of_zero_le (show 0 ≤ f by omega)
      rw [Int.toNat_natCast]
      have hle : F * 256 + 256 ≤ zs.length := by omega
      go_enter Tryd.func87, Tryd.ntmps87
      go_wp2_with fail
      clear hc hlt
      go_loopw [5] (fun i wr => ∃ k : Nat, k ≤ 256 ∧ i = .int .i64 k ∧ RM wr b g (splice zs (F * 256) (List.replicate k 0)) ∧ w.grownBy wr (some g)) (fun i _ => 256 - (intOf i).toNat)
      case atStart => exact ⟨0, by omega, rfl, by rw [List.replicate_zero, splice_nil]; exact h, grown_refl _ _⟩
      case round =>
        obtain ⟨k, hk, rfl, hm, hgr⟩ := hrel
        by_cases hlt : k < 256
        · have htl : (List.replicate k (0 : Int)).length = k := List.length_replicate
          have hlen := length_splice zs (F * 256) (List.replicate k 0) (by omega)
          have hc := hm.cell0
          have hbl := hm.blt
          have hgl := hm.glt
          have htk := hm.rowAt (F * 256 + k) (by omega)
          have hfz : wr.frozen? ⟨g, F * 256 + k, none⟩ = false := by simp [World.frozen?, hm.row]
          have ST := hm.set (F * 256 + k) 0 (by omega) (by omega) (by omega)
          have e1 : (splice zs (F * 256) (List.replicate k 0)).set (F * 256 + k) 0 = splice zs (F * 256) (List.replicate (k + 1) 0) := by
            rw [List.replicate_succ', splice_snoc zs _ _ (F * 256) (by omega), htl]
          rw [e1] at ST
          have HST : Hid (_) := ST
          have HG : Hid (_) := hgr
          rw [hlen] at hc
          clear ST e1 hm hgr hlen htl h
          generalize (splice zs (F * 256) (List.replicate k 0)).getD (F * 256 + k) 0 = y at *
          go_wp2_with fail
          exact ⟨⟨k + 1, by omega, by go_num, HST.out.1, grown_trans HG.out HST.out.2⟩, by simp [intOf]; omega⟩
        · obtain rfl : k = 256 := by omega
          go_wp2_with fail
          go_ret
          exact ⟨rfl, hm, hgr⟩
    · rw [show clrE zs.length f = 12 by rw [clrE, if_neg (by omega)], show clearV zs f = zs by rw [clearV, if_neg (by omega)]]
      go_enter Tryd.func87, Tryd.ntmps87
      go_wp2_with fail
      go_ret
      exact ⟨rfl, h, grown_refl _ _⟩

end Go.Proofs.YteghkhdpdeiocaaDoor
