/-
  The document's Begin: its contract.
-/
import Derived.Test.YtgiafngiledmbaaRg
namespace Go.Proofs.Ytgiafngiledmbaa
open Go.RowKit Go.Maps
set_option linter.unusedVariables false
set_option maxRecDepth 100000
section
variable {w : World} {r : Nat} {v : Value} {L : List Tm}
/-- what Begin leaves -/
def BeR (w : World) (r : Nat) (v : Value) (L : List Tm) (k c : Int) (w' : World) : Prop := ∃ v', DX w' r v' (beL L k c) ∧ Trn (Sr r v) w w' ∧ ∀ j, v'.ownBlock = some j → v.ownBlock = some j ∨ w.heap.size ≤ j
set_option maxHeartbeats 1600000 in
theorem rbegin_no (h : DX w r v L) (k c : Int) (he : beE L k ≠ 0) : Calls Try.prog 21 #[.pointer (some ⟨r, 0, none⟩), .int .i64 k, .int .u64 c] w fun e w' => e = .returned (.int .i64 (beE L k)) ∧ BeR w r v L k c w' := by
  have H0 : Hid (BeR w r v L k c w) := ⟨v, by unfold beL; rw [if_neg he]; exact h, Trn.refl _ _, fun j hj => .inl hj⟩
  cases hf : fnd L k with
  | some x =>
    obtain ⟨i, hi, C'⟩ := find_at h hf
    have e3 : beE L k = 13 := by unfold beE; rw [hf]; rfl
    rw [e3]
    have hi0 : (0 : Int) ≤ (i : Int) := by omega
    clear h hf hi e3 he
    go_enter Try.func21, Try.ntmps21
    go_wp2_with fail
    refine C'.mono ?_
    rintro e w1 ⟨rfl, rfl⟩
    go_wp2_with fail
    go_ret
    exact ⟨rfl, H0.out⟩
  | none =>
    have C' := find_no h hf
    have hq : 64 ≤ L.length := by
      unfold beE at he
      rw [hf] at he
      simp at he
      exact he
    have e3 : beE L k = 18 := by unfold beE; rw [hf]; simp [hq]
    rw [e3]
    obtain ⟨a, cc, hv⟩ := h.its.form
    subst hv
    have c0 := h.c0
    have hl := h.lt
    have hq' : (64 : Int) ≤ (L.length : Int) := by omega
    clear h hf e3 he
    go_enter Try.func21, Try.ntmps21
    go_wp2_with fail
    refine C'.mono ?_
    rintro e w1 ⟨rfl, rfl⟩
    go_wp2_with fail
    go_ret
    exact ⟨rfl, H0.out⟩
set_option maxHeartbeats 3200000 in
theorem rbegin_nil (h : DX w r (.slice none 0 0) []) (k c : Int) (hk : KW k) (hc : 0 ≤ c) : Calls Try.prog 21 #[.pointer (some ⟨r, 0, none⟩), .int .i64 k, .int .u64 c] w fun e w' => e = .returned (.int .i64 0) ∧ BeR w r (.slice none 0 0) [] k c w' := by
  have C' := find_no h (show fnd [] k = none from rfl)
  have hok : LOk (([] : List Tm).take 0 ++ nw k c :: ([] : List Tm).drop 0) := ⟨by simp, fun y hy => by simp at hy; subst hy; exact ⟨hk, cap_0 hc, cap_le c, by simp [nw], by simp [nw], by simp [nw], by simp [nw]⟩, by simp⟩
  obtain ⟨v1, w1, v2, w2, v3, w3, r1, r2, r3, b1, b2, b3, P1, P2, P3⟩ := begin_runs h 0 (by simp) hok (.slice none 0 0) (.slice none 0 0) (.inl ⟨rfl, rfl, rfl, rfl⟩)
  have hbe : beL [] k c = [nw k c] := rfl
  obtain ⟨a3, n3, k3, hv3⟩ : ∃ a n k, v3 = .slice a n k := by obtain ⟨a, k, e⟩ := P1.its.form; exact ⟨a, _, k, e⟩
  subst hv3
  have H0 : Hid (BeR w r (.slice none 0 0) [] k c (w3.setCell ⟨r, 0, none⟩ (.slice a3 n3 k3))) := ⟨_, P1, P2, fun j hj => .inr (P3 j hj)⟩
  have c0 := h.c0
  have hl := h.lt
  have e1 := b1.trans h.ob
  have e2 := b2.trans h.ob
  have e3 := b3.trans h.ob
  have x1 : w1.cell? ⟨r, 0, none⟩ = some (.slice none 0 0) := by rw [cell_at e1]; rfl
  have x2 : w2.cell? ⟨r, 0, none⟩ = some (.slice none 0 0) := by rw [cell_at e2]; rfl
  have x3 : w3.cell? ⟨r, 0, none⟩ = some (.slice none 0 0) := by rw [cell_at e3]; rfl
  have f3 : w3.frozen? ⟨r, 0, none⟩ = false := fz_at e3 0
  have l1 := lt_of_heap e1
  have l2 := lt_of_heap e2
  have l3 := lt_of_heap e3
  have r2' : (Builtin.append_ #[26, 26] 26 #[v1, .slice (some ⟨w1.heap.size, 0, none⟩) 1 1]).run Try.prog (w1.alloc (.cells #[.int .i64 k, .int .u64 (cap c), .bool false, .int .u64 0, .bool false, .int .u64 0] 63)) = .ok v2 w2 := r2
  have K := fun w' => capped_any c w'
  generalize cap c = cp at *
  clear h hok hbe P1 P2 P3 b1 b2 b3 e1 e2 e3 r2
  go_enter Try.func21, Try.ntmps21
  go_wp2_with fail
  refine C'.mono ?_
  rintro e w0 ⟨rfl, rfl⟩
  go_wp2_with fail
  go_loopw [7] (fun q wr => q = .int .i64 0 ∧ wr = w0) (fun _ _ => 0)
  case atStart => exact ⟨rfl, rfl⟩
  case round =>
    obtain ⟨rfl, rfl⟩ := hrel
    go_wp2_with (first | refine step_app rfl _ _ 26 rfl _ _ _ _ rfl rfl r1 ?_ | refine step_app rfl _ _ 26 rfl _ _ _ _ rfl rfl r2' ?_ | refine step_app rfl _ _ 26 rfl _ _ _ _ rfl rfl r3 ?_)
    refine (K _).mono ?_
    rintro e y ⟨rfl, rfl⟩
    go_wp2_with (first | refine step_app rfl _ _ 26 rfl _ _ _ _ rfl rfl r1 ?_ | refine step_app rfl _ _ 26 rfl _ _ _ _ rfl rfl r2' ?_ | refine step_app rfl _ _ 26 rfl _ _ _ _ rfl rfl r3 ?_)
    go_ret
    exact ⟨rfl, H0.out⟩
/-- the tail: where it is put -/
theorem begin_at (h : DX w r v L) {k c : Int} (hk : KW k) (hc : 0 ≤ c) (hf : fnd L k = none) (hl : L.length < 64) (p : Nat) (hp : p ≤ L.length) (h1 : ∀ i y, i < p → L[i]? = some y → y.id < k) (h2 : ∀ y, L[p]? = some y → ¬ y.id < k) :
    beL L k c = L.take p ++ nw k c :: L.drop p ∧ LOk (L.take p ++ nw k c :: L.drop p) := by
  have e := ins_at (x := nw k c) p h1 hp h2
  have ho : (nw k c).Ok := ⟨hk, cap_0 hc, cap_le c, by simp [nw], by simp [nw], by simp [nw], by simp [nw]⟩
  have hb : beE L k = 0 := by unfold beE; rw [hf]; simp; omega
  have ok := h.ok.ins ho hf hl
  rw [e] at ok
  exact ⟨by unfold beL; rw [if_pos hb, e], ok⟩
end
end Go.Proofs.Ytgiafngiledmbaa
