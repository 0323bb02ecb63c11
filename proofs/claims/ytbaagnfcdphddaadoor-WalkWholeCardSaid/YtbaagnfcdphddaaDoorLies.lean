/-
  What is found allows what was asked for, and where it lies: over plain functions.
-/
import Derived.Test.YtbaagnfcdphddaaDoorWlk15
namespace Go.Proofs.YtbaagnfcdphddaaDoor
open Go.RowKit
set_option linter.unusedVariables false

theorem walkR_no_value {R : Int → Int → Rr} {root t a c v g : Int} {u : Bool} (hR : ∀ f p c v g, R f p = .no c v g → v = t) (h : walkR R root t a u = .no c v g) : v = t := by
  unfold walkR at h
  split at h
  · split at h
    · rename_i hn; cases h; exact hR _ _ _ _ _ hn
    · split at h
      · split at h
        · rename_i hn; cases h; exact hR _ _ _ _ _ hn
        · split at h
          · cases h
          · cases h; rfl
      · cases h; rfl
  · cases h; rfl
theorem rdR_no_value {zs : List Int} {t a f p c v g : Int} (h : rdR zs t a f p = .no c v g) : v = t := by
  unfold rdR at h
  cases hr : readP zs f p with
  | none => rw [hr] at h; cases h; rfl
  | some e' => rw [hr] at h; cases h
theorem fsR_no_value {zs : List Int} {second t a f p c v g : Int} (h : fsR zs second t a f p = .no c v g) : v = t := by
  unfold fsR at h
  split at h
  · split at h
    · cases h; rfl
    · exact rdR_no_value h
  · cases h; rfl
theorem firstP_no_value {zs : List Int} {first second t a c v g : Int} {u : Bool} (h : firstP zs first second t a u = .no c v g) : v = t := by
  unfold firstP at h
  split at h
  · split at h
    · cases h
    · cases h; rfl
  · split at h
    · cases h
    · rename_i hn; cases h; exact walkR_no_value (fun f p c v g h => fsR_no_value h) hn
/-- a trap tells the address -/
theorem twoP_no {zs : List Int} {first second t a c v g : Int} {u : Bool} (h : twoP zs first second t a u = .no c v g) : c ≠ 0 ∧ v = t := by
  unfold twoP at h
  cases hz : firstP zs first second t a u with
  | no c' v' g' => rw [hz] at h; cases h; exact ⟨firstP_no hz, firstP_no_value hz⟩
  | ok f r w x k l =>
    rw [hz] at h
    simp only at h
    cases hn : oneP zs second (f * 256 + t % 256) a true with
    | none => rw [hn] at h; cases h; exact ⟨fault_ne2 a, rfl⟩
    | some E => rw [hn] at h; cases h

theorem walkR_allow {R : Int → Int → Rr} {root t a : Int} {u : Bool} {e : En} (h : walkR R root t a u = .ok e) : t < 262144 ∧ allowP e.v e.r e.w e.x e.u a u = true := by
  unfold walkR refR at h
  split at h
  · refine ⟨by assumption, ?_⟩
    split at h
    · cases h
    · split at h
      · split at h
        · cases h
        · split at h
          · cases h; assumption
          · cases h
      · cases h
  · cases h
theorem oneP_allow {zs : List Int} {root t a : Int} {u : Bool} {e : En} (h : oneP zs root t a u = some e) : t < 262144 ∧ allowP e.v e.r e.w e.x e.u a u = true := by
  unfold oneP at h
  split at h
  · cases h
  · split at h
    · rename_i hn; cases h; exact walkR_allow hn
    · cases h
/-- the same page at its first byte -/
theorem oneP_page {zs : List Int} {root t a : Int} {u : Bool} {e : En} (h0 : 0 ≤ t) (h : oneP zs root t a u = some e) : oneP zs root (t / 8192 * 8192 + t / 256 % 32 * 256) a u = some e := by
  have ht := (oneP_allow h).1
  have e0 : t / 8192 * 8192 + t / 256 % 32 * 256 < 262144 := by omega
  have e1 : (t / 8192 * 8192 + t / 256 % 32 * 256) / 8192 = t / 8192 := by omega
  have e2 : (t / 8192 * 8192 + t / 256 % 32 * 256) / 256 % 32 = t / 256 % 32 := by omega
  generalize hs : t / 8192 * 8192 + t / 256 % 32 * 256 = s at *
  unfold oneP walkR at *
  by_cases hr : root < 0
  · rw [if_pos hr] at h; cases h
  rw [if_neg hr] at h ⊢
  rw [if_pos ht] at h
  rw [if_pos e0, e1, e2]
  unfold rdR at *
  cases h1 : readP zs root (t / 8192) with
  | none => rw [h1] at h; simp [refR] at h
  | some tb =>
    rw [h1] at h
    simp only at h ⊢
    by_cases h2 : (tb.v && !leafP tb.v tb.r tb.x) = true
    · rw [if_pos h2] at h ⊢
      cases h3 : readP zs tb.f (t / 256 % 32) with
      | none => rw [h3] at h; simp [refR] at h
      | some pg =>
        rw [h3] at h
        simp only at h ⊢
        by_cases h4 : allowP pg.v pg.r pg.w pg.x pg.u a u = true
        · rw [if_pos h4] at h ⊢; exact h
        · rw [if_neg h4] at h; simp [refR] at h
    · rw [if_neg h2] at h; simp [refR] at h

theorem allow_grant {v r w x k u : Bool} {a : Int} (h : allowP v r w x k a u = true) : k = u ∧ grantP r w x a = true := by
  unfold allowP at h
  simp at h
  exact ⟨h.1.2, h.2⟩
theorem grant_cases {r w x : Bool} {a : Int} (h : grantP r w x a = true) : (a = 0 ∧ x = true) ∨ (a = 1 ∧ r = true) ∨ (a = 2 ∧ w = true) := by
  unfold grantP at h
  split at h
  · exact .inl ⟨by assumption, h⟩
  · split at h
    · exact .inr (.inl ⟨by assumption, h⟩)
    · split at h
      · exact .inr (.inr ⟨by assumption, h⟩)
      · cases h
theorem firstP_grant {zs : List Int} {first second t a f l : Int} {u r w x k : Bool} (ha : a = 0 ∨ a = 1 ∨ a = 2) (h : firstP zs first second t a u = .ok f r w x k l) : k = u ∧ grantP r w x a = true := by
  unfold firstP at h
  split at h
  · split at h
    · cases h
      refine ⟨rfl, ?_⟩
      rcases ha with rfl | rfl | rfl <;> rfl
    · cases h
  · split at h
    · rename_i hn; cases h; exact allow_grant (walkR_allow hn).2
    · cases h
/-- a page that is found allows what was asked for, and the second stage has it -/
theorem twoP_ok {zs : List Int} {first second t a f l : Int} {u r w x k : Bool} (h0 : 0 ≤ t) (h : twoP zs first second t a u = .ok f r w x k l) :
    k = u ∧ ((a = 0 ∧ x = true) ∨ (a = 1 ∧ r = true) ∨ (a = 2 ∧ w = true)) ∧ ∃ (U L : Nat) (E : En), U < 32 ∧ L < 32 ∧ E.f = f ∧ oneP zs second ((U : Int) * 8192 + L * 256) a true = some E := by
  unfold twoP at h
  cases hz : firstP zs first second t a u with
  | no c' v' g' => rw [hz] at h; cases h
  | ok f' r' w' x' k' l' =>
    rw [hz] at h
    simp only at h
    have hf := firstP_frame h0 hz
    cases hn : oneP zs second (f' * 256 + t % 256) a true with
    | none => rw [hn] at h; cases h
    | some E =>
      rw [hn] at h
      cases h
      have hp := oneP_page (by omega) hn
      have hal := oneP_allow hn
      have hg := (allow_grant hal.2).2
      have hc := grant_cases hg
      have ha : a = 0 ∨ a = 1 ∨ a = 2 := by rcases hc with h | h | h <;> simp [h.1]
      have hb := firstP_grant ha hz
      refine ⟨hb.1, ?_, ?_⟩
      · have hc' := grant_cases hb.2
        rcases hc with ⟨rfl, hx⟩ | ⟨rfl, hx⟩ | ⟨rfl, hx⟩
        · rcases hc' with ⟨_, hy⟩ | ⟨h', _⟩ | ⟨h', _⟩
          · exact .inl ⟨rfl, by simp [hx, hy]⟩
          · omega
          · omega
        · rcases hc' with ⟨h', _⟩ | ⟨_, hy⟩ | ⟨h', _⟩
          · omega
          · exact .inr (.inl ⟨rfl, by simp [hx, hy]⟩)
          · omega
        · rcases hc' with ⟨h', _⟩ | ⟨h', _⟩ | ⟨_, hy⟩
          · omega
          · omega
          · exact .inr (.inr ⟨rfl, by simp [hx, hy]⟩)
      · have hq : 0 ≤ f' * 256 + t % 256 := by omega
        have hlt := hal.1
        generalize f' * 256 + t % 256 = q at *
        refine ⟨(q / 8192).toNat, (q / 256 % 32).toNat, E, by omega, by omega, rfl, ?_⟩
        rw [Int.toNat_of_nonneg (by omega), Int.toNat_of_nonneg (by omega)]
        exact hp
end Go.Proofs.YtbaagnfcdphddaaDoor
