/-
  What One, secondStage and itself tell: their contracts.
-/
import Derived.Test.YtbaagnfcdphddaaDoorWlk10
namespace Go.Proofs.YtbaagnfcdphddaaDoor
open Go.RowKit
set_option linter.unusedVariables false
set_option maxRecDepth 20000

/-- P6.1: the page that One finds -/
def oneP (zs : List Int) (root t a : Int) (u : Bool) : Option En :=
  if root < 0 then none else match walkR (rdR zs t a) root t a u with
    | .ok e => some e
    | .no _ _ _ => none
def oneV : Option En → Value
  | none => .tuple #[foundV 0 false false false false 0, .bool false]
  | some e => .tuple #[foundV e.f e.r e.w e.x e.u 2, .bool true]

theorem below_of_grown {w w' : World} (h : w.grownBy w' none) : Below w.heap.size w w' := ⟨h.os, h.tape, h.output, h.size, fun k hk => h.block k hk (by simp)⟩

theorem walkR_no {R : Int → Int → Rr} {root t a c v g : Int} {u : Bool} (hR : ∀ f p c v g, R f p = .no c v g → c ≠ 0) (h : walkR R root t a u = .no c v g) : c ≠ 0 := by
  unfold walkR at h
  split at h
  · split at h
    · rename_i hn; cases h; exact hR _ _ _ _ _ hn
    · split at h
      · split at h
        · rename_i hn; cases h; exact hR _ _ _ _ _ hn
        · split at h
          · cases h
          · cases h; exact fault_ne a
      · cases h; exact fault_ne a
  · cases h; exact fault_ne a

theorem one_walk (t a : Int) (u : Bool) (root : Int) (b g c m : Nat) (zs : List Int) (h0 : 0 ≤ t) (h1 : t < 18446744073709551616) (hr0 : 0 ≤ root) (hr1 : root < 9223372036854775808) (W0 : World) (hS : St W0 b g zs) (hc : c < W0.heap.size) (hm : m < W0.heap.size)
    (c0 : W0.cell? ⟨c, 0, none⟩ = some (.int .u64 t)) (c1 : W0.cell? ⟨c, 1, none⟩ = some (.int .i64 a)) (c2 : W0.cell? ⟨c, 2, none⟩ = some (.bool u)) (m0 : W0.cell? ⟨m, 0, none⟩ = some (.iface 26 (.pointer (some ⟨b, 0, none⟩)))) :
    Calls Tryd.prog 19 #[.agg #[.int .u64 t, .int .i64 a, .bool u], .int .i64 root, .func (.func 20) #[] #[.pointer (some ⟨c, 0, none⟩), .pointer (some ⟨m, 0, none⟩)]] W0 fun e W' => e = .returned (walkR (rdR zs t a) root t a u).val ∧ Below W0.heap.size W0 W' :=
  (walk_any 20 #[.pointer (some ⟨c, 0, none⟩), .pointer (some ⟨m, 0, none⟩)] none (fun _ w => Below W0.heap.size W0 w) (rdR zs t a) root t a u h0 h1 hr0 hr1 W0 (one_reads t a u b g c m zs W0 hS hc hm c0 c1 c2 m0) (Below.refl _ _)).mono
    fun e w' ⟨x, y, _⟩ => ⟨x, below_of_grown y⟩

theorem below_set6 {B : Nat} {W w : World} (h : Below B W w) {b : Nat} (hb : B ≤ b) (v0 v1 v2 v3 v4 v5 : Value) :
    Below B W ((((((w.setCell ⟨b, 0, none⟩ v0).setCell ⟨b, 1, none⟩ v1).setCell ⟨b, 2, none⟩ v2).setCell ⟨b, 3, none⟩ v3).setCell ⟨b, 4, none⟩ v4).setCell ⟨b, 5, none⟩ v5) :=
  (((((h.setCell hb _).setCell hb _).setCell hb _).setCell hb _).setCell hb _).setCell hb _

theorem one_neg (t a : Int) (u : Bool) (root : Int) (b : Nat) (hr : root < 0) (W : World) :
    Calls Tryd.prog 8 #[.iface 26 (.pointer (some ⟨b, 0, none⟩)), .int .i64 root, .int .u64 t, .int .i64 a, .bool u] W fun e W' => e = .returned (oneV none) ∧ Below W.heap.size W W' := by
  unfold oneV foundV
  go_enter Tryd.func8, Tryd.ntmps8
  go_wp2_with fail
  refine bodyPost_ret (v := _) ?h1 rfl ⟨rfl, ((Below.refl _ _).alloc (Nat.le_refl _) _).alloc (by simp) _⟩
  case h1 => simp [results, Tryd.results8, go_sem]

set_option maxHeartbeats 1600000 in
theorem one_pos (t a : Int) (u : Bool) (root : Int) (b g : Nat) (zs : List Int) (h0 : 0 ≤ t) (h1 : t < 18446744073709551616) (hr0 : 0 ≤ root) (hr1 : root < 9223372036854775808) (W : World) (hS : St W b g zs) :
    Calls Tryd.prog 8 #[.iface 26 (.pointer (some ⟨b, 0, none⟩)), .int .i64 root, .int .u64 t, .int .i64 a, .bool u] W fun e W' => e = .returned (oneV (match walkR (rdR zs t a) root t a u with | .ok e => some e | .no _ _ _ => none)) ∧ Below W.heap.size W W' := by
  have hmf : ∀ (fn : Fn) (first cap : Array Value) (w : World), (Instr.makeFunc fn first cap).run Tryd.prog w = .ok (.func fn first cap) w := fun _ _ _ _ => rfl
  have C := one_walk t a u root b g (W.heap.size + 1 + 1) W.heap.size zs h0 h1 hr0 hr1
  have HS : Hid (St W b g zs) := hS
  have hno := fun c v g (h : walkR (rdR zs t a) root t a u = .no c v g) => walkR_no (fun f p c v g h => rdR_no h) h
  clear hS
  cases hz : walkR (rdR zs t a) root t a u with
  | no c v g' =>
    have hx : ¬ c = 0 := hno _ _ _ hz
    rw [hz] at C
    clear hz hno
    unfold Rr.val En.zero En.val ent trapV oneV foundV at *
    simp only at C ⊢
    go_enter Tryd.func8, Tryd.ntmps8
    go_wp2_with fail
    refine (C _ (HS.out.below ((((Below.refl _ _).alloc (Nat.le_refl _) _).alloc (by simp) _).alloc (by simp; omega) _)) (by simp) (by simp; omega) (by simp [go_sem]) (by simp [go_sem]) (by simp [go_sem]) (by simp [go_sem])).mono ?_
    rintro e w1 ⟨rfl, hb1⟩
    have HB : Hid (Below W.heap.size W w1) := ((((Below.refl _ _).alloc (Nat.le_refl _) _).alloc (by simp) _).alloc (by simp; omega) _).trans (hb1.mono (by simp; omega))
    obtain ⟨n1, o1⟩ := bel_cell hb1 (b := W.heap.size + 1) (by simp)
    have hs1 : W.heap.size + 1 < w1.heap.size := by have := hb1.size; simp at this; omega
    have hs0 : W.heap.size < w1.heap.size := by omega
    clear hb1 C
    go_wp2_with fail
    refine bodyPost_ret (v := _) ?h1 rfl ⟨rfl, ((below_set6 HB.out (by omega) _ _ _ _ _ _).alloc (by simp; omega) _).alloc (by simp; omega) _⟩
    case h1 => simp [results, Tryd.results8, go_sem, n1, hs0, hs1]
  | ok E =>
    rw [hz] at C
    clear hz hno
    have CF := found_any E 2
    obtain ⟨xv, xr, xw, xx, xu, xs, xd, xf⟩ := E
    unfold Rr.val En.val ent trapV oneV foundV at *
    simp only at C CF ⊢
    go_enter Tryd.func8, Tryd.ntmps8
    go_wp2_with fail
    refine (C _ (HS.out.below ((((Below.refl _ _).alloc (Nat.le_refl _) _).alloc (by simp) _).alloc (by simp; omega) _)) (by simp) (by simp; omega) (by simp [go_sem]) (by simp [go_sem]) (by simp [go_sem]) (by simp [go_sem])).mono ?_
    rintro e w1 ⟨rfl, hb1⟩
    have HB : Hid (Below W.heap.size W w1) := ((((Below.refl _ _).alloc (Nat.le_refl _) _).alloc (by simp) _).alloc (by simp; omega) _).trans (hb1.mono (by simp; omega))
    obtain ⟨n1, o1⟩ := bel_cell hb1 (b := W.heap.size + 1) (by simp)
    have hs1 : W.heap.size + 1 < w1.heap.size := by have := hb1.size; simp at this; omega
    have hs0 : W.heap.size < w1.heap.size := by omega
    clear hb1 C
    go_wp2_with fail
    refine (CF _).mono ?_
    rintro e w2 ⟨rfl, hb2⟩
    have HB2 : Hid (Below W.heap.size W w2) := ((HB.out.alloc (by omega) _).alloc (by simp; omega) _).trans (hb2.mono (by simp; omega))
    have HC2 : Below w1.heap.size w1 w2 := (((Below.refl _ _).alloc (Nat.le_refl _) _).alloc (by simp) _).trans (hb2.mono (by simp; omega))
    obtain ⟨k1, l1⟩ := bel_cell HC2 hs1
    have ht1 : W.heap.size + 1 < w2.heap.size := by have := hb2.size; simp at this; omega
    clear hb2 HC2 CF HB
    go_wp2_with fail
    refine bodyPost_ret (v := _) ?h1 rfl ⟨rfl, below_set6 HB2.out (by omega) _ _ _ _ _ _⟩
    case h1 => simp [results, Tryd.results8, go_sem, k1, n1]

theorem one_any (t a : Int) (u : Bool) (root : Int) (b g : Nat) (zs : List Int) (h0 : 0 ≤ t) (h1 : t < 18446744073709551616) (hr1 : root < 9223372036854775808) (W : World) (hS : St W b g zs) :
    Calls Tryd.prog 8 #[.iface 26 (.pointer (some ⟨b, 0, none⟩)), .int .i64 root, .int .u64 t, .int .i64 a, .bool u] W fun e W' => e = .returned (oneV (oneP zs root t a u)) ∧ Below W.heap.size W W' := by
  unfold oneP
  by_cases hr : root < 0
  · rw [if_pos hr]; exact one_neg t a u root b hr W
  · rw [if_neg hr]; exact one_pos t a u root b g zs h0 h1 (by omega) hr1 W hS

theorem second_any (t a : Int) (root : Int) (b g : Nat) (zs : List Int) (h0 : 0 ≤ t) (h1 : t < 18446744073709551616) (hr1 : root < 9223372036854775808) (W : World) (hS : St W b g zs) :
    Calls Tryd.prog 15 #[.iface 26 (.pointer (some ⟨b, 0, none⟩)), .int .i64 root, .int .u64 t, .int .i64 a] W fun e W' => e = .returned (oneV (oneP zs root t a true)) ∧ Below W.heap.size W W' := by
  have C := one_any t a true root b g zs h0 h1 hr1
  have HS : Hid (St W b g zs) := hS
  clear hS
  generalize oneP zs root t a true = o at *
  obtain ⟨f, r, w, x, u, l, k, e⟩ : ∃ f r w x u l k, oneV o = .tuple #[.agg #[.int .i64 f, .bool r, .bool w, .bool x, .bool u, .int .i64 l], .bool k] := by
    cases o
    · exact ⟨_, _, _, _, _, _, _, rfl⟩
    · exact ⟨_, _, _, _, _, _, _, rfl⟩
  rw [e] at C ⊢
  clear e
  go_enter Tryd.func15, Tryd.ntmps15
  go_wp2_with fail
  refine (C _ (HS.out.below ((Below.refl _ _).alloc (Nat.le_refl _) _))).mono ?_
  rintro e w1 ⟨rfl, hb1⟩
  have HB : Hid (Below W.heap.size W w1) := ((Below.refl _ _).alloc (Nat.le_refl _) _).trans (hb1.mono (by simp))
  obtain ⟨n1, o1⟩ := bel_cell hb1 (b := W.heap.size) (by simp)
  have hs1 : W.heap.size < w1.heap.size := by have := hb1.size; simp at this; omega
  clear hb1 C
  go_wp2_with fail
  refine bodyPost_ret (v := _) ?h1 rfl ⟨rfl, below_set6 HB.out (Nat.le_refl _) _ _ _ _ _ _⟩
  case h1 => simp [results, Tryd.results15, go_sem, n1]

theorem below_set63 {B : Nat} {W w : World} (h : Below B W w) {b c : Nat} (hb : B ≤ b) (hc : B ≤ c) (v0 v1 v2 v3 v4 v5 u0 u1 u2 : Value) :
    Below B W (((((((((w.setCell ⟨b, 0, none⟩ v0).setCell ⟨b, 1, none⟩ v1).setCell ⟨b, 2, none⟩ v2).setCell ⟨b, 3, none⟩ v3).setCell ⟨b, 4, none⟩ v4).setCell ⟨b, 5, none⟩ v5).setCell ⟨c, 0, none⟩ u0).setCell ⟨c, 1, none⟩ u1).setCell ⟨c, 2, none⟩ u2) :=
  below_set3 (below_set6 h hb _ _ _ _ _ _) hc _ _ _

theorem itself_no (t a : Int) (u : Bool) (h0 : 0 ≤ t) (h1 : t < 18446744073709551616) (ht : ¬ t < 262144) (W : World) :
    Calls Tryd.prog 29 #[askV t a u] W fun e W' => e = .returned (.tuple #[foundV 0 false false false false 0, trapV (faultP a 12 13 15) t 0]) ∧ Below W.heap.size W W' := by
  have C1 := split_any t h0 h1
  have C2 := refused_any t a u
  unfold splitV at C1
  rw [if_neg ht] at C1
  unfold trapV askV foundV at *
  generalize faultP a 12 13 15 = x at *
  go_enter Tryd.func29, Tryd.ntmps29
  go_wp2_with fail
  refine (C1 _).mono ?_
  rintro e w1 ⟨rfl, rfl⟩
  go_wp2_with fail
  refine (C2 _).mono ?_
  rintro e w2 ⟨rfl, hb2⟩
  obtain ⟨n1, o1⟩ := bel_cell hb2 (b := W.heap.size + 1) (by simp)
  obtain ⟨n2, o2⟩ := bel_cell hb2 (b := W.heap.size + 1 + 1) (by simp)
  have HB : Hid (Below W.heap.size W w2) := ((((Below.refl _ _).alloc (Nat.le_refl _) _).alloc (by simp) _).alloc (by simp; omega) _).trans (hb2.mono (by simp; omega))
  have hs2 : W.heap.size + 1 + 1 < w2.heap.size := by have := hb2.size; simp at this; omega
  clear hb2 C1 C2
  go_wp2_with fail
  refine bodyPost_ret (v := _) ?h1 rfl ⟨rfl, below_set63 HB.out (by omega) (by omega) _ _ _ _ _ _ _ _ _⟩
  case h1 => simp [results, Tryd.results29, go_sem, n1, n2]

theorem itself_yes (t a : Int) (u : Bool) (h0 : 0 ≤ t) (ht : t < 262144) (W : World) :
    Calls Tryd.prog 29 #[askV t a u] W fun e W' => e = .returned (.tuple #[foundV (t / 256) true true true u 0, trapV 0 0 0]) ∧ Below W.heap.size W W' := by
  have C1 := split_any t h0 (by omega)
  have w1 : wrap64 (t / 256) = t / 256 := IntWalk.wrap64_in _ ⟨by omega, by omega⟩
  unfold splitV at C1
  rw [if_pos ht] at C1
  unfold trapV askV foundV at *
  go_enter Tryd.func29, Tryd.ntmps29
  go_wp2_with fail
  refine (C1 _).mono ?_
  rintro e w1 ⟨rfl, rfl⟩
  go_wp2_with fail
  refine bodyPost_ret (v := _) ?h1 rfl ⟨rfl, (((Below.refl _ _).alloc (Nat.le_refl _) _).alloc (by simp) _).alloc (by simp; omega) _⟩
  case h1 => simp [results, Tryd.results29, go_sem]
end Go.Proofs.YtbaagnfcdphddaaDoor
