/-
  What firstStage tells: its contract.
-/
import Derived.Test.YtbaagnfcdphddaaDoorWlk13
namespace Go.Proofs.YtbaagnfcdphddaaDoor
open Go.RowKit
set_option linter.unusedVariables false
set_option maxRecDepth 20000

/-- a page, or a trap -/
inductive Fr where
  | ok (f : Int) (r w x u : Bool) (l : Int)
  | no (c v g : Int)
def Fr.val : Fr → Value
  | .ok f r w x u l => .tuple #[foundV f r w x u l, trapV 0 0 0]
  | .no c v g => .tuple #[foundV 0 false false false false 0, trapV c v g]

/-- the guest's page of an address -/
def firstP (zs : List Int) (first second t a : Int) (u : Bool) : Fr :=
  if first < 0 then (if t < 262144 then .ok (t / 256) true true true u 0 else .no (faultP a 12 13 15) t 0)
  else match walkR (fsR zs second t a) first t a u with
    | .ok e => .ok e.f e.r e.w e.x e.u 6
    | .no c v g => .no c v g

set_option maxHeartbeats 1600000 in
theorem first_none (t a : Int) (u : Bool) (first second : Int) (b : Nat) (h0 : 0 ≤ t) (h1 : t < 18446744073709551616) (hf : first < 0) (W : World) :
    Calls Tryd.prog 14 #[askV t a u, .iface 26 (.pointer (some ⟨b, 0, none⟩)), .int .i64 first, .int .i64 second] W fun e W' => e = .returned (if t < 262144 then Fr.ok (t / 256) true true true u 0 else Fr.no (faultP a 12 13 15) t 0).val ∧ Below W.heap.size W W' := by
  have C : ∀ W : World, Calls Tryd.prog 29 #[askV t a u] W fun e W' => e = .returned (if t < 262144 then Fr.ok (t / 256) true true true u 0 else Fr.no (faultP a 12 13 15) t 0).val ∧ Below W.heap.size W W' := by
    intro W
    by_cases ht : t < 262144
    · rw [if_pos ht]; exact itself_yes t a u h0 ht W
    · rw [if_neg ht]; exact itself_no t a u h0 h1 ht W
  obtain ⟨f, r, w, x, u', l, c, v, g, e⟩ : ∃ f r w x u' l c v g, (if t < 262144 then Fr.ok (t / 256) true true true u 0 else Fr.no (faultP a 12 13 15) t 0).val = .tuple #[.agg #[.int .i64 f, .bool r, .bool w, .bool x, .bool u', .int .i64 l], .agg #[.int .i64 c, .int .u64 v, .int .u64 g]] := by
    split
    · exact ⟨_, _, _, _, _, _, _, _, _, rfl⟩
    · exact ⟨_, _, _, _, _, _, _, _, _, rfl⟩
  rw [e] at C ⊢
  clear e
  unfold askV at *
  go_enter Tryd.func14, Tryd.ntmps14
  go_wp2_with fail
  refine (C _).mono ?_
  rintro e w1 ⟨rfl, hb1⟩
  have HB : Hid (Below W.heap.size W w1) := ((((((Below.refl _ _).alloc (Nat.le_refl _) _).alloc (by simp) _).alloc (by simp <;> omega) _).alloc (by simp <;> omega) _).alloc (by simp <;> omega) _).trans (hb1.mono (by simp <;> omega))
  obtain ⟨n3, o3⟩ := bel_cell hb1 (b := W.heap.size + 1 + 1 + 1) (by simp)
  obtain ⟨n4, o4⟩ := bel_cell hb1 (b := W.heap.size + 1 + 1 + 1 + 1) (by simp)
  have hs4 : W.heap.size + 1 + 1 + 1 + 1 < w1.heap.size := by have := hb1.size; simp at this; omega
  clear hb1 C
  go_wp2_with fail
  refine bodyPost_ret (v := _) ?h1 rfl ⟨rfl, below_set63 HB.out (by omega) (by omega) _ _ _ _ _ _ _ _ _⟩
  case h1 => simp [results, Tryd.results14, go_sem, n3, n4]

theorem fs_walk (t a : Int) (u : Bool) (first second : Int) (b g c m sc lv : Nat) (zs : List Int) (h0 : 0 ≤ t) (h1 : t < 18446744073709551616) (hr0 : 0 ≤ first) (hr1 : first < 9223372036854775808) (hs1 : second < 9223372036854775808) (W0 : World) (hS : St W0 b g zs) (hC : Caps W0 b c m sc t a u second)
    (hlv : 1 < lv) (hbv : b ≠ lv) (hgv : g ≠ lv) (hcv : c ≠ lv) (hmv : m ≠ lv) (hsv : sc ≠ lv) (hl : lv < W0.heap.size) (hL : W0.cell? ⟨lv, 0, none⟩ = some (.int .i64 0)) (hF : W0.frozen? ⟨lv, 0, none⟩ = false) :
    Calls Tryd.prog 19 #[.agg #[.int .u64 t, .int .i64 a, .bool u], .int .i64 first, .func (.func 30) #[] #[.pointer (some ⟨m, 0, none⟩), .pointer (some ⟨sc, 0, none⟩), .pointer (some ⟨c, 0, none⟩), .pointer (some ⟨lv, 0, none⟩)]] W0 fun e W' => e = .returned (walkR (fsR zs second t a) first t a u).val ∧ W0.grownBy W' (some lv) ∧ ((walkR (fsR zs second t a) first t a u).isOk = true → W'.cell? ⟨lv, 0, none⟩ = some (.int .i64 6)) :=
  (walk_any 30 #[.pointer (some ⟨m, 0, none⟩), .pointer (some ⟨sc, 0, none⟩), .pointer (some ⟨c, 0, none⟩), .pointer (some ⟨lv, 0, none⟩)] (some lv) _ (fsR zs second t a) first t a u h0 h1 hr0 hr1 W0
    (fs_reads t a u second b g c m sc lv zs W0 hS hC hs1 hlv hbv hgv hcv hmv hsv hl) ⟨grown_refl _ _, hL.trans (by simp [wrap64]), hF⟩).mono
    fun e w' ⟨x, y, z⟩ => ⟨x, y, fun h => (z h).2.1.trans (by simp [wrap64])⟩

set_option maxHeartbeats 1600000 in
theorem first_some (t a : Int) (u : Bool) (first second : Int) (b g : Nat) (zs : List Int) (h0 : 0 ≤ t) (h1 : t < 18446744073709551616) (hr0 : 0 ≤ first) (hr1 : first < 9223372036854775808) (hs1 : second < 9223372036854775808) (W : World) (hS : St W b g zs) :
    Calls Tryd.prog 14 #[askV t a u, .iface 26 (.pointer (some ⟨b, 0, none⟩)), .int .i64 first, .int .i64 second] W fun e W' => e = .returned (match walkR (fsR zs second t a) first t a u with | .ok e => Fr.ok e.f e.r e.w e.x e.u 6 | .no c v g => Fr.no c v g).val ∧ Below W.heap.size W W' := by
  have hmf : ∀ (fn : Fn) (first cap : Array Value) (w : World), (Instr.makeFunc fn first cap).run Tryd.prog w = .ok (.func fn first cap) w := fun _ _ _ _ => rfl
  have C := fs_walk t a u first second b g W.heap.size (W.heap.size + 1) (W.heap.size + 1 + 1) (W.heap.size + 1 + 1 + 1 + 1 + 1) zs h0 h1 hr0 hr1 hs1
  have HS : Hid (St W b g zs) := hS
  have hbl := hS.mm.blt
  have hgl := hS.mm.glt
  have hpl := hS.bt.pos
  have hno := fun c v g (h : walkR (fsR zs second t a) first t a u = .no c v g) => walkR_no (fun f p c v g h => fsR_no h) h
  clear hS
  cases hz : walkR (fsR zs second t a) first t a u with
  | no c v g' =>
    have hx : ¬ c = 0 := hno _ _ _ hz
    rw [hz] at C
    clear hz hno
    unfold Rr.val Fr.val En.zero En.val ent trapV askV foundV at *
    simp only [Rr.isOk, Bool.false_eq_true, false_implies, and_true] at C ⊢
    go_enter Tryd.func14, Tryd.ntmps14
    go_wp2_with fail
    refine (C _ (HS.out.below (((((((Below.refl _ _).alloc (Nat.le_refl _) _).alloc (by simp) _).alloc (by simp <;> omega) _).alloc (by simp <;> omega) _).alloc (by simp <;> omega) _).alloc (by simp <;> omega) _)) ⟨by simp [go_sem], by simp [go_sem], by simp [go_sem], by simp [go_sem], by simp [go_sem], by simp <;> omega, by simp <;> omega, by simp <;> omega⟩
      (by omega) (by omega) (by omega) (by omega) (by omega) (by omega) (by simp) (by simp [go_sem]) (by simp [go_sem])).mono ?_
    rintro e w1 ⟨rfl, hg1⟩
    have hr : ∀ k, some (W.heap.size + 1 + 1 + 1 + 1 + 1) = some k → W.heap.size ≤ k := by intro k h; cases h; omega
    have HB : Hid (Below W.heap.size W w1) := ((((((((Below.refl _ _).alloc (Nat.le_refl _) _).alloc (by simp) _).alloc (by simp <;> omega) _).alloc (by simp <;> omega) _).alloc (by simp <;> omega) _).alloc (by simp <;> omega) _).grown hg1 (by simp <;> omega) hr)
    have n3 : ∀ o, w1.cell? ⟨W.heap.size + 1 + 1 + 1, o, none⟩ = _ := fun o => World.cell?_of_block (a := ⟨W.heap.size + 1 + 1 + 1, o, none⟩) (hg1.block (W.heap.size + 1 + 1 + 1) (by simp <;> omega) (by simp))
    have n4 : ∀ o, w1.cell? ⟨W.heap.size + 1 + 1 + 1 + 1, o, none⟩ = _ := fun o => World.cell?_of_block (a := ⟨W.heap.size + 1 + 1 + 1 + 1, o, none⟩) (hg1.block (W.heap.size + 1 + 1 + 1 + 1) (by simp) (by simp))
    have o3 : ∀ o, w1.frozen? ⟨W.heap.size + 1 + 1 + 1, o, none⟩ = _ := fun o => World.frozen?_of_block (a := ⟨W.heap.size + 1 + 1 + 1, o, none⟩) (hg1.block (W.heap.size + 1 + 1 + 1) (by simp <;> omega) (by simp))
    have o4 : ∀ o, w1.frozen? ⟨W.heap.size + 1 + 1 + 1 + 1, o, none⟩ = _ := fun o => World.frozen?_of_block (a := ⟨W.heap.size + 1 + 1 + 1 + 1, o, none⟩) (hg1.block (W.heap.size + 1 + 1 + 1 + 1) (by simp) (by simp))
    have hs4 : W.heap.size + 1 + 1 + 1 + 1 < w1.heap.size := by have := hg1.size; simp at this; omega
    have hs3 : W.heap.size + 1 + 1 + 1 < w1.heap.size := by omega
    have hs2 : W.heap.size + 1 + 1 < w1.heap.size := by omega
    clear hg1 C hr
    go_wp2_with fail
    go_region
    all_goals go_wp2_with fail
    refine bodyPost_ret (v := _) ?h1 rfl ⟨rfl, (((below_set63 HB.out (by omega) (by omega) _ _ _ _ _ _ _ _ _).alloc (by simp <;> omega) _).alloc (by simp <;> omega) _).drew⟩
    case h1 => simp [results, Tryd.results14, go_sem, n3, n4, hs2, hs3, hs4]
  | ok E =>
    rw [hz] at C
    clear hz hno
    have CF := found_any E 6
    obtain ⟨xv, xr, xw, xx, xu, xs, xd, xf⟩ := E
    unfold Rr.val Fr.val En.val ent trapV askV foundV at *
    simp only [Rr.isOk, true_implies] at C CF ⊢
    go_enter Tryd.func14, Tryd.ntmps14
    go_wp2_with fail
    refine (C _ (HS.out.below (((((((Below.refl _ _).alloc (Nat.le_refl _) _).alloc (by simp) _).alloc (by simp <;> omega) _).alloc (by simp <;> omega) _).alloc (by simp <;> omega) _).alloc (by simp <;> omega) _)) ⟨by simp [go_sem], by simp [go_sem], by simp [go_sem], by simp [go_sem], by simp [go_sem], by simp <;> omega, by simp <;> omega, by simp <;> omega⟩
      (by omega) (by omega) (by omega) (by omega) (by omega) (by omega) (by simp) (by simp [go_sem]) (by simp [go_sem])).mono ?_
    rintro e w1 ⟨rfl, hg1, hlv⟩
    have hr : ∀ k, some (W.heap.size + 1 + 1 + 1 + 1 + 1) = some k → W.heap.size ≤ k := by intro k h; cases h; omega
    have HB : Hid (Below W.heap.size W w1) := ((((((((Below.refl _ _).alloc (Nat.le_refl _) _).alloc (by simp) _).alloc (by simp <;> omega) _).alloc (by simp <;> omega) _).alloc (by simp <;> omega) _).alloc (by simp <;> omega) _).grown hg1 (by simp <;> omega) hr)
    have n3 : ∀ o, w1.cell? ⟨W.heap.size + 1 + 1 + 1, o, none⟩ = _ := fun o => World.cell?_of_block (a := ⟨W.heap.size + 1 + 1 + 1, o, none⟩) (hg1.block (W.heap.size + 1 + 1 + 1) (by simp <;> omega) (by simp))
    have n4 : ∀ o, w1.cell? ⟨W.heap.size + 1 + 1 + 1 + 1, o, none⟩ = _ := fun o => World.cell?_of_block (a := ⟨W.heap.size + 1 + 1 + 1 + 1, o, none⟩) (hg1.block (W.heap.size + 1 + 1 + 1 + 1) (by simp) (by simp))
    have o3 : ∀ o, w1.frozen? ⟨W.heap.size + 1 + 1 + 1, o, none⟩ = _ := fun o => World.frozen?_of_block (a := ⟨W.heap.size + 1 + 1 + 1, o, none⟩) (hg1.block (W.heap.size + 1 + 1 + 1) (by simp <;> omega) (by simp))
    have o4 : ∀ o, w1.frozen? ⟨W.heap.size + 1 + 1 + 1 + 1, o, none⟩ = _ := fun o => World.frozen?_of_block (a := ⟨W.heap.size + 1 + 1 + 1 + 1, o, none⟩) (hg1.block (W.heap.size + 1 + 1 + 1 + 1) (by simp) (by simp))
    have hs4 : W.heap.size + 1 + 1 + 1 + 1 < w1.heap.size := by have := hg1.size; simp at this; omega
    have hs3 : W.heap.size + 1 + 1 + 1 < w1.heap.size := by omega
    have hs2 : W.heap.size + 1 + 1 < w1.heap.size := by omega
    have hs5 : W.heap.size + 1 + 1 + 1 + 1 + 1 < w1.heap.size := by have := hg1.size; simp at this; omega
    clear hg1 C hr
    go_wp2_with fail
    refine (CF _).mono ?_
    rintro e w2 ⟨rfl, hb2⟩
    have HB2 : Hid (Below W.heap.size W w2) := ((HB.out.alloc (by omega) _).alloc (by simp <;> omega) _).trans (hb2.mono (by simp <;> omega))
    have HC2 : Below w1.heap.size w1 w2 := (((Below.refl _ _).alloc (Nat.le_refl _) _).alloc (by simp) _).trans (hb2.mono (by simp <;> omega))
    obtain ⟨k3, l3⟩ := bel_cell HC2 hs3
    obtain ⟨k4, l4⟩ := bel_cell HC2 hs4
    have ht4 : W.heap.size + 1 + 1 + 1 + 1 < w2.heap.size := by have := hb2.size; simp at this; omega
    clear hb2 HC2 CF HB
    go_wp2_with fail
    refine bodyPost_ret (v := _) ?h1 rfl ⟨rfl, below_set63 HB2.out (by omega) (by omega) _ _ _ _ _ _ _ _ _⟩
    case h1 => simp [results, Tryd.results14, go_sem, k3, k4, n3, n4]

theorem first_any (t a : Int) (u : Bool) (first second : Int) (b g : Nat) (zs : List Int) (h0 : 0 ≤ t) (h1 : t < 18446744073709551616) (hr1 : first < 9223372036854775808) (hs1 : second < 9223372036854775808) (W : World) (hS : St W b g zs) :
    Calls Tryd.prog 14 #[askV t a u, .iface 26 (.pointer (some ⟨b, 0, none⟩)), .int .i64 first, .int .i64 second] W fun e W' => e = .returned (firstP zs first second t a u).val ∧ Below W.heap.size W W' := by
  unfold firstP
  by_cases hr : first < 0
  · rw [if_pos hr]; exact first_none t a u first second b h0 h1 hr W
  · rw [if_neg hr]; exact first_some t a u first second b g zs h0 h1 (by omega) hr1 hs1 W hS
end Go.Proofs.YtbaagnfcdphddaaDoor
