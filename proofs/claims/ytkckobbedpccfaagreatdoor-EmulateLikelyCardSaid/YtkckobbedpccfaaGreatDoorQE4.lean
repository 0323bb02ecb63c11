/-
  What a walk through both tables tells: walk's contract, whole; and what One tells.
  What One, secondStage and itself tell: their contracts.
  What the closure of the first stage tells: its contract.
  What the closure of the first stage tells where the second one lets the entry's address through: its contract; and what firstStage's closure is to a walk.
  What firstStage tells: its contract.
  What Two tells: its contract.
-/
import Derived.Test.YtkckobbedpccfaaGreatDoorQE3
import Derived.Test.YtkckobbedpccfaaGreatDoorQE2
namespace Go.Proofs.YtkckobbedpccfaaGreatDoor.E
open Go.RowKit
set_option linter.unusedVariables false
set_option maxRecDepth 100000

theorem calls_no {F : FuncId} {args : Array Value} {W : World} {R : Rr} {I : World → Prop} {r : Option Nat} (hR : R.isOk = false) (h : Calls Tryz.prog F args W fun e W' => e = .returned R.val ∧ W.grownBy W' r) :
    Calls Tryz.prog F args W fun e W' => e = .returned R.val ∧ W.grownBy W' r ∧ (R.isOk = true → I W') :=
  h.mono fun e w' ⟨h1, h2⟩ => ⟨h1, h2, fun h => by rw [hR] at h; cases h⟩

theorem walk_any (F : FuncId) (caps : Array Value) (r : Option Nat) (I : Nat → World → Prop) (R : Int → Int → Rr) (root t a : Int) (u : Bool) (h0 : 0 ≤ t) (h1 : t < 18446744073709551616) (hr0 : 0 ≤ root) (hr1 : root < 9223372036854775808) (W : World)
    (hR : Reads F caps W.heap.size r I R) (hI : I 0 W) :
    Calls Tryz.prog 177 #[askV t a u, .int .i64 root, .func (.func F) #[] caps] W fun e W' => e = .returned (walkR R root t a u).val ∧ W.grownBy W' r ∧ ((walkR R root t a u).isOk = true → I 2 W') := by
  by_cases ht : t < 262144
  · cases hn : R root (t / 8192) with
    | no c v g =>
      have e : walkR R root t a u = .no c v g := by simp [walkR, ht, hn]
      rw [e]
      exact calls_no rfl (walk_no_first F caps r I R root t a u h0 ht hr0 hr1 W hR hI c v g hn)
    | ok tb =>
      cases hv : tb.v
      · have e : walkR R root t a u = refR t a := by simp [walkR, ht, hn, hv]
        rw [e]
        exact calls_no rfl (walk_not_valid F caps r I R root t a u h0 ht hr0 hr1 W hR hI tb hn hv)
      · cases hl : leafP tb.v tb.r tb.x
        · cases hm : R tb.f (t / 256 % 32) with
          | no c v g =>
            have e : walkR R root t a u = .no c v g := by
              unfold walkR
              rw [if_pos ht, hn]
              show (if tb.v && !leafP tb.v tb.r tb.x then _ else _) = _
              rw [hl, hv]
              simp [hm]
            rw [e]
            exact calls_no rfl (walk_no_second F caps r I R root t a u h0 ht hr0 hr1 W hR hI tb hn hv hl c v g hm)
          | ok pg =>
            cases ha : allowP pg.v pg.r pg.w pg.x pg.u a u
            · have e : walkR R root t a u = refR t a := by
                unfold walkR
                rw [if_pos ht, hn]
                show (if tb.v && !leafP tb.v tb.r tb.x then _ else _) = _
                rw [hl, hv]
                simp [hm, ha]
              rw [e]
              exact calls_no rfl (walk_not_allowed F caps r I R root t a u h0 ht hr0 hr1 W hR hI tb hn hv hl pg hm ha)
            · have e : walkR R root t a u = .ok pg := by
                unfold walkR
                rw [if_pos ht, hn]
                show (if tb.v && !leafP tb.v tb.r tb.x then _ else _) = _
                rw [hl, hv]
                simp [hm, ha]
              rw [e]
              exact (walk_found F caps r I R root t a u h0 ht hr0 hr1 W hR hI tb hn hv hl pg hm ha).mono fun e w' ⟨x, y, z⟩ => ⟨x, y, fun _ => z⟩
        · have e : walkR R root t a u = refR t a := by simp [walkR, ht, hn, hl]
          rw [e]
          exact calls_no rfl (walk_leaf F caps r I R root t a u h0 ht hr0 hr1 W hR hI tb hn hv hl)
  · have e : walkR R root t a u = refR t a := by simp [walkR, ht]
    rw [e]
    exact calls_no rfl ((walk_no_split F caps root t a u h0 h1 ht W).mono fun e w' ⟨x, y⟩ => ⟨x, grown_some y _⟩)

/-- an entry read in the memory, a refusal told as the stage's own -/
def rdR [Bits] (zs : List Int) (t a f p : Int) : Rr := match readP zs f p with
  | none => refR t a
  | some e => .ok e
theorem rdR_val [Bits] (zs : List Int) (t a f p : Int) : (rdR zs t a f p).val = rdV t a (readP zs f p) := by
  unfold rdR
  cases readP zs f p <;> rfl

theorem enOf_frame [Bits] (n : Int) : 0 ≤ (enOf n).f ∧ (enOf n).f < 65536 := by
  unfold enOf
  split
  · simp only [frameP]; omega
  · simp [En.zero]
theorem readP_frame [Bits] {zs : List Int} {f p : Int} {e : En} (h : readP zs f p = some e) : 0 ≤ e.f ∧ e.f < 65536 := by
  unfold readP at h
  split at h
  · cases h; exact enOf_frame _
  · cases h
theorem rdR_frame [Bits] {zs : List Int} {t a f p : Int} {e : En} (h : rdR zs t a f p = .ok e) : 0 ≤ e.f ∧ e.f < 65536 := by
  unfold rdR at h
  cases hr : readP zs f p with
  | none => rw [hr] at h; cases h
  | some e' => rw [hr] at h; cases h; exact readP_frame hr
theorem rdR_no [Bits] {zs : List Int} {t a f p c v g : Int} (h : rdR zs t a f p = .no c v g) : c ≠ 0 := by
  unfold rdR at h
  cases hr : readP zs f p with
  | none => rw [hr] at h; cases h; exact fault_ne a
  | some e' => rw [hr] at h; cases h

/-- the closure of One -/
theorem one_reads [Bits] (t a : Int) (u : Bool) (b g c m : Nat) (zs : List Int) (W0 : World) (hS : St W0 b g zs) (hc : c < W0.heap.size) (hm : m < W0.heap.size)
    (c0 : W0.cell? ⟨c, 0, none⟩ = some (.int .u64 t)) (c1 : W0.cell? ⟨c, 1, none⟩ = some (.int .i64 a)) (c2 : W0.cell? ⟨c, 2, none⟩ = some (.bool u)) (m0 : W0.cell? ⟨m, 0, none⟩ = some (.iface 44 (.pointer (some ⟨b, 0, none⟩)))) :
    Reads 190 #[.pointer (some ⟨c, 0, none⟩), .pointer (some ⟨m, 0, none⟩)] W0.heap.size none (fun _ w => Below W0.heap.size W0 w) (rdR zs t a) := by
  refine ⟨fun _ _ => (by kernel_rfl), fun k w w' h1 h2 => h1.trans h2, fun k h => (by cases h), ?_, fun f p c v g h => rdR_no h, fun f p e h => rdR_frame h⟩
  intro k f p w hf0 hf1 hp0 hp1 hN hI
  have C := fun w h => read_any t a u f p b g zs hf0 hf1 hp0 hp1 w h
  have hS1 := hS.below hI
  obtain ⟨hd, _⟩ := bel_cell hI hc
  obtain ⟨he, _⟩ := bel_cell hI hm
  have k0 : w.cell? ⟨c, 0, none⟩ = _ := (hd 0).trans c0
  have k1 : w.cell? ⟨c, 1, none⟩ = _ := (hd 1).trans c1
  have k2 : w.cell? ⟨c, 2, none⟩ = _ := (hd 2).trans c2
  have k3 : w.cell? ⟨m, 0, none⟩ = _ := (he 0).trans m0
  have l1 : c < w.heap.size := by omega
  have l2 : m < w.heap.size := by omega
  have HS : Hid (_) := hS1
  have HI : Hid (_) := hI
  clear hS1 hd he c0 c1 c2 m0 hS hI hc hm
  rw [rdR_val]
  suffices Calls Tryz.prog 190 #[.int .i64 f, .int .i64 p, .pointer (some ⟨c, 0, none⟩), .pointer (some ⟨m, 0, none⟩)] w fun e w' => e = .returned (rdV t a (readP zs f p)) ∧ Below w.heap.size w w' from
    this.mono fun e w' ⟨x, y⟩ => ⟨x, grown_of_below y, fun _ => HI.out.trans (y.mono hN)⟩
  cases hr : readP zs f p with
  | none =>
    rw [hr] at C
    unfold rdV En.zero En.val ent trapV askV at *
    simp only at C ⊢
    generalize faultP a 12 13 15 = x at *
    go_enter Tryz.func190, Tryz.ntmps190
    go_wp2_with fail
    refine (C _ (HS.out.below (((Below.refl _ _).alloc (Nat.le_refl _) _).alloc (by simp) _))).mono ?_
    rintro e w1 ⟨rfl, hb1⟩
    have HB : Hid (Below w.heap.size w w1) := (((Below.refl _ _).alloc (Nat.le_refl _) _).alloc (by simp) _).trans (hb1.mono (by simp; omega))
    obtain ⟨n0, o0⟩ := bel_cell hb1 (b := w.heap.size) (by simp; omega)
    obtain ⟨n1, o1⟩ := bel_cell hb1 (b := w.heap.size + 1) (by simp)
    have hs1 : w.heap.size + 1 < w1.heap.size := by have := hb1.size; simp at this; omega
    clear hb1 C
    go_wp2_with fail
    refine bodyPost_ret (v := _) ?h1 rfl ⟨rfl, below_set83 HB.out (Nat.le_refl _) (by omega) _ _ _ _ _ _ _ _ _ _ _⟩
    case h1 => simp [results, Tryz.results190, go_sem, n0, n1]
  | some E =>
    rw [hr] at C
    clear hr
    obtain ⟨v, xr, xw, xx, xu, xs, xd, xf⟩ := E
    unfold rdV En.val ent trapV askV at *
    simp only at C ⊢
    go_enter Tryz.func190, Tryz.ntmps190
    go_wp2_with fail
    refine (C _ (HS.out.below (((Below.refl _ _).alloc (Nat.le_refl _) _).alloc (by simp) _))).mono ?_
    rintro e w1 ⟨rfl, hb1⟩
    have HB : Hid (Below w.heap.size w w1) := (((Below.refl _ _).alloc (Nat.le_refl _) _).alloc (by simp) _).trans (hb1.mono (by simp; omega))
    obtain ⟨n0, o0⟩ := bel_cell hb1 (b := w.heap.size) (by simp; omega)
    obtain ⟨n1, o1⟩ := bel_cell hb1 (b := w.heap.size + 1) (by simp)
    have hs1 : w.heap.size + 1 < w1.heap.size := by have := hb1.size; simp at this; omega
    clear hb1 C
    go_wp2_with fail
    refine bodyPost_ret (v := _) ?h1 rfl ⟨rfl, below_set83 HB.out (Nat.le_refl _) (by omega) _ _ _ _ _ _ _ _ _ _ _⟩
    case h1 => simp [results, Tryz.results190, go_sem, n0, n1]
end Go.Proofs.YtkckobbedpccfaaGreatDoor.E
namespace Go.Proofs.YtkckobbedpccfaaGreatDoor.E
open Go.RowKit
set_option linter.unusedVariables false
set_option maxRecDepth 100000

/-- P6.1: the page that One finds -/
def oneP [Bits] (zs : List Int) (root t a : Int) (u : Bool) : Option En :=
  if root < 0 then none else match walkR (rdR zs t a) root t a u with
    | .ok e => some e
    | .no _ _ _ => none
def oneV : Option En → Value
  | none => .tuple #[foundV 0 false false false false 0, .bool false]
  | some e => .tuple #[foundV e.f e.r e.w e.x e.u 2, .bool true]

theorem below_of_grown {w w' : World} (h : w.grownBy w' none) : Below w.heap.size w w' := ⟨h.os, h.tape, h.output, h.size, fun k hk => h.block k hk (by simp)⟩

theorem walkR_no {R : Int → Int → Rr} {root t a c v g : Int} {u : Bool} (hR : ∀ f p c v g, R f p = .no c v g → c ≠ 0) (h : walkR R root t a u = .no c v g) : c ≠ 0 := by
  unfold walkR at h
  split at h
  · split at h
    · rename_i hn; cases h; exact hR _ _ _ _ _ hn
    · split at h
      · split at h
        · rename_i hn; cases h; exact hR _ _ _ _ _ hn
        · split at h
          · cases h
          · cases h; exact fault_ne a
      · cases h; exact fault_ne a
  · cases h; exact fault_ne a

theorem one_walk [Bits] (t a : Int) (u : Bool) (root : Int) (b g c m : Nat) (zs : List Int) (h0 : 0 ≤ t) (h1 : t < 18446744073709551616) (hr0 : 0 ≤ root) (hr1 : root < 9223372036854775808) (W0 : World) (hS : St W0 b g zs) (hc : c < W0.heap.size) (hm : m < W0.heap.size)
    (c0 : W0.cell? ⟨c, 0, none⟩ = some (.int .u64 t)) (c1 : W0.cell? ⟨c, 1, none⟩ = some (.int .i64 a)) (c2 : W0.cell? ⟨c, 2, none⟩ = some (.bool u)) (m0 : W0.cell? ⟨m, 0, none⟩ = some (.iface 44 (.pointer (some ⟨b, 0, none⟩)))) :
    Calls Tryz.prog 177 #[.agg #[.int .u64 t, .int .i64 a, .bool u], .int .i64 root, .func (.func 190) #[] #[.pointer (some ⟨c, 0, none⟩), .pointer (some ⟨m, 0, none⟩)]] W0 fun e W' => e = .returned (walkR (rdR zs t a) root t a u).val ∧ Below W0.heap.size W0 W' :=
  (walk_any 190 #[.pointer (some ⟨c, 0, none⟩), .pointer (some ⟨m, 0, none⟩)] none (fun _ w => Below W0.heap.size W0 w) (rdR zs t a) root t a u h0 h1 hr0 hr1 W0 (one_reads t a u b g c m zs W0 hS hc hm c0 c1 c2 m0) (Below.refl _ _)).mono
    fun e w' ⟨x, y, _⟩ => ⟨x, below_of_grown y⟩

theorem below_set6 {B : Nat} {W w : World} (h : Below B W w) {b : Nat} (hb : B ≤ b) (v0 v1 v2 v3 v4 v5 : Value) :
    Below B W ((((((w.setCell ⟨b, 0, none⟩ v0).setCell ⟨b, 1, none⟩ v1).setCell ⟨b, 2, none⟩ v2).setCell ⟨b, 3, none⟩ v3).setCell ⟨b, 4, none⟩ v4).setCell ⟨b, 5, none⟩ v5) :=
  (((((h.setCell hb _).setCell hb _).setCell hb _).setCell hb _).setCell hb _).setCell hb _

theorem one_neg (t a : Int) (u : Bool) (root : Int) (b : Nat) (hr : root < 0) (W : World) :
    Calls Tryz.prog 182 #[.iface 44 (.pointer (some ⟨b, 0, none⟩)), .int .i64 root, .int .u64 t, .int .i64 a, .bool u] W fun e W' => e = .returned (oneV none) ∧ Below W.heap.size W W' := by
  unfold oneV foundV
  go_enter Tryz.func182, Tryz.ntmps182
  go_wp2_with fail
  refine bodyPost_ret (v := _) ?h1 rfl ⟨rfl, ((Below.refl _ _).alloc (Nat.le_refl _) _).alloc (by simp) _⟩
  case h1 => simp [results, Tryz.results182, go_sem]

set_option maxHeartbeats 1600000 in
theorem one_pos [Bits] (t a : Int) (u : Bool) (root : Int) (b g : Nat) (zs : List Int) (h0 : 0 ≤ t) (h1 : t < 18446744073709551616) (hr0 : 0 ≤ root) (hr1 : root < 9223372036854775808) (W : World) (hS : St W b g zs) :
    Calls Tryz.prog 182 #[.iface 44 (.pointer (some ⟨b, 0, none⟩)), .int .i64 root, .int .u64 t, .int .i64 a, .bool u] W fun e W' => e = .returned (oneV (match walkR (rdR zs t a) root t a u with | .ok e => some e | .no _ _ _ => none)) ∧ Below W.heap.size W W' := by
  have hmf : ∀ (fn : Fn) (first cap : Array Value) (w : World), (Instr.makeFunc fn first cap).run Tryz.prog w = .ok (.func fn first cap) w := fun _ _ _ _ => rfl
  have C := one_walk t a u root b g (W.heap.size + 1 + 1) W.heap.size zs h0 h1 hr0 hr1
  have HS : Hid (St W b g zs) := hS
  have hno := fun c v g (h : walkR (rdR zs t a) root t a u = .no c v g) => walkR_no (fun f p c v g h => rdR_no h) h
  clear hS
  cases hz : walkR (rdR zs t a) root t a u with
  | no c v g' =>
    have hx : ¬ c = 0 := hno _ _ _ hz
    rw [hz] at C
    clear hz hno
    unfold Rr.val En.zero En.val ent trapV oneV foundV at *
    simp only at C ⊢
    go_enter Tryz.func182, Tryz.ntmps182
    go_wp2_with fail
    refine (C _ (HS.out.below ((((Below.refl _ _).alloc (Nat.le_refl _) _).alloc (by simp) _).alloc (by simp; omega) _)) (by simp) (by simp; omega) (by simp [go_sem]) (by simp [go_sem]) (by simp [go_sem]) (by simp [go_sem])).mono ?_
    rintro e w1 ⟨rfl, hb1⟩
    have HB : Hid (Below W.heap.size W w1) := ((((Below.refl _ _).alloc (Nat.le_refl _) _).alloc (by simp) _).alloc (by simp; omega) _).trans (hb1.mono (by simp; omega))
    obtain ⟨n1, o1⟩ := bel_cell hb1 (b := W.heap.size + 1) (by simp)
    have hs1 : W.heap.size + 1 < w1.heap.size := by have := hb1.size; simp at this; omega
    have hs0 : W.heap.size < w1.heap.size := by omega
    clear hb1 C
    go_wp2_with fail
    refine bodyPost_ret (v := _) ?h1 rfl ⟨rfl, ((below_set6 HB.out (by omega) _ _ _ _ _ _).alloc (by simp; omega) _).alloc (by simp; omega) _⟩
    case h1 => simp [results, Tryz.results182, go_sem, n1, hs0, hs1]
  | ok E =>
    rw [hz] at C
    clear hz hno
    have CF := found_any E 2
    obtain ⟨xv, xr, xw, xx, xu, xs, xd, xf⟩ := E
    unfold Rr.val En.val ent trapV oneV foundV at *
    simp only at C CF ⊢
    go_enter Tryz.func182, Tryz.ntmps182
    go_wp2_with fail
    refine (C _ (HS.out.below ((((Below.refl _ _).alloc (Nat.le_refl _) _).alloc (by simp) _).alloc (by simp; omega) _)) (by simp) (by simp; omega) (by simp [go_sem]) (by simp [go_sem]) (by simp [go_sem]) (by simp [go_sem])).mono ?_
    rintro e w1 ⟨rfl, hb1⟩
    have HB : Hid (Below W.heap.size W w1) := ((((Below.refl _ _).alloc (Nat.le_refl _) _).alloc (by simp) _).alloc (by simp; omega) _).trans (hb1.mono (by simp; omega))
    obtain ⟨n1, o1⟩ := bel_cell hb1 (b := W.heap.size + 1) (by simp)
    have hs1 : W.heap.size + 1 < w1.heap.size := by have := hb1.size; simp at this; omega
    have hs0 : W.heap.size < w1.heap.size := by omega
    clear hb1 C
    go_wp2_with fail
    refine (CF _).mono ?_
    rintro e w2 ⟨rfl, hb2⟩
    have HB2 : Hid (Below W.heap.size W w2) := ((HB.out.alloc (by omega) _).alloc (by simp; omega) _).trans (hb2.mono (by simp; omega))
    have HC2 : Below w1.heap.size w1 w2 := (((Below.refl _ _).alloc (Nat.le_refl _) _).alloc (by simp) _).trans (hb2.mono (by simp; omega))
    obtain ⟨k1, l1⟩ := bel_cell HC2 hs1
    have ht1 : W.heap.size + 1 < w2.heap.size := by have := hb2.size; simp at this; omega
    clear hb2 HC2 CF HB
    go_wp2_with fail
    refine bodyPost_ret (v := _) ?h1 rfl ⟨rfl, below_set6 HB2.out (by omega) _ _ _ _ _ _⟩
    case h1 => simp [results, Tryz.results182, go_sem, k1, n1]

theorem one_any [Bits] (t a : Int) (u : Bool) (root : Int) (b g : Nat) (zs : List Int) (h0 : 0 ≤ t) (h1 : t < 18446744073709551616) (hr1 : root < 9223372036854775808) (W : World) (hS : St W b g zs) :
    Calls Tryz.prog 182 #[.iface 44 (.pointer (some ⟨b, 0, none⟩)), .int .i64 root, .int .u64 t, .int .i64 a, .bool u] W fun e W' => e = .returned (oneV (oneP zs root t a u)) ∧ Below W.heap.size W W' := by
  unfold oneP
  by_cases hr : root < 0
  · rw [if_pos hr]; exact one_neg t a u root b hr W
  · rw [if_neg hr]; exact one_pos t a u root b g zs h0 h1 (by omega) hr1 W hS

theorem second_any [Bits] (t a : Int) (root : Int) (b g : Nat) (zs : List Int) (h0 : 0 ≤ t) (h1 : t < 18446744073709551616) (hr1 : root < 9223372036854775808) (W : World) (hS : St W b g zs) :
    Calls Tryz.prog 173 #[.iface 44 (.pointer (some ⟨b, 0, none⟩)), .int .i64 root, .int .u64 t, .int .i64 a] W fun e W' => e = .returned (oneV (oneP zs root t a true)) ∧ Below W.heap.size W W' := by
  have C := one_any t a true root b g zs h0 h1 hr1
  have HS : Hid (St W b g zs) := hS
  clear hS
  generalize oneP zs root t a true = o at *
  obtain ⟨f, r, w, x, u, l, k, e⟩ : ∃ f r w x u l k, oneV o = .tuple #[.agg #[.int .i64 f, .bool r, .bool w, .bool x, .bool u, .int .i64 l], .bool k] := by
    cases o
    · exact ⟨_, _, _, _, _, _, _, rfl⟩
    · exact ⟨_, _, _, _, _, _, _, rfl⟩
  rw [e] at C ⊢
  clear e
  go_enter Tryz.func173, Tryz.ntmps173
  go_wp2_with fail
  refine (C _ (HS.out.below ((Below.refl _ _).alloc (Nat.le_refl _) _))).mono ?_
  rintro e w1 ⟨rfl, hb1⟩
  have HB : Hid (Below W.heap.size W w1) := ((Below.refl _ _).alloc (Nat.le_refl _) _).trans (hb1.mono (by simp))
  obtain ⟨n1, o1⟩ := bel_cell hb1 (b := W.heap.size) (by simp)
  have hs1 : W.heap.size < w1.heap.size := by have := hb1.size; simp at this; omega
  clear hb1 C
  go_wp2_with fail
  refine bodyPost_ret (v := _) ?h1 rfl ⟨rfl, below_set6 HB.out (Nat.le_refl _) _ _ _ _ _ _⟩
  case h1 => simp [results, Tryz.results173, go_sem, n1]

theorem below_set63 {B : Nat} {W w : World} (h : Below B W w) {b c : Nat} (hb : B ≤ b) (hc : B ≤ c) (v0 v1 v2 v3 v4 v5 u0 u1 u2 : Value) :
    Below B W (((((((((w.setCell ⟨b, 0, none⟩ v0).setCell ⟨b, 1, none⟩ v1).setCell ⟨b, 2, none⟩ v2).setCell ⟨b, 3, none⟩ v3).setCell ⟨b, 4, none⟩ v4).setCell ⟨b, 5, none⟩ v5).setCell ⟨c, 0, none⟩ u0).setCell ⟨c, 1, none⟩ u1).setCell ⟨c, 2, none⟩ u2) :=
  below_set3 (below_set6 h hb _ _ _ _ _ _) hc _ _ _

theorem itself_no (t a : Int) (u : Bool) (h0 : 0 ≤ t) (h1 : t < 18446744073709551616) (ht : ¬ t < 262144) (W : World) :
    Calls Tryz.prog 176 #[askV t a u] W fun e W' => e = .returned (.tuple #[foundV 0 false false false false 0, trapV (faultP a 12 13 15) t 0]) ∧ Below W.heap.size W W' := by
  have C1 := split_any t h0 h1
  have C2 := refused_any t a u
  unfold splitV at C1
  rw [if_neg ht] at C1
  unfold trapV askV foundV at *
  generalize faultP a 12 13 15 = x at *
  go_enter Tryz.func176, Tryz.ntmps176
  go_wp2_with fail
  refine (C1 _).mono ?_
  rintro e w1 ⟨rfl, rfl⟩
  go_wp2_with fail
  refine (C2 _).mono ?_
  rintro e w2 ⟨rfl, hb2⟩
  obtain ⟨n1, o1⟩ := bel_cell hb2 (b := W.heap.size + 1) (by simp)
  obtain ⟨n2, o2⟩ := bel_cell hb2 (b := W.heap.size + 1 + 1) (by simp)
  have HB : Hid (Below W.heap.size W w2) := ((((Below.refl _ _).alloc (Nat.le_refl _) _).alloc (by simp) _).alloc (by simp; omega) _).trans (hb2.mono (by simp; omega))
  have hs2 : W.heap.size + 1 + 1 < w2.heap.size := by have := hb2.size; simp at this; omega
  clear hb2 C1 C2
  go_wp2_with fail
  refine bodyPost_ret (v := _) ?h1 rfl ⟨rfl, below_set63 HB.out (by omega) (by omega) _ _ _ _ _ _ _ _ _⟩
  case h1 => simp [results, Tryz.results176, go_sem, n1, n2]

theorem itself_yes (t a : Int) (u : Bool) (h0 : 0 ≤ t) (ht : t < 262144) (W : World) :
    Calls Tryz.prog 176 #[askV t a u] W fun e W' => e = .returned (.tuple #[foundV (t / 256) true true true u 0, trapV 0 0 0]) ∧ Below W.heap.size W W' := by
  have C1 := split_any t h0 (by omega)
  have w1 : wrap64 (t / 256) = t / 256 := IntWalk.wrap64_in _ ⟨by omega, by omega⟩
  unfold splitV at C1
  rw [if_pos ht] at C1
  unfold trapV askV foundV at *
  go_enter Tryz.func176, Tryz.ntmps176
  go_wp2_with fail
  refine (C1 _).mono ?_
  rintro e w1 ⟨rfl, rfl⟩
  go_wp2_with fail
  refine bodyPost_ret (v := _) ?h1 rfl ⟨rfl, (((Below.refl _ _).alloc (Nat.le_refl _) _).alloc (by simp) _).alloc (by simp; omega) _⟩
  case h1 => simp [results, Tryz.results176, go_sem]
end Go.Proofs.YtkckobbedpccfaaGreatDoor.E
namespace Go.Proofs.YtkckobbedpccfaaGreatDoor.E
open Go.RowKit
set_option linter.unusedVariables false
set_option maxRecDepth 100000

theorem BT.kept [Bits] {w w' : World} (h : BT w) {g : Nat} (hg : 1 < g) (hb : w.grownBy w' (some g)) : BT w' := by
  have hp := h.pos
  have hk := hb.block 1 hp (by simp; omega)
  have e : ∀ k, w'.cell? ⟨1, k, none⟩ = w.cell? ⟨1, k, none⟩ := fun k => World.cell?_of_block (a := ⟨1, k, none⟩) hk
  exact ⟨(e 0).trans h.c0, (e 1).trans h.c1, (e 2).trans h.c2, (e 3).trans h.c3, (e 4).trans h.c4, (e 5).trans h.c5, (e 6).trans h.c6, Nat.lt_of_lt_of_le hp hb.size⟩
theorem St.kept [Bits] {w w' : World} {b g lv : Nat} {zs : List Int} (h : St w b g zs) (h1 : 1 < lv) (hb : b ≠ lv) (hg : g ≠ lv) (hk : w.grownBy w' (some lv)) : St w' b g zs :=
  ⟨h.sz.kept (by omega) hk, h.bt.kept h1 hk, h.mm.kept hk (by simpa using hb) (by simpa using hg)⟩

theorem walkR_frame {R : Int → Int → Rr} {root t a : Int} {u : Bool} {e : En} (hR : ∀ f p e, R f p = .ok e → 0 ≤ e.f ∧ e.f < 65536) (h : walkR R root t a u = .ok e) : 0 ≤ e.f ∧ e.f < 65536 := by
  unfold walkR refR at h
  split at h
  · split at h
    · cases h
    · split at h
      · split at h
        · cases h
        · split at h
          · rename_i hn _; cases h; exact hR _ _ _ hn
          · cases h
      · cases h
  · cases h
theorem oneP_frame [Bits] {zs : List Int} {root t a : Int} {u : Bool} {e : En} (h : oneP zs root t a u = some e) : 0 ≤ e.f ∧ e.f < 65536 := by
  unfold oneP at h
  split at h
  · cases h
  · split at h
    · rename_i hn; cases h; exact walkR_frame (fun f p e h => rdR_frame h) hn
    · cases h

/-- an entry of the first stage: its address goes through the second one -/
def fsR [Bits] (zs : List Int) (second t a f p : Int) : Rr :=
  if f ≤ 72057594037927935 then match oneP zs second (atP f p) 1 true with
    | none => .no (faultP a 20 21 23) t (atP f p)
    | some e => rdR zs t a e.f p
  else .no (faultP a 20 21 23) t (atP f p)

theorem fault_ne2 (a : Int) : faultP a 20 21 23 ≠ 0 := by
  unfold faultP
  split
  · decide
  · split <;> decide
theorem fsR_no [Bits] {zs : List Int} {second t a f p c v g : Int} (h : fsR zs second t a f p = .no c v g) : c ≠ 0 := by
  unfold fsR at h
  split at h
  · split at h
    · cases h; exact fault_ne2 a
    · exact rdR_no h
  · cases h; exact fault_ne2 a
theorem fsR_frame [Bits] {zs : List Int} {second t a f p : Int} {e : En} (h : fsR zs second t a f p = .ok e) : 0 ≤ e.f ∧ e.f < 65536 := by
  unfold fsR at h
  split at h
  · split at h
    · cases h
    · exact rdR_frame h
  · cases h

theorem lev_next (k : Nat) : wrap64 (wrap64 (3 * k) + 3) = wrap64 (3 * ((k + 1 : Nat) : Int)) := by
  unfold wrap64
  omega

/-- the cells that the closure holds -/
structure Caps (w : World) (b c m sc : Nat) (t a : Int) (u : Bool) (second : Int) : Prop where
  c0 : w.cell? ⟨c, 0, none⟩ = some (.int .u64 t)
  c1 : w.cell? ⟨c, 1, none⟩ = some (.int .i64 a)
  c2 : w.cell? ⟨c, 2, none⟩ = some (.bool u)
  m0 : w.cell? ⟨m, 0, none⟩ = some (.iface 44 (.pointer (some ⟨b, 0, none⟩)))
  s0 : w.cell? ⟨sc, 0, none⟩ = some (.int .i64 second)
  cl : c < w.heap.size
  ml : m < w.heap.size
  sl : sc < w.heap.size

theorem fs_no [Bits] (t a : Int) (u : Bool) (second f p : Int) (b g c m sc lv : Nat) (zs : List Int) (w : World) (hS : St w b g zs) (hC : Caps w b c m sc t a u second) (hs1 : second < 9223372036854775808)
    (hf0 : 0 ≤ f) (hf1 : f < 9223372036854775808) (hp0 : 0 ≤ p) (hp1 : p < 32) (hn : f ≤ 72057594037927935 → oneP zs second (atP f p) 1 true = none) :
    Calls Tryz.prog 178 #[.int .i64 f, .int .i64 p, .pointer (some ⟨m, 0, none⟩), .pointer (some ⟨sc, 0, none⟩), .pointer (some ⟨c, 0, none⟩), .pointer (some ⟨lv, 0, none⟩)] w fun e w' => e = .returned (Rr.no (faultP a 20 21 23) t (atP f p)).val ∧ Below w.heap.size w w' := by
  have C1 := entryAt_any f p hf0 hf1 hp0 hp1
  have C2 := fun w h => second_any (atP f p) 1 second b g zs (at_range f p).1 (at_range f p).2 hs1 w h
  have C3 := beyond_any t a (atP f p) u
  obtain ⟨c0, c1, c2, m0, s0, cl, ml, sl⟩ := hC
  have HS : Hid (St w b g zs) := hS
  have hd : decide (f ≤ 72057594037927935) = false ∨ oneP zs second (atP f p) 1 true = none := by
    by_cases h : f ≤ 72057594037927935
    · exact .inr (hn h)
    · exact .inl (decide_eq_false h)
  clear hS hn
  unfold Rr.val En.zero En.val ent trapV askV at *
  simp only
  generalize faultP a 20 21 23 = x at *
  generalize atP f p = q at *
  generalize decide (f ≤ 72057594037927935) = fits at *
  generalize oneP zs second q 1 true = o at *
  obtain ⟨of, or, ow, ox, ou, ol, ok, e, he⟩ : ∃ f r w x u l k, oneV o = .tuple #[.agg #[.int .i64 f, .bool r, .bool w, .bool x, .bool u, .int .i64 l], .bool k] ∧ (fits = false ∨ k = false) := by
    cases o
    · exact ⟨_, _, _, _, _, _, _, rfl, .inr rfl⟩
    · rcases hd with hd | hd
      · exact ⟨_, _, _, _, _, _, _, rfl, .inl hd⟩
      · cases hd
  rw [e] at C2
  clear e hd
  have tail : (fits = false) ∨ (fits = true ∧ ok = false) := by cases fits <;> simp_all
  clear he
  rcases tail with rfl | ⟨rfl, rfl⟩
  all_goals
    go_enter Tryz.func178, Tryz.ntmps178
    go_wp2_with fail
    refine (C1 _).mono ?_
    rintro e w1 ⟨rfl, rfl⟩
    go_wp2_with fail
    refine (C2 _ (HS.out.below (((Below.refl _ _).alloc (Nat.le_refl _) _).alloc (by simp) _))).mono ?_
    rintro e w2 ⟨rfl, hb2⟩
    have HB2 : Hid (Below w.heap.size w w2) := (((Below.refl _ _).alloc (Nat.le_refl _) _).alloc (by simp) _).trans (hb2.mono (by simp; omega))
    obtain ⟨n0, o0⟩ := bel_cell hb2 (b := w.heap.size) (by simp; omega)
    obtain ⟨n1, o1⟩ := bel_cell hb2 (b := w.heap.size + 1) (by simp)
    obtain ⟨nc, oc⟩ := bel_cell HB2.out cl
    have hz1 : w.heap.size + 1 < w2.heap.size := by have := hb2.size; simp at this; omega
    have hcl : c < w2.heap.size := by omega
    clear hb2 C1 C2
    go_wp2_with fail
    refine (C3 _).mono ?_
    rintro e w3 ⟨rfl, hb3⟩
    have HB3 : Hid (Below w.heap.size w w3) := (HB2.out.alloc (by omega) _).trans (hb3.mono (by simp; omega))
    have HC3 : Below w2.heap.size w2 w3 := ((Below.refl _ _).alloc (Nat.le_refl _) _).trans (hb3.mono (by simp))
    obtain ⟨k0, l0⟩ := bel_cell HC3 (b := w.heap.size) (by omega)
    obtain ⟨k1, l1⟩ := bel_cell HC3 (b := w.heap.size + 1) (by omega)
    have hz3 : w.heap.size + 1 < w3.heap.size := by have := hb3.size; simp at this; omega
    clear hb3 HC3 C3 HB2
    go_wp2_with fail
    refine bodyPost_ret (v := _) ?h1 rfl ⟨rfl, below_set83 HB3.out (Nat.le_refl _) (by omega) _ _ _ _ _ _ _ _ _ _ _⟩
    case h1 => simp [results, Tryz.results178, go_sem, k0, k1, n0, n1]
end Go.Proofs.YtkckobbedpccfaaGreatDoor.E
namespace Go.Proofs.YtkckobbedpccfaaGreatDoor.E
open Go.RowKit
set_option linter.unusedVariables false
set_option maxRecDepth 100000

theorem gr_setCell {W w : World} {lv o : Nat} {v : Value} (h : W.grownBy w (some lv)) : W.grownBy (w.setCell ⟨lv, o, none⟩ v) (some lv) :=
  ⟨h.os, h.tape, h.output, by simpa [World.setCell] using h.size, fun k hk hr => (Below.heap_setCell _ _ _ _ (fun e => hr (by rw [e]))).trans (h.block k hk hr)⟩

set_option maxHeartbeats 1600000 in
theorem fs_yes [Bits] (t a : Int) (u : Bool) (second f p L : Int) (b g c m sc lv : Nat) (zs : List Int) (w : World) (hS : St w b g zs) (hC : Caps w b c m sc t a u second) (hs1 : second < 9223372036854775808)
    (hf0 : 0 ≤ f) (hp0 : 0 ≤ p) (hp1 : p < 32) (hf : f ≤ 72057594037927935) (E : En) (hE : oneP zs second (atP f p) 1 true = some E)
    (hlv : 1 < lv) (hbv : b ≠ lv) (hgv : g ≠ lv) (hcv : c ≠ lv) (hmv : m ≠ lv) (hl : lv < w.heap.size) (hL : w.cell? ⟨lv, 0, none⟩ = some (.int .i64 L)) (hF : w.frozen? ⟨lv, 0, none⟩ = false) :
    Calls Tryz.prog 178 #[.int .i64 f, .int .i64 p, .pointer (some ⟨m, 0, none⟩), .pointer (some ⟨sc, 0, none⟩), .pointer (some ⟨c, 0, none⟩), .pointer (some ⟨lv, 0, none⟩)] w fun e w' => e = .returned (rdV t a (readP zs E.f p)) ∧ w.grownBy w' (some lv) ∧ w'.cell? ⟨lv, 0, none⟩ = some (.int .i64 (wrap64 (L + 3))) ∧ w'.frozen? ⟨lv, 0, none⟩ = false := by
  have C1 := entryAt_any f p hf0 (by omega) hp0 hp1
  have C2 := fun w h => second_any (atP f p) 1 second b g zs (at_range f p).1 (at_range f p).2 hs1 w h
  have hfr := oneP_frame hE
  have C5 := fun w h => read_any t a u E.f p b g zs hfr.1 (by omega) hp0 hp1 w h
  rw [hE] at C2
  rw [decide_eq_true hf] at C1
  obtain ⟨c0, c1, c2, m0, s0, cl, ml, sl⟩ := hC
  have HS : Hid (St w b g zs) := hS
  clear hS hE
  obtain ⟨xv, xr, xw, xx, xu, xs, xd, xf⟩ := E
  unfold oneV foundV askV at *
  simp only at *
  obtain ⟨ev, er, ew, ex, eu, es, ed, ef, tc, tv, tg, e5⟩ : ∃ ev er ew ex eu es ed ef tc tv tg, rdV t a (readP zs xf p) = .tuple #[.agg #[.bool ev, .bool er, .bool ew, .bool ex, .bool eu, .bool es, .bool ed, .int .i64 ef], .agg #[.int .i64 tc, .int .u64 tv, .int .u64 tg]] := by
    cases readP zs xf p
    · exact ⟨_, _, _, _, _, _, _, _, _, _, _, rfl⟩
    · exact ⟨_, _, _, _, _, _, _, _, _, _, _, rfl⟩
  rw [e5] at C5 ⊢
  clear e5
  generalize atP f p = q at *
  go_enter Tryz.func178, Tryz.ntmps178
  go_wp2_with fail
  refine (C1 _).mono ?_
  rintro e w1 ⟨rfl, rfl⟩
  go_wp2_with fail
  refine (C2 _ (HS.out.below (((Below.refl _ _).alloc (Nat.le_refl _) _).alloc (by simp) _))).mono ?_
  rintro e w2 ⟨rfl, hb2⟩
  have HB2 : Hid (Below w.heap.size w w2) := (((Below.refl _ _).alloc (Nat.le_refl _) _).alloc (by simp) _).trans (hb2.mono (by simp; omega))
  obtain ⟨n0, o0⟩ := bel_cell hb2 (b := w.heap.size) (by simp; omega)
  obtain ⟨n1, o1⟩ := bel_cell hb2 (b := w.heap.size + 1) (by simp)
  obtain ⟨nc, oc⟩ := bel_cell HB2.out cl
  obtain ⟨nm, om⟩ := bel_cell HB2.out ml
  obtain ⟨nl, ol⟩ := bel_cell HB2.out hl
  have hz1 : w.heap.size + 1 < w2.heap.size := by have := hb2.size; simp at this; omega
  have hz0 : w.heap.size < w2.heap.size := by omega
  have hcl : c < w2.heap.size := by omega
  have hml : m < w2.heap.size := by omega
  have hll : lv < w2.heap.size := by omega
  have k0 : w.heap.size ≠ lv := by omega
  have k1 : w.heap.size + 1 ≠ lv := by omega
  clear hb2 C1 C2
  go_wp2_with fail
  have HG5 : Hid (w.grownBy (w2.setCell ⟨lv, 0, none⟩ (.int .i64 (wrap64 (L + 3)))) (some lv)) := gr_setCell (grown_some HB2.out _)
  have hsz5 : (w2.setCell ⟨lv, 0, none⟩ (.int .i64 (wrap64 (L + 3)))).heap.size = w2.heap.size := by simp [World.setCell]
  refine (C5 _ (HS.out.kept hlv hbv hgv (gr_below HG5.out ((Below.refl _ _).alloc (by rw [hsz5]; omega) _)))).mono ?_
  rintro e w6 ⟨rfl, hb6⟩
  have HB6 : Hid (Below w2.heap.size (w2.setCell ⟨lv, 0, none⟩ (.int .i64 (wrap64 (L + 3)))) w6) := ((Below.refl _ _).alloc (by rw [hsz5]; omega) _).trans (hb6.mono (by simp))
  obtain ⟨r0, q0⟩ := bel_cell HB6.out hz0
  obtain ⟨r1, q1⟩ := bel_cell HB6.out hz1
  obtain ⟨rl, ql⟩ := bel_cell HB6.out hll
  have hz6 : w.heap.size + 1 < w6.heap.size := by have := HB6.out.size; rw [hsz5] at this; omega
  have HG6 : Hid (w.grownBy w6 (some lv)) := gr_below HG5.out (HB6.out.mono (by omega))
  have hL6 : w6.cell? ⟨lv, 0, none⟩ = some (.int .i64 (wrap64 (L + 3))) := (rl 0).trans (by simp [go_sem, nl, hL])
  have hF6 : w6.frozen? ⟨lv, 0, none⟩ = false := (ql 0).trans (by simp [go_sem, ol, hF])
  have HL6 : Hid (_) := hL6
  have HF6 : Hid (_) := hF6
  clear hb6 C5 rl ql nl ol hL6 hF6 hL hF HB6 hsz5 HG5
  go_wp2_with fail
  have HE : Below w.heap.size w6 _ := below_set83 (Below.refl _ w6) (b := w.heap.size) (c := w.heap.size + 1) (Nat.le_refl _) (by omega) (.bool ev) (.bool er) (.bool ew) (.bool ex) (.bool eu) (.bool es) (.bool ed) (.int .i64 ef) (.int .i64 tc) (.int .u64 tv) (.int .u64 tg)
  obtain ⟨fl, gl⟩ := bel_cell HE hl
  refine bodyPost_ret (v := _) ?h1 rfl ⟨rfl, gr_below HG6.out HE, (fl 0).trans HL6.out, (gl 0).trans HF6.out⟩
  case h1 => simp [results, Tryz.results178, go_sem, r0, r1, n0, n1]

theorem fs_reads [Bits] (t a : Int) (u : Bool) (second : Int) (b g c m sc lv : Nat) (zs : List Int) (W0 : World) (hS : St W0 b g zs) (hC : Caps W0 b c m sc t a u second) (hs1 : second < 9223372036854775808)
    (hlv : 1 < lv) (hbv : b ≠ lv) (hgv : g ≠ lv) (hcv : c ≠ lv) (hmv : m ≠ lv) (hsv : sc ≠ lv) (hl : lv < W0.heap.size) :
    Reads 178 #[.pointer (some ⟨m, 0, none⟩), .pointer (some ⟨sc, 0, none⟩), .pointer (some ⟨c, 0, none⟩), .pointer (some ⟨lv, 0, none⟩)] W0.heap.size (some lv)
      (fun k w => W0.grownBy w (some lv) ∧ w.cell? ⟨lv, 0, none⟩ = some (.int .i64 (wrap64 (3 * k))) ∧ w.frozen? ⟨lv, 0, none⟩ = false) (fsR zs second t a) := by
  refine ⟨fun _ _ => (by kernel_rfl), ?_, fun k h => (by cases h; exact hl), ?_, fun f p c v g h => fsR_no h, fun f p e h => fsR_frame h⟩
  · rintro k w w' ⟨h1, h2, h3⟩ hb
    obtain ⟨fl, gl⟩ := bel_cell hb hl
    exact ⟨gr_below h1 hb, (fl 0).trans h2, (gl 0).trans h3⟩
  · rintro k f p w hf0 hf1 hp0 hp1 hN ⟨h1, h2, h3⟩
    have hS1 := hS.kept hlv hbv hgv h1
    obtain ⟨c0, c1, c2, m0, s0, cl, ml, sl⟩ := hC
    have e1 : ∀ x, x < W0.heap.size → x ≠ lv → ∀ o, w.cell? ⟨x, o, none⟩ = W0.cell? ⟨x, o, none⟩ := fun x hx hne o => World.cell?_of_block (a := ⟨x, o, none⟩) (h1.block x hx (by simpa using hne))
    have hsz := h1.size
    have hC1 : Caps w b c m sc t a u second := ⟨(e1 c cl hcv 0).trans c0, (e1 c cl hcv 1).trans c1, (e1 c cl hcv 2).trans c2, (e1 m ml hmv 0).trans m0, (e1 sc sl hsv 0).trans s0, by omega, by omega, by omega⟩
    have hneg : (f ≤ 72057594037927935 → oneP zs second (atP f p) 1 true = none) → Calls Tryz.prog 178 #[.int .i64 f, .int .i64 p, .pointer (some ⟨m, 0, none⟩), .pointer (some ⟨sc, 0, none⟩), .pointer (some ⟨c, 0, none⟩), .pointer (some ⟨lv, 0, none⟩)] w fun e w' => e = .returned (fsR zs second t a f p).val ∧ w.grownBy w' (some lv) ∧ ((fsR zs second t a f p).isOk = true → (W0.grownBy w' (some lv) ∧ w'.cell? ⟨lv, 0, none⟩ = some (.int .i64 (wrap64 (3 * ((k + 1 : Nat) : Int)))) ∧ w'.frozen? ⟨lv, 0, none⟩ = false)) := by
      intro hn
      have e : fsR zs second t a f p = .no (faultP a 20 21 23) t (atP f p) := by
        unfold fsR
        by_cases hf : f ≤ 72057594037927935
        · rw [if_pos hf, hn hf]
        · rw [if_neg hf]
      rw [e]
      exact (fs_no t a u second f p b g c m sc lv zs w hS1 hC1 hs1 hf0 hf1 hp0 hp1 hn).mono fun e w' ⟨x, y⟩ => ⟨x, grown_some y _, fun h => by cases h⟩
    by_cases hf : f ≤ 72057594037927935
    · cases hE : oneP zs second (atP f p) 1 true with
      | none => exact hneg fun _ => hE
      | some E =>
        have e : fsR zs second t a f p = rdR zs t a E.f p := by unfold fsR; rw [if_pos hf, hE]
        rw [e, rdR_val]
        exact (fs_yes t a u second f p _ b g c m sc lv zs w hS1 hC1 hs1 hf0 hp0 hp1 hf E hE hlv hbv hgv hcv hmv (by omega) h2 h3).mono fun e w' ⟨x, y, z, z'⟩ => ⟨x, y, fun _ => ⟨grown_trans h1 y, z.trans (by rw [lev_next]), z'⟩⟩
    · exact hneg fun h => absurd h hf
end Go.Proofs.YtkckobbedpccfaaGreatDoor.E
namespace Go.Proofs.YtkckobbedpccfaaGreatDoor.E
open Go.RowKit
set_option linter.unusedVariables false
set_option maxRecDepth 100000

/-- a page, or a trap -/
inductive Fr where
  | ok (f : Int) (r w x u : Bool) (l : Int)
  | no (c v g : Int)
def Fr.val : Fr → Value
  | .ok f r w x u l => .tuple #[foundV f r w x u l, trapV 0 0 0]
  | .no c v g => .tuple #[foundV 0 false false false false 0, trapV c v g]

/-- the guest's page of an address -/
def firstP [Bits] (zs : List Int) (first second t a : Int) (u : Bool) : Fr :=
  if first < 0 then (if t < 262144 then .ok (t / 256) true true true u 0 else .no (faultP a 12 13 15) t 0)
  else match walkR (fsR zs second t a) first t a u with
    | .ok e => .ok e.f e.r e.w e.x e.u 6
    | .no c v g => .no c v g

set_option maxHeartbeats 1600000 in
theorem first_none (t a : Int) (u : Bool) (first second : Int) (b : Nat) (h0 : 0 ≤ t) (h1 : t < 18446744073709551616) (hf : first < 0) (W : World) :
    Calls Tryz.prog 172 #[askV t a u, .iface 44 (.pointer (some ⟨b, 0, none⟩)), .int .i64 first, .int .i64 second] W fun e W' => e = .returned (if t < 262144 then Fr.ok (t / 256) true true true u 0 else Fr.no (faultP a 12 13 15) t 0).val ∧ Below W.heap.size W W' := by
  have C : ∀ W : World, Calls Tryz.prog 176 #[askV t a u] W fun e W' => e = .returned (if t < 262144 then Fr.ok (t / 256) true true true u 0 else Fr.no (faultP a 12 13 15) t 0).val ∧ Below W.heap.size W W' := by
    intro W
    by_cases ht : t < 262144
    · rw [if_pos ht]; exact itself_yes t a u h0 ht W
    · rw [if_neg ht]; exact itself_no t a u h0 h1 ht W
  obtain ⟨f, r, w, x, u', l, c, v, g, e⟩ : ∃ f r w x u' l c v g, (if t < 262144 then Fr.ok (t / 256) true true true u 0 else Fr.no (faultP a 12 13 15) t 0).val = .tuple #[.agg #[.int .i64 f, .bool r, .bool w, .bool x, .bool u', .int .i64 l], .agg #[.int .i64 c, .int .u64 v, .int .u64 g]] := by
    split
    · exact ⟨_, _, _, _, _, _, _, _, _, rfl⟩
    · exact ⟨_, _, _, _, _, _, _, _, _, rfl⟩
  rw [e] at C ⊢
  clear e
  unfold askV at *
  go_enter Tryz.func172, Tryz.ntmps172
  go_wp2_with fail
  refine (C _).mono ?_
  rintro e w1 ⟨rfl, hb1⟩
  have HB : Hid (Below W.heap.size W w1) := ((((((Below.refl _ _).alloc (Nat.le_refl _) _).alloc (by simp) _).alloc (by simp <;> omega) _).alloc (by simp <;> omega) _).alloc (by simp <;> omega) _).trans (hb1.mono (by simp <;> omega))
  obtain ⟨n3, o3⟩ := bel_cell hb1 (b := W.heap.size + 1 + 1 + 1) (by simp)
  obtain ⟨n4, o4⟩ := bel_cell hb1 (b := W.heap.size + 1 + 1 + 1 + 1) (by simp)
  have hs4 : W.heap.size + 1 + 1 + 1 + 1 < w1.heap.size := by have := hb1.size; simp at this; omega
  clear hb1 C
  go_wp2_with fail
  refine bodyPost_ret (v := _) ?h1 rfl ⟨rfl, below_set63 HB.out (by omega) (by omega) _ _ _ _ _ _ _ _ _⟩
  case h1 => simp [results, Tryz.results172, go_sem, n3, n4]

theorem fs_walk [Bits] (t a : Int) (u : Bool) (first second : Int) (b g c m sc lv : Nat) (zs : List Int) (h0 : 0 ≤ t) (h1 : t < 18446744073709551616) (hr0 : 0 ≤ first) (hr1 : first < 9223372036854775808) (hs1 : second < 9223372036854775808) (W0 : World) (hS : St W0 b g zs) (hC : Caps W0 b c m sc t a u second)
    (hlv : 1 < lv) (hbv : b ≠ lv) (hgv : g ≠ lv) (hcv : c ≠ lv) (hmv : m ≠ lv) (hsv : sc ≠ lv) (hl : lv < W0.heap.size) (hL : W0.cell? ⟨lv, 0, none⟩ = some (.int .i64 0)) (hF : W0.frozen? ⟨lv, 0, none⟩ = false) :
    Calls Tryz.prog 177 #[.agg #[.int .u64 t, .int .i64 a, .bool u], .int .i64 first, .func (.func 178) #[] #[.pointer (some ⟨m, 0, none⟩), .pointer (some ⟨sc, 0, none⟩), .pointer (some ⟨c, 0, none⟩), .pointer (some ⟨lv, 0, none⟩)]] W0 fun e W' => e = .returned (walkR (fsR zs second t a) first t a u).val ∧ W0.grownBy W' (some lv) ∧ ((walkR (fsR zs second t a) first t a u).isOk = true → W'.cell? ⟨lv, 0, none⟩ = some (.int .i64 6)) :=
  (walk_any 178 #[.pointer (some ⟨m, 0, none⟩), .pointer (some ⟨sc, 0, none⟩), .pointer (some ⟨c, 0, none⟩), .pointer (some ⟨lv, 0, none⟩)] (some lv) _ (fsR zs second t a) first t a u h0 h1 hr0 hr1 W0
    (fs_reads t a u second b g c m sc lv zs W0 hS hC hs1 hlv hbv hgv hcv hmv hsv hl) ⟨grown_refl _ _, hL.trans (by simp [wrap64]), hF⟩).mono
    fun e w' ⟨x, y, z⟩ => ⟨x, y, fun h => (z h).2.1.trans (by simp [wrap64])⟩

set_option maxHeartbeats 1600000 in
theorem first_some [Bits] (t a : Int) (u : Bool) (first second : Int) (b g : Nat) (zs : List Int) (h0 : 0 ≤ t) (h1 : t < 18446744073709551616) (hr0 : 0 ≤ first) (hr1 : first < 9223372036854775808) (hs1 : second < 9223372036854775808) (W : World) (hS : St W b g zs) :
    Calls Tryz.prog 172 #[askV t a u, .iface 44 (.pointer (some ⟨b, 0, none⟩)), .int .i64 first, .int .i64 second] W fun e W' => e = .returned (match walkR (fsR zs second t a) first t a u with | .ok e => Fr.ok e.f e.r e.w e.x e.u 6 | .no c v g => Fr.no c v g).val ∧ Below W.heap.size W W' := by
  have hmf : ∀ (fn : Fn) (first cap : Array Value) (w : World), (Instr.makeFunc fn first cap).run Tryz.prog w = .ok (.func fn first cap) w := fun _ _ _ _ => rfl
  have C := fs_walk t a u first second b g W.heap.size (W.heap.size + 1) (W.heap.size + 1 + 1) (W.heap.size + 1 + 1 + 1 + 1 + 1) zs h0 h1 hr0 hr1 hs1
  have HS : Hid (St W b g zs) := hS
  have hbl := hS.mm.blt
  have hgl := hS.mm.glt
  have hpl := hS.bt.pos
  have hno := fun c v g (h : walkR (fsR zs second t a) first t a u = .no c v g) => walkR_no (fun f p c v g h => fsR_no h) h
  clear hS
  cases hz : walkR (fsR zs second t a) first t a u with
  | no c v g' =>
    have hx : ¬ c = 0 := hno _ _ _ hz
    rw [hz] at C
    clear hz hno
    unfold Rr.val Fr.val En.zero En.val ent trapV askV foundV at *
    simp only [Rr.isOk, Bool.false_eq_true, false_implies, and_true] at C ⊢
    go_enter Tryz.func172, Tryz.ntmps172
    go_wp2_with fail
    refine (C _ (HS.out.below (((((((Below.refl _ _).alloc (Nat.le_refl _) _).alloc (by simp) _).alloc (by simp <;> omega) _).alloc (by simp <;> omega) _).alloc (by simp <;> omega) _).alloc (by simp <;> omega) _)) ⟨by simp [go_sem], by simp [go_sem], by simp [go_sem], by simp [go_sem], by simp [go_sem], by simp <;> omega, by simp <;> omega, by simp <;> omega⟩
      (by omega) (by omega) (by omega) (by omega) (by omega) (by omega) (by simp) (by simp [go_sem]) (by simp [go_sem])).mono ?_
    rintro e w1 ⟨rfl, hg1⟩
    have hr : ∀ k, some (W.heap.size + 1 + 1 + 1 + 1 + 1) = some k → W.heap.size ≤ k := by intro k h; cases h; omega
    have HB : Hid (Below W.heap.size W w1) := ((((((((Below.refl _ _).alloc (Nat.le_refl _) _).alloc (by simp) _).alloc (by simp <;> omega) _).alloc (by simp <;> omega) _).alloc (by simp <;> omega) _).alloc (by simp <;> omega) _).grown hg1 (by simp <;> omega) hr)
    have n3 : ∀ o, w1.cell? ⟨W.heap.size + 1 + 1 + 1, o, none⟩ = _ := fun o => World.cell?_of_block (a := ⟨W.heap.size + 1 + 1 + 1, o, none⟩) (hg1.block (W.heap.size + 1 + 1 + 1) (by simp <;> omega) (by simp))
    have n4 : ∀ o, w1.cell? ⟨W.heap.size + 1 + 1 + 1 + 1, o, none⟩ = _ := fun o => World.cell?_of_block (a := ⟨W.heap.size + 1 + 1 + 1 + 1, o, none⟩) (hg1.block (W.heap.size + 1 + 1 + 1 + 1) (by simp) (by simp))
    have o3 : ∀ o, w1.frozen? ⟨W.heap.size + 1 + 1 + 1, o, none⟩ = _ := fun o => World.frozen?_of_block (a := ⟨W.heap.size + 1 + 1 + 1, o, none⟩) (hg1.block (W.heap.size + 1 + 1 + 1) (by simp <;> omega) (by simp))
    have o4 : ∀ o, w1.frozen? ⟨W.heap.size + 1 + 1 + 1 + 1, o, none⟩ = _ := fun o => World.frozen?_of_block (a := ⟨W.heap.size + 1 + 1 + 1 + 1, o, none⟩) (hg1.block (W.heap.size + 1 + 1 + 1 + 1) (by simp) (by simp))
    have hs4 : W.heap.size + 1 + 1 + 1 + 1 < w1.heap.size := by have := hg1.size; simp at this; omega
    have hs3 : W.heap.size + 1 + 1 + 1 < w1.heap.size := by omega
    have hs2 : W.heap.size + 1 + 1 < w1.heap.size := by omega
    clear hg1 C hr
    go_wp2_with fail
    go_region
    all_goals go_wp2_with fail
    refine bodyPost_ret (v := _) ?h1 rfl ⟨rfl, (((below_set63 HB.out (by omega) (by omega) _ _ _ _ _ _ _ _ _).alloc (by simp <;> omega) _).alloc (by simp <;> omega) _).drew⟩
    case h1 => simp [results, Tryz.results172, go_sem, n3, n4, hs2, hs3, hs4]
  | ok E =>
    rw [hz] at C
    clear hz hno
    have CF := found_any E 6
    obtain ⟨xv, xr, xw, xx, xu, xs, xd, xf⟩ := E
    unfold Rr.val Fr.val En.val ent trapV askV foundV at *
    simp only [Rr.isOk, true_implies] at C CF ⊢
    go_enter Tryz.func172, Tryz.ntmps172
    go_wp2_with fail
    refine (C _ (HS.out.below (((((((Below.refl _ _).alloc (Nat.le_refl _) _).alloc (by simp) _).alloc (by simp <;> omega) _).alloc (by simp <;> omega) _).alloc (by simp <;> omega) _).alloc (by simp <;> omega) _)) ⟨by simp [go_sem], by simp [go_sem], by simp [go_sem], by simp [go_sem], by simp [go_sem], by simp <;> omega, by simp <;> omega, by simp <;> omega⟩
      (by omega) (by omega) (by omega) (by omega) (by omega) (by omega) (by simp) (by simp [go_sem]) (by simp [go_sem])).mono ?_
    rintro e w1 ⟨rfl, hg1, hlv⟩
    have hr : ∀ k, some (W.heap.size + 1 + 1 + 1 + 1 + 1) = some k → W.heap.size ≤ k := by intro k h; cases h; omega
    have HB : Hid (Below W.heap.size W w1) := ((((((((Below.refl _ _).alloc (Nat.le_refl _) _).alloc (by simp) _).alloc (by simp <;> omega) _).alloc (by simp <;> omega) _).alloc (by simp <;> omega) _).alloc (by simp <;> omega) _).grown hg1 (by simp <;> omega) hr)
    have n3 : ∀ o, w1.cell? ⟨W.heap.size + 1 + 1 + 1, o, none⟩ = _ := fun o => World.cell?_of_block (a := ⟨W.heap.size + 1 + 1 + 1, o, none⟩) (hg1.block (W.heap.size + 1 + 1 + 1) (by simp <;> omega) (by simp))
    have n4 : ∀ o, w1.cell? ⟨W.heap.size + 1 + 1 + 1 + 1, o, none⟩ = _ := fun o => World.cell?_of_block (a := ⟨W.heap.size + 1 + 1 + 1 + 1, o, none⟩) (hg1.block (W.heap.size + 1 + 1 + 1 + 1) (by simp) (by simp))
    have o3 : ∀ o, w1.frozen? ⟨W.heap.size + 1 + 1 + 1, o, none⟩ = _ := fun o => World.frozen?_of_block (a := ⟨W.heap.size + 1 + 1 + 1, o, none⟩) (hg1.block (W.heap.size + 1 + 1 + 1) (by simp <;> omega) (by simp))
    have o4 : ∀ o, w1.frozen? ⟨W.heap.size + 1 + 1 + 1 + 1, o, none⟩ = _ := fun o => World.frozen?_of_block (a := ⟨W.heap.size + 1 + 1 + 1 + 1, o, none⟩) (hg1.block (W.heap.size + 1 + 1 + 1 + 1) (by simp) (by simp))
    have hs4 : W.heap.size + 1 + 1 + 1 + 1 < w1.heap.size := by have := hg1.size; simp at this; omega
    have hs3 : W.heap.size + 1 + 1 + 1 < w1.heap.size := by omega
    have hs2 : W.heap.size + 1 + 1 < w1.heap.size := by omega
    have hs5 : W.heap.size + 1 + 1 + 1 + 1 + 1 < w1.heap.size := by have := hg1.size; simp at this; omega
    clear hg1 C hr
    go_wp2_with fail
    refine (CF _).mono ?_
    rintro e w2 ⟨rfl, hb2⟩
    have HB2 : Hid (Below W.heap.size W w2) := ((HB.out.alloc (by omega) _).alloc (by simp <;> omega) _).trans (hb2.mono (by simp <;> omega))
    have HC2 : Below w1.heap.size w1 w2 := (((Below.refl _ _).alloc (Nat.le_refl _) _).alloc (by simp) _).trans (hb2.mono (by simp <;> omega))
    obtain ⟨k3, l3⟩ := bel_cell HC2 hs3
    obtain ⟨k4, l4⟩ := bel_cell HC2 hs4
    have ht4 : W.heap.size + 1 + 1 + 1 + 1 < w2.heap.size := by have := hb2.size; simp at this; omega
    clear hb2 HC2 CF HB
    go_wp2_with fail
    refine bodyPost_ret (v := _) ?h1 rfl ⟨rfl, below_set63 HB2.out (by omega) (by omega) _ _ _ _ _ _ _ _ _⟩
    case h1 => simp [results, Tryz.results172, go_sem, k3, k4, n3, n4]

theorem first_any [Bits] (t a : Int) (u : Bool) (first second : Int) (b g : Nat) (zs : List Int) (h0 : 0 ≤ t) (h1 : t < 18446744073709551616) (hr1 : first < 9223372036854775808) (hs1 : second < 9223372036854775808) (W : World) (hS : St W b g zs) :
    Calls Tryz.prog 172 #[askV t a u, .iface 44 (.pointer (some ⟨b, 0, none⟩)), .int .i64 first, .int .i64 second] W fun e W' => e = .returned (firstP zs first second t a u).val ∧ Below W.heap.size W W' := by
  unfold firstP
  by_cases hr : first < 0
  · rw [if_pos hr]; exact first_none t a u first second b h0 h1 hr W
  · rw [if_neg hr]; exact first_some t a u first second b g zs h0 h1 (by omega) hr1 hs1 W hS
end Go.Proofs.YtkckobbedpccfaaGreatDoor.E
namespace Go.Proofs.YtkckobbedpccfaaGreatDoor.E
open Go.RowKit
set_option linter.unusedVariables false
set_option maxRecDepth 100000

/-- P6.2: what Two tells -/
def twoP [Bits] (zs : List Int) (first second t a : Int) (u : Bool) : Fr :=
  match firstP zs first second t a u with
  | .no c v g => .no c v g
  | .ok f r w x k l => match oneP zs second (f * 256 + t % 256) a true with
    | none => .no (faultP a 20 21 23) t (f * 256 + t % 256)
    | some e => .ok e.f (r && e.r) (w && e.w) (x && e.x) k (wrap64 (l + 2))

theorem firstP_no [Bits] {zs : List Int} {first second t a c v g : Int} {u : Bool} (h : firstP zs first second t a u = .no c v g) : c ≠ 0 := by
  unfold firstP at h
  split at h
  · split at h
    · cases h
    · cases h; exact fault_ne a
  · split at h
    · cases h
    · rename_i hn; cases h; exact walkR_no (fun f p c v g h => fsR_no h) hn
theorem firstP_frame [Bits] {zs : List Int} {first second t a f l : Int} {u r w x k : Bool} (h0 : 0 ≤ t) (h : firstP zs first second t a u = .ok f r w x k l) : 0 ≤ f ∧ f < 65536 := by
  unfold firstP at h
  split at h
  · split at h
    · cases h; omega
    · cases h
  · split at h
    · rename_i hn; cases h; exact walkR_frame (fun f p e h => fsR_frame h) hn
    · cases h

set_option maxHeartbeats 1600000 in
theorem two_no_first [Bits] (t a : Int) (u : Bool) (first second : Int) (b g : Nat) (zs : List Int) (h0 : 0 ≤ t) (h1 : t < 18446744073709551616) (hr1 : first < 9223372036854775808) (hs1 : second < 9223372036854775808) (c v g' : Int) (hz : firstP zs first second t a u = .no c v g') (W : World) (hS : St W b g zs) :
    Calls Tryz.prog 171 #[.iface 44 (.pointer (some ⟨b, 0, none⟩)), .int .i64 first, .int .i64 second, .int .u64 t, .int .i64 a, .bool u] W fun e W' => e = .returned (Fr.no c v g').val ∧ Below W.heap.size W W' := by
  have C := fun w h => first_any t a u first second b g zs h0 h1 hr1 hs1 w h
  have hx : ¬ c = 0 := firstP_no hz
  rw [hz] at C
  have HS : Hid (St W b g zs) := hS
  clear hS hz
  unfold Fr.val trapV askV foundV at *
  simp only at C ⊢
  go_enter Tryz.func171, Tryz.ntmps171
  go_wp2_with fail
  refine (C _ (HS.out.below ((((Below.refl _ _).alloc (Nat.le_refl _) _).alloc (by simp) _).alloc (by simp <;> omega) _))).mono ?_
  rintro e w1 ⟨rfl, hb1⟩
  have HB : Hid (Below W.heap.size W w1) := ((((Below.refl _ _).alloc (Nat.le_refl _) _).alloc (by simp) _).alloc (by simp <;> omega) _).trans (hb1.mono (by simp <;> omega))
  obtain ⟨n0, o0⟩ := bel_cell hb1 (b := W.heap.size) (by simp <;> omega)
  obtain ⟨n1, o1⟩ := bel_cell hb1 (b := W.heap.size + 1) (by simp)
  have hs1 : W.heap.size + 1 < w1.heap.size := by have := hb1.size; simp at this; omega
  have hs0 : W.heap.size < w1.heap.size := by omega
  clear hb1 C
  go_wp2_with fail
  go_region
  all_goals go_wp2_with fail
  refine bodyPost_ret (v := _) ?h1 rfl ⟨rfl, (((below_set63 HB.out (Nat.le_refl _) (by omega) _ _ _ _ _ _ _ _ _).alloc (by simp <;> omega) _).alloc (by simp <;> omega) _).drew⟩
  case h1 => simp [results, Tryz.results171, go_sem, n0, n1, hs0, hs1, Nat.lt_succ_of_lt hs0, show W.heap.size < W.heap.size + 1 + 1 from by omega]

set_option maxHeartbeats 1600000 in
theorem two_no_second [Bits] (t a : Int) (u : Bool) (first second : Int) (b g : Nat) (zs : List Int) (h0 : 0 ≤ t) (h1 : t < 18446744073709551616) (hr1 : first < 9223372036854775808) (hs1 : second < 9223372036854775808) (f l : Int) (r w x k : Bool) (hz : firstP zs first second t a u = .ok f r w x k l) (hn : oneP zs second (f * 256 + t % 256) a true = none) (W : World) (hS : St W b g zs) :
    Calls Tryz.prog 171 #[.iface 44 (.pointer (some ⟨b, 0, none⟩)), .int .i64 first, .int .i64 second, .int .u64 t, .int .i64 a, .bool u] W fun e W' => e = .returned (Fr.no (faultP a 20 21 23) t (f * 256 + t % 256)).val ∧ Below W.heap.size W W' := by
  have C := fun w h => first_any t a u first second b g zs h0 h1 hr1 hs1 w h
  have hf := firstP_frame h0 hz
  have C2 := fun w h => second_any (f * 256 + t % 256) a second b g zs (by omega) (by omega) hs1 w h
  have C3 := beyond_any t a (f * 256 + t % 256) u
  have w1 : IntKind.u64.wrap f = f := wraps_u64 _ (by omega) (by omega)
  have w2 : IntKind.u64.wrap (f * 256) = f * 256 := wraps_u64 _ (by omega) (by omega)
  have w3 : IntKind.u64.wrap (f * 256 + t % 256) = f * 256 + t % 256 := wraps_u64 _ (by omega) (by omega)
  rw [hz] at C
  rw [hn] at C2
  have HS : Hid (St W b g zs) := hS
  clear hS hz hn
  unfold Fr.val trapV askV oneV foundV at *
  simp only at C C2 C3 ⊢
  generalize faultP a 20 21 23 = y at *
  go_enter Tryz.func171, Tryz.ntmps171
  go_wp2_with fail
  refine (C _ (HS.out.below ((((Below.refl _ _).alloc (Nat.le_refl _) _).alloc (by simp) _).alloc (by simp <;> omega) _))).mono ?_
  rintro e w1 ⟨rfl, hb1⟩
  have HB : Hid (Below W.heap.size W w1) := ((((Below.refl _ _).alloc (Nat.le_refl _) _).alloc (by simp) _).alloc (by simp <;> omega) _).trans (hb1.mono (by simp <;> omega))
  obtain ⟨n0, o0⟩ := bel_cell hb1 (b := W.heap.size) (by simp <;> omega)
  obtain ⟨n1, o1⟩ := bel_cell hb1 (b := W.heap.size + 1) (by simp <;> omega)
  obtain ⟨n2, o2⟩ := bel_cell hb1 (b := W.heap.size + 1 + 1) (by simp)
  have hs2 : W.heap.size + 1 + 1 < w1.heap.size := by have := hb1.size; simp at this; omega
  clear hb1 C
  go_wp2_with fail
  refine (C2 _ (HS.out.below ((HB.out.alloc (by omega) _).alloc (by simp <;> omega) _))).mono ?_
  rintro e wb ⟨rfl, hb2⟩
  have HB2 : Hid (Below W.heap.size W wb) := ((HB.out.alloc (by omega) _).alloc (by simp <;> omega) _).trans (hb2.mono (by simp <;> omega))
  have HC2 : Hid (Below w1.heap.size w1 wb) := (((Below.refl _ _).alloc (Nat.le_refl _) _).alloc (by simp) _).trans (hb2.mono (by simp <;> omega))
  obtain ⟨p2, q2⟩ := bel_cell HC2.out hs2
  have ht2 : W.heap.size + 1 + 1 < wb.heap.size := by have := hb2.size; simp at this; omega
  have ht3 : w1.heap.size < wb.heap.size := by have := hb2.size; simp at this; omega
  clear hb2 C2 HB
  go_wp2_with fail
  refine (C3 _).mono ?_
  rintro e wc ⟨rfl, hb3⟩
  have HB3 : Hid (Below W.heap.size W wc) := (HB2.out.alloc (by omega) _).trans (hb3.mono (by simp <;> omega))
  have HC3 : Below w1.heap.size w1 wc := (HC2.out.alloc (by omega) _).trans (hb3.mono (by simp <;> omega))
  obtain ⟨k0, l0⟩ := bel_cell HC3 (b := W.heap.size) (by omega)
  obtain ⟨k1, l1⟩ := bel_cell HC3 (b := W.heap.size + 1) (by omega)
  have hu1 : W.heap.size + 1 < wc.heap.size := by have := hb3.size; simp at this; omega
  clear hb3 HC3 C3 HC2 HB2 p2 q2
  go_wp2_with fail
  refine bodyPost_ret (v := _) ?h1 rfl ⟨rfl, below_set63 HB3.out (Nat.le_refl _) (by omega) _ _ _ _ _ _ _ _ _⟩
  case h1 => simp [results, Tryz.results171, go_sem, k0, k1, n0, n1, show W.heap.size < W.heap.size + 1 + 1 from by omega]

set_option maxHeartbeats 1600000 in
theorem two_found [Bits] (t a : Int) (u : Bool) (first second : Int) (b g : Nat) (zs : List Int) (h0 : 0 ≤ t) (h1 : t < 18446744073709551616) (hr1 : first < 9223372036854775808) (hs1 : second < 9223372036854775808) (f l : Int) (r w x k : Bool) (hz : firstP zs first second t a u = .ok f r w x k l) (E : En) (hn : oneP zs second (f * 256 + t % 256) a true = some E) (W : World) (hS : St W b g zs) :
    Calls Tryz.prog 171 #[.iface 44 (.pointer (some ⟨b, 0, none⟩)), .int .i64 first, .int .i64 second, .int .u64 t, .int .i64 a, .bool u] W fun e W' => e = .returned (Fr.ok E.f (r && E.r) (w && E.w) (x && E.x) k (wrap64 (l + 2))).val ∧ Below W.heap.size W W' := by
  have C := fun w h => first_any t a u first second b g zs h0 h1 hr1 hs1 w h
  have hf := firstP_frame h0 hz
  have C2 := fun w h => second_any (f * 256 + t % 256) a second b g zs (by omega) (by omega) hs1 w h
  have C3 := both_any f E.f l 2 r w x k E.r E.w E.x E.u
  have w1 : IntKind.u64.wrap f = f := wraps_u64 _ (by omega) (by omega)
  have w2 : IntKind.u64.wrap (f * 256) = f * 256 := wraps_u64 _ (by omega) (by omega)
  have w3 : IntKind.u64.wrap (f * 256 + t % 256) = f * 256 + t % 256 := wraps_u64 _ (by omega) (by omega)
  rw [hz] at C
  rw [hn] at C2
  have HS : Hid (St W b g zs) := hS
  clear hS hz hn
  obtain ⟨xv, xr, xw, xx, xu, xs, xd, xf⟩ := E
  unfold Fr.val trapV askV oneV foundV at *
  simp only at C C2 C3 ⊢
  generalize (r && xr) = y1 at *
  generalize (w && xw) = y2 at *
  generalize (x && xx) = y3 at *
  generalize wrap64 (l + 2) = y4 at *
  go_enter Tryz.func171, Tryz.ntmps171
  go_wp2_with fail
  refine (C _ (HS.out.below ((((Below.refl _ _).alloc (Nat.le_refl _) _).alloc (by simp) _).alloc (by simp <;> omega) _))).mono ?_
  rintro e w1 ⟨rfl, hb1⟩
  have HB : Hid (Below W.heap.size W w1) := ((((Below.refl _ _).alloc (Nat.le_refl _) _).alloc (by simp) _).alloc (by simp <;> omega) _).trans (hb1.mono (by simp <;> omega))
  obtain ⟨n0, o0⟩ := bel_cell hb1 (b := W.heap.size) (by simp <;> omega)
  obtain ⟨n1, o1⟩ := bel_cell hb1 (b := W.heap.size + 1) (by simp <;> omega)
  have hs2 : W.heap.size + 1 + 1 < w1.heap.size := by have := hb1.size; simp at this; omega
  clear hb1 C
  go_wp2_with fail
  refine (C2 _ (HS.out.below ((HB.out.alloc (by omega) _).alloc (by simp <;> omega) _))).mono ?_
  rintro e wb ⟨rfl, hb2⟩
  have HB2 : Hid (Below W.heap.size W wb) := ((HB.out.alloc (by omega) _).alloc (by simp <;> omega) _).trans (hb2.mono (by simp <;> omega))
  have HC2 : Hid (Below w1.heap.size w1 wb) := (((Below.refl _ _).alloc (Nat.le_refl _) _).alloc (by simp) _).trans (hb2.mono (by simp <;> omega))
  obtain ⟨p2, q2⟩ := bel_cell hb2 (b := w1.heap.size) (by simp <;> omega)
  have ht3 : w1.heap.size < wb.heap.size := by have := hb2.size; simp at this; omega
  clear hb2 C2 HB
  go_wp2_with fail
  refine (C3 _).mono ?_
  rintro e wc ⟨rfl, hb3⟩
  have HB3 : Hid (Below W.heap.size W wc) := (HB2.out.alloc (by omega) _).trans (hb3.mono (by simp <;> omega))
  have HC3 : Below w1.heap.size w1 wc := (HC2.out.alloc (by omega) _).trans (hb3.mono (by simp <;> omega))
  obtain ⟨k0, l0⟩ := bel_cell HC3 (b := W.heap.size) (by omega)
  obtain ⟨k1, l1⟩ := bel_cell HC3 (b := W.heap.size + 1) (by omega)
  have hu1 : W.heap.size + 1 < wc.heap.size := by have := hb3.size; simp at this; omega
  clear hb3 HC3 C3 HC2 HB2 p2 q2
  go_wp2_with fail
  refine bodyPost_ret (v := _) ?h1 rfl ⟨rfl, below_set63 HB3.out (Nat.le_refl _) (by omega) _ _ _ _ _ _ _ _ _⟩
  case h1 => simp [results, Tryz.results171, go_sem, k0, k1, n0, n1, show W.heap.size < W.heap.size + 1 + 1 from by omega]

theorem two_any [Bits] (t a : Int) (u : Bool) (first second : Int) (b g : Nat) (zs : List Int) (h0 : 0 ≤ t) (h1 : t < 18446744073709551616) (hr1 : first < 9223372036854775808) (hs1 : second < 9223372036854775808) (W : World) (hS : St W b g zs) :
    Calls Tryz.prog 171 #[.iface 44 (.pointer (some ⟨b, 0, none⟩)), .int .i64 first, .int .i64 second, .int .u64 t, .int .i64 a, .bool u] W fun e W' => e = .returned (twoP zs first second t a u).val ∧ Below W.heap.size W W' := by
  unfold twoP
  cases hz : firstP zs first second t a u with
  | no c v g' => exact two_no_first t a u first second b g zs h0 h1 hr1 hs1 c v g' hz W hS
  | ok f r w x k l =>
    cases hn : oneP zs second (f * 256 + t % 256) a true with
    | none => simp only [hn]; exact two_no_second t a u first second b g zs h0 h1 hr1 hs1 f l r w x k hz hn W hS
    | some E => simp only [hn]; exact two_found t a u first second b g zs h0 h1 hr1 hs1 f l r w x k hz E hn W hS
end Go.Proofs.YtkckobbedpccfaaGreatDoor.E
