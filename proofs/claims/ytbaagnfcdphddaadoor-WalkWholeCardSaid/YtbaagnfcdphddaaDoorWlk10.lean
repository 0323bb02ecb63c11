/-
  What a walk through both tables tells: walk's contract, whole; and what One tells.
-/
import Derived.Test.YtbaagnfcdphddaaDoorWlk6
import Derived.Test.YtbaagnfcdphddaaDoorWlk7
import Derived.Test.YtbaagnfcdphddaaDoorWlk8
import Derived.Test.YtbaagnfcdphddaaDoorWlk9
namespace Go.Proofs.YtbaagnfcdphddaaDoor
open Go.RowKit
set_option linter.unusedVariables false
set_option maxRecDepth 20000

theorem calls_no {F : FuncId} {args : Array Value} {W : World} {R : Rr} {I : World → Prop} {r : Option Nat} (hR : R.isOk = false) (h : Calls Tryd.prog F args W fun e W' => e = .returned R.val ∧ W.grownBy W' r) :
    Calls Tryd.prog F args W fun e W' => e = .returned R.val ∧ W.grownBy W' r ∧ (R.isOk = true → I W') :=
  h.mono fun e w' ⟨h1, h2⟩ => ⟨h1, h2, fun h => by rw [hR] at h; cases h⟩

theorem walk_any (F : FuncId) (caps : Array Value) (r : Option Nat) (I : Nat → World → Prop) (R : Int → Int → Rr) (root t a : Int) (u : Bool) (h0 : 0 ≤ t) (h1 : t < 18446744073709551616) (hr0 : 0 ≤ root) (hr1 : root < 9223372036854775808) (W : World)
    (hR : Reads F caps W.heap.size r I R) (hI : I 0 W) :
    Calls Tryd.prog 19 #[askV t a u, .int .i64 root, .func (.func F) #[] caps] W fun e W' => e = .returned (walkR R root t a u).val ∧ W.grownBy W' r ∧ ((walkR R root t a u).isOk = true → I 2 W') := by
  by_cases ht : t < 262144
  · cases hn : R root (t / 8192) with
    | no c v g =>
      have e : walkR R root t a u = .no c v g := by simp [walkR, ht, hn]
      rw [e]
      exact calls_no rfl (walk_no_first F caps r I R root t a u h0 ht hr0 hr1 W hR hI c v g hn)
    | ok tb =>
      cases hv : tb.v
      · have e : walkR R root t a u = refR t a := by simp [walkR, ht, hn, hv]
        rw [e]
        exact calls_no rfl (walk_not_valid F caps r I R root t a u h0 ht hr0 hr1 W hR hI tb hn hv)
      · cases hl : leafP tb.v tb.r tb.x
        · cases hm : R tb.f (t / 256 % 32) with
          | no c v g =>
            have e : walkR R root t a u = .no c v g := by
              unfold walkR
              rw [if_pos ht, hn]
              show (if tb.v && !leafP tb.v tb.r tb.x then _ else _) = _
              rw [hl, hv]
              simp [hm]
            rw [e]
            exact calls_no rfl (walk_no_second F caps r I R root t a u h0 ht hr0 hr1 W hR hI tb hn hv hl c v g hm)
          | ok pg =>
            cases ha : allowP pg.v pg.r pg.w pg.x pg.u a u
            · have e : walkR R root t a u = refR t a := by
                unfold walkR
                rw [if_pos ht, hn]
                show (if tb.v && !leafP tb.v tb.r tb.x then _ else _) = _
                rw [hl, hv]
                simp [hm, ha]
              rw [e]
              exact calls_no rfl (walk_not_allowed F caps r I R root t a u h0 ht hr0 hr1 W hR hI tb hn hv hl pg hm ha)
            · have e : walkR R root t a u = .ok pg := by
                unfold walkR
                rw [if_pos ht, hn]
                show (if tb.v && !leafP tb.v tb.r tb.x then _ else _) = _
                rw [hl, hv]
                simp [hm, ha]
              rw [e]
              exact (walk_found F caps r I R root t a u h0 ht hr0 hr1 W hR hI tb hn hv hl pg hm ha).mono fun e w' ⟨x, y, z⟩ => ⟨x, y, fun _ => z⟩
        · have e : walkR R root t a u = refR t a := by simp [walkR, ht, hn, hl]
          rw [e]
          exact calls_no rfl (walk_leaf F caps r I R root t a u h0 ht hr0 hr1 W hR hI tb hn hv hl)
  · have e : walkR R root t a u = refR t a := by simp [walkR, ht]
    rw [e]
    exact calls_no rfl ((walk_no_split F caps root t a u h0 h1 ht W).mono fun e w' ⟨x, y⟩ => ⟨x, grown_some y _⟩)

/-- an entry read in the memory, a refusal told as the stage's own -/
def rdR (zs : List Int) (t a f p : Int) : Rr := match readP zs f p with
  | none => refR t a
  | some e => .ok e
theorem rdR_val (zs : List Int) (t a f p : Int) : (rdR zs t a f p).val = rdV t a (readP zs f p) := by
  unfold rdR
  cases readP zs f p <;> rfl

theorem enOf_frame (n : Int) : 0 ≤ (enOf n).f ∧ (enOf n).f < 65536 := by
  unfold enOf
  split
  · simp only [frameP]; omega
  · simp [En.zero]
theorem readP_frame {zs : List Int} {f p : Int} {e : En} (h : readP zs f p = some e) : 0 ≤ e.f ∧ e.f < 65536 := by
  unfold readP at h
  split at h
  · cases h; exact enOf_frame _
  · cases h
theorem rdR_frame {zs : List Int} {t a f p : Int} {e : En} (h : rdR zs t a f p = .ok e) : 0 ≤ e.f ∧ e.f < 65536 := by
  unfold rdR at h
  cases hr : readP zs f p with
  | none => rw [hr] at h; cases h
  | some e' => rw [hr] at h; cases h; exact readP_frame hr
theorem rdR_no {zs : List Int} {t a f p c v g : Int} (h : rdR zs t a f p = .no c v g) : c ≠ 0 := by
  unfold rdR at h
  cases hr : readP zs f p with
  | none => rw [hr] at h; cases h; exact fault_ne a
  | some e' => rw [hr] at h; cases h

/-- the closure of One -/
theorem one_reads (t a : Int) (u : Bool) (b g c m : Nat) (zs : List Int) (W0 : World) (hS : St W0 b g zs) (hc : c < W0.heap.size) (hm : m < W0.heap.size)
    (c0 : W0.cell? ⟨c, 0, none⟩ = some (.int .u64 t)) (c1 : W0.cell? ⟨c, 1, none⟩ = some (.int .i64 a)) (c2 : W0.cell? ⟨c, 2, none⟩ = some (.bool u)) (m0 : W0.cell? ⟨m, 0, none⟩ = some (.iface 26 (.pointer (some ⟨b, 0, none⟩)))) :
    Reads 20 #[.pointer (some ⟨c, 0, none⟩), .pointer (some ⟨m, 0, none⟩)] W0.heap.size none (fun _ w => Below W0.heap.size W0 w) (rdR zs t a) := by
  refine ⟨fun _ _ => (by kernel_rfl), fun k w w' h1 h2 => h1.trans h2, fun k h => (by cases h), ?_, fun f p c v g h => rdR_no h, fun f p e h => rdR_frame h⟩
  intro k f p w hf0 hf1 hp0 hp1 hN hI
  have C := fun w h => read_any t a u f p b g zs hf0 hf1 hp0 hp1 w h
  have hS1 := hS.below hI
  obtain ⟨hd, _⟩ := bel_cell hI hc
  obtain ⟨he, _⟩ := bel_cell hI hm
  have k0 : w.cell? ⟨c, 0, none⟩ = _ := (hd 0).trans c0
  have k1 : w.cell? ⟨c, 1, none⟩ = _ := (hd 1).trans c1
  have k2 : w.cell? ⟨c, 2, none⟩ = _ := (hd 2).trans c2
  have k3 : w.cell? ⟨m, 0, none⟩ = _ := (he 0).trans m0
  have l1 : c < w.heap.size := by omega
  have l2 : m < w.heap.size := by omega
  have HS : Hid (_) := hS1
  have HI : Hid (_) := hI
  clear hS1 hd he c0 c1 c2 m0 hS hI hc hm
  rw [rdR_val]
  suffices Calls Tryd.prog 20 #[.int .i64 f, .int .i64 p, .pointer (some ⟨c, 0, none⟩), .pointer (some ⟨m, 0, none⟩)] w fun e w' => e = .returned (rdV t a (readP zs f p)) ∧ Below w.heap.size w w' from
    this.mono fun e w' ⟨x, y⟩ => ⟨x, grown_of_below y, fun _ => HI.out.trans (y.mono hN)⟩
  cases hr : readP zs f p with
  | none =>
    rw [hr] at C
    unfold rdV En.zero En.val ent trapV askV at *
    simp only at C ⊢
    generalize faultP a 12 13 15 = x at *
    go_enter Tryd.func20, Tryd.ntmps20
    go_wp2_with fail
    refine (C _ (HS.out.below (((Below.refl _ _).alloc (Nat.le_refl _) _).alloc (by simp) _))).mono ?_
    rintro e w1 ⟨rfl, hb1⟩
    have HB : Hid (Below w.heap.size w w1) := (((Below.refl _ _).alloc (Nat.le_refl _) _).alloc (by simp) _).trans (hb1.mono (by simp; omega))
    obtain ⟨n0, o0⟩ := bel_cell hb1 (b := w.heap.size) (by simp; omega)
    obtain ⟨n1, o1⟩ := bel_cell hb1 (b := w.heap.size + 1) (by simp)
    have hs1 : w.heap.size + 1 < w1.heap.size := by have := hb1.size; simp at this; omega
    clear hb1 C
    go_wp2_with fail
    refine bodyPost_ret (v := _) ?h1 rfl ⟨rfl, below_set83 HB.out (Nat.le_refl _) (by omega) _ _ _ _ _ _ _ _ _ _ _⟩
    case h1 => simp [results, Tryd.results20, go_sem, n0, n1]
  | some E =>
    rw [hr] at C
    clear hr
    obtain ⟨v, xr, xw, xx, xu, xs, xd, xf⟩ := E
    unfold rdV En.val ent trapV askV at *
    simp only at C ⊢
    go_enter Tryd.func20, Tryd.ntmps20
    go_wp2_with fail
    refine (C _ (HS.out.below (((Below.refl _ _).alloc (Nat.le_refl _) _).alloc (by simp) _))).mono ?_
    rintro e w1 ⟨rfl, hb1⟩
    have HB : Hid (Below w.heap.size w w1) := (((Below.refl _ _).alloc (Nat.le_refl _) _).alloc (by simp) _).trans (hb1.mono (by simp; omega))
    obtain ⟨n0, o0⟩ := bel_cell hb1 (b := w.heap.size) (by simp; omega)
    obtain ⟨n1, o1⟩ := bel_cell hb1 (b := w.heap.size + 1) (by simp)
    have hs1 : w.heap.size + 1 < w1.heap.size := by have := hb1.size; simp at this; omega
    clear hb1 C
    go_wp2_with fail
    refine bodyPost_ret (v := _) ?h1 rfl ⟨rfl, below_set83 HB.out (Nat.le_refl _) (by omega) _ _ _ _ _ _ _ _ _ _ _⟩
    case h1 => simp [results, Tryd.results20, go_sem, n0, n1]
end Go.Proofs.YtbaagnfcdphddaaDoor
