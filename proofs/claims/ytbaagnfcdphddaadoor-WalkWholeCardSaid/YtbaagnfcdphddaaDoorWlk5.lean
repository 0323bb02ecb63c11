/-
  What a walk through both tables tells, whatever reads an entry: the contract of walk.
-/
import Derived.Test.YtbaagnfcdphddaaDoorWlk4
namespace Go.Proofs.YtbaagnfcdphddaaDoor
open Go.RowKit
set_option linter.unusedVariables false
set_option maxRecDepth 20000

/-- what reading an entry tells: an entry, or a trap -/
inductive Rr where
  | ok (e : En)
  | no (c v g : Int)
def Rr.val : Rr → Value
  | .ok e => .tuple #[e.val, trapV 0 0 0]
  | .no c v g => .tuple #[En.zero.val, trapV c v g]
def Rr.isOk : Rr → Bool
  | .ok _ => true
  | .no _ _ _ => false
/-- a refusal by the stage itself -/
def refR (t a : Int) : Rr := .no (faultP a 12 13 15) t 0
def walkR (R : Int → Int → Rr) (root t a : Int) (u : Bool) : Rr :=
  if t < 262144 then
    match R root (t / 8192) with
    | .no c v g => .no c v g
    | .ok tb =>
      if tb.v && !leafP tb.v tb.r tb.x then
        match R tb.f (t / 256 % 32) with
        | .no c v g => .no c v g
        | .ok pg => if allowP pg.v pg.r pg.w pg.x pg.u a u then .ok pg else refR t a
      else refR t a
  else refR t a

theorem fault_ne (a : Int) : faultP a 12 13 15 ≠ 0 := by
  unfold faultP
  split
  · decide
  · split <;> decide

/-- what a closure that reads entries does -/
structure Reads (F : FuncId) (caps : Array Value) (N : Nat) (r : Option Nat) (I : Nat → World → Prop) (R : Int → Int → Rr) : Prop where
  enter : ∀ (args : Array Value) (w : World), (callFunc F args).run Tryd.prog w = .ok (.enter F args) w
  keep : ∀ k w w', I k w → Below N w w' → I k w'
  lt : ∀ k, r = some k → k < N
  call : ∀ k f p w, 0 ≤ f → f < 9223372036854775808 → 0 ≤ p → p < 32 → N ≤ w.heap.size → I k w →
    Calls Tryd.prog F (#[.int .i64 f, .int .i64 p] ++ caps) w fun e w' => e = .returned (R f p).val ∧ w.grownBy w' r ∧ ((R f p).isOk = true → I (k + 1) w')
  no : ∀ f p c v g, R f p = .no c v g → c ≠ 0
  frame : ∀ f p e, R f p = .ok e → 0 ≤ e.f ∧ e.f < 65536

theorem gr_below {W w w' : World} {r : Option Nat} (h : W.grownBy w r) (hb : Below W.heap.size w w') : W.grownBy w' r :=
  ⟨hb.os.trans h.os, hb.tape.trans h.tape, hb.output.trans h.output, Nat.le_trans h.size hb.size, fun k hk hr => (hb.block k hk).trans (h.block k hk hr)⟩
theorem gr_cell {w w' : World} {r : Option Nat} (h : w.grownBy w' r) {N : Nat} (hr : ∀ k, r = some k → k < N) {b : Nat} (hN : N ≤ b) (hb : b < w.heap.size) : (∀ o, w'.cell? ⟨b, o, none⟩ = w.cell? ⟨b, o, none⟩) ∧ (∀ o, w'.frozen? ⟨b, o, none⟩ = w.frozen? ⟨b, o, none⟩) := by
  have he : w'.heap[b]? = w.heap[b]? := h.block b hb (fun e => by have := hr b e.symm; omega)
  exact ⟨fun o => World.cell?_of_block (a := ⟨b, o, none⟩) he, fun o => by simp [World.frozen?, he]⟩

theorem bel_cell {B : Nat} {W w : World} (h : Below B W w) {b : Nat} (hb : b < B) : (∀ o, w.cell? ⟨b, o, none⟩ = W.cell? ⟨b, o, none⟩) ∧ (∀ o, w.frozen? ⟨b, o, none⟩ = W.frozen? ⟨b, o, none⟩) :=
  ⟨fun o => h.cell (p := ⟨b, o, none⟩) hb, fun o => h.frozen (p := ⟨b, o, none⟩) hb⟩

theorem walk_no_split (F : FuncId) (caps : Array Value) (root t a : Int) (u : Bool) (h0 : 0 ≤ t) (h1 : t < 18446744073709551616) (ht : ¬ t < 262144) (W : World) :
    Calls Tryd.prog 19 #[askV t a u, .int .i64 root, .func (.func F) #[] caps] W fun e W' => e = .returned (refR t a).val ∧ Below W.heap.size W W' := by
  have C1 := split_any t h0 h1
  have C2 := refused_any t a u
  unfold splitV at C1
  rw [if_neg ht] at C1
  unfold Rr.val refR En.zero En.val ent trapV askV at *
  simp only
  generalize faultP a 12 13 15 = x at *
  go_enter Tryd.func19, Tryd.ntmps19
  go_wp2_with fail
  refine (C1 _).mono ?_
  rintro e w1 ⟨rfl, rfl⟩
  go_wp2_with fail
  refine (C2 _).mono ?_
  rintro e w2 ⟨rfl, hb2⟩
  obtain ⟨hc2, hf2⟩ := bcell hb2
  simp only [World.size_alloc] at hc2 hf2
  have HB : Hid (Below W.heap.size W w2) := ((((Below.refl _ _).alloc (Nat.le_refl _) _).alloc (by simp) _).alloc (by simp; omega) _).trans (hb2.mono (by simp; omega))
  have hs2 : W.heap.size + 2 < w2.heap.size := by have := hb2.size; simp at this; omega
  clear hb2 C1 C2
  go_wp2_with fail
  refine bodyPost_ret (v := _) ?h1 rfl ⟨rfl, below_set83 HB.out (by omega) (by omega) _ _ _ _ _ _ _ _ _ _ _⟩
  case h1 => simp [results, Tryd.results19, go_sem, hc2]

set_option maxHeartbeats 1600000 in
theorem walk_no_first (F : FuncId) (caps : Array Value) (r : Option Nat) (I : Nat → World → Prop) (R : Int → Int → Rr) (root t a : Int) (u : Bool) (h0 : 0 ≤ t) (ht : t < 262144) (hr0 : 0 ≤ root) (hr1 : root < 9223372036854775808) (W : World)
    (hR : Reads F caps W.heap.size r I R) (hI : I 0 W) (c v g : Int) (hn : R root (t / 8192) = .no c v g) :
    Calls Tryd.prog 19 #[askV t a u, .int .i64 root, .func (.func F) #[] caps] W fun e W' => e = .returned (Rr.no c v g).val ∧ W.grownBy W' r := by
  have C1 := split_any t h0 (by omega)
  have C3 := fun w hw hi => hR.call 0 root (t / 8192) w hr0 hr1 (by omega) (by omega) hw hi
  have hx : ¬ c = 0 := hR.no _ _ _ _ _ hn
  rw [hn] at C3
  unfold splitV at C1
  rw [if_pos ht] at C1
  unfold Rr.val En.zero En.val ent trapV askV at *
  simp only [Rr.isOk, Bool.false_eq_true, false_implies, and_true] at C3 ⊢
  have HI : Hid (I 0 W) := hI
  have HK : Hid (Reads F caps W.heap.size r I R) := hR
  have hcf := hR.enter
  clear hI hR
  generalize t / 8192 = q at *
  generalize t / 256 % 32 = q2 at *
  go_enter Tryd.func19, Tryd.ntmps19
  go_wp2_with fail
  refine (C1 _).mono ?_
  rintro e w1 ⟨rfl, rfl⟩
  go_wp2_with fail
  refine (C3 _ (by simp; omega) (HK.out.keep _ _ _ HI.out ((((Below.refl _ _).alloc (Nat.le_refl _) _).alloc (by simp) _).alloc (by simp; omega) _))).mono ?_
  rintro e w2 ⟨rfl, hg2⟩
  obtain ⟨hc0, hf0⟩ := gr_cell hg2 HK.out.lt (b := W.heap.size) (Nat.le_refl _) (by simp; omega)
  obtain ⟨hc1, hf1⟩ := gr_cell hg2 HK.out.lt (b := W.heap.size + 1) (by omega) (by simp)
  obtain ⟨hc2, hf2⟩ := gr_cell hg2 HK.out.lt (b := W.heap.size + 1 + 1) (by omega) (by simp)
  have HG : Hid (W.grownBy w2 r) := grown_trans (grown_some ((((Below.refl _ _).alloc (Nat.le_refl _) _).alloc (by simp) _).alloc (by simp; omega) _) _) hg2
  have hs2 : W.heap.size + 1 + 1 < w2.heap.size := by have := hg2.size; simp at this; omega
  have hs1 : W.heap.size + 1 < w2.heap.size := by omega
  have hs0 : W.heap.size < w2.heap.size := by omega
  clear hg2 C1 C3
  go_wp2_with fail
  go_region
  all_goals go_wp2_with fail
  refine bodyPost_ret (v := _) ?h1 rfl ⟨rfl, gr_below HG.out (((below_set83 (Below.refl _ _) (by omega) (by omega) _ _ _ _ _ _ _ _ _ _ _).alloc (by simp; omega) _).alloc (by simp; omega) _).drew⟩
  case h1 => simp [results, Tryd.results19, go_sem, hc1, hc2, hs0, hs1, hs2]
end Go.Proofs.YtbaagnfcdphddaaDoor
