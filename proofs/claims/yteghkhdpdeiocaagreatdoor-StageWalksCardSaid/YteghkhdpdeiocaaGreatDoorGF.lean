/-
  What read of package walk tells: its contract, whole.
  What a walk through both tables tells, whatever reads an entry: the contract of walk.
  What a walk through both tables tells where the upper entry is no table's: walk's contract there.
  What a walk through both tables tells, where the lower entry can't be told: walk's contract there.
  What a walk through both tables tells, where the lower entry does not allow the access: walk's contract there.
  What a walk through both tables tells, where a page is found: walk's contract there.
  What a walk through both tables tells: walk's contract, whole; and what One tells.
  What One, secondStage and itself tell: their contracts.
-/
import Derived.Test.YteghkhdpdeiocaaGreatDoorGE
namespace Go.Proofs.YteghkhdpdeiocaaGreatDoor.E
open Go.RowKit
set_option linter.unusedVariables false
set_option maxRecDepth 100000

set_option maxHeartbeats 1600000 in
theorem read_no_entry [Bits] (t a : Int) (u : Bool) (f p : Int) (b g : Nat) (zs : List Int) (h0 : 0 ≤ f) (hp : 0 ≤ p) (hp' : p < 32) (hf : f ≤ 72057594037927935) (hn : numE zs.length (atP f p) 8 = 0) (hu : ¬ unpackE (loadV zs (atP f p) 8) = 0) (W : World) (hS : St W b g zs) :
    Calls Tryz.prog 40 #[askV t a u, .iface 36 (.pointer (some ⟨b, 0, none⟩)), .int .i64 f, .int .i64 p] W fun e W' => e = .returned (rdV t a none) ∧ Below W.heap.size W W' := by
  have C2 := refused_any t a u
  have C1 := entryAt_any f p h0 (by omega) hp hp'
  have C3 := fun (W : World) (h : St W b g zs) => number_mm b g zs (atP f p) W h.sz h.mm (at_range f p).1 (at_range f p).2
  have hr := load_range zs hS.mm.bytes (atP f p)
  have C4 := fun (W : World) (h : St W b g zs) => unpack_en (loadV zs (atP f p) 8) hr.1 hr.2 W h.bt
  rw [decide_eq_true hf] at C1
  rw [decide_eq_true hn] at C3
  have HS : Hid (St W b g zs) := hS
  clear hS hn hr
  have hu' : (unpackE (loadV zs (atP f p) 8) != 0) = true := by rw [bne_iff_ne]; exact hu
  clear hu
  unfold rdV En.zero En.val ent trapV askV at *
  generalize faultP a 12 13 15 = x at *
  generalize atP f p = q at *
  generalize loadV zs q 8 = y at *
  generalize unpackE y = z at *
  generalize enOf y = E at *
  obtain ⟨v, r, w, xx, uu, s, d, ff⟩ := E
  simp only at *
  go_enter Tryz.func40, Tryz.ntmps40
  go_wp2_with fail
  refine (C1 _).mono ?_
  rintro e w1 ⟨rfl, rfl⟩
  go_wp2_with fail
  refine (C3 _ (HS.out.below ((((Below.refl _ _).alloc (Nat.le_refl _) _).alloc (by simp) _).alloc (by simp; omega) _))).mono ?_
  rintro e w2 ⟨rfl, hb2⟩
  have HB : Hid (Below W.heap.size W w2) := ((((Below.refl _ _).alloc (Nat.le_refl _) _).alloc (by simp) _).alloc (by simp; omega) _).trans (hb2.mono (by simp; omega))
  have HC : Hid (_) := hb2
  have hs2 : W.heap.size + 2 < w2.heap.size := by have := hb2.size; simp at this; omega
  clear hb2 C1 C3
  go_wp2_with fail
  refine (C4 _ (HS.out.below HB.out)).mono ?_
  rintro e w3 ⟨rfl, hb3⟩
  have HB3 : Hid (Below W.heap.size W w3) := HB.out.trans (hb3.mono (by omega))
  have HC3 : Hid (_) := HC.out.trans (hb3.mono (by simp; omega))
  obtain ⟨hc3, hf3⟩ := bcell HC3.out
  simp only [World.size_alloc] at hc3 hf3
  have hs3 : W.heap.size + 1 + 1 < w3.heap.size := by have := hb3.size; omega
  have hs31 : W.heap.size + 1 < w3.heap.size := by omega
  have hs30 : W.heap.size < w3.heap.size := by omega
  clear hb3 C4 HC HB hs2
  go_wp2_with fail
  refine (C2 _).mono ?_
  rintro e w4 ⟨rfl, hb4⟩
  have HB4 : Hid (Below W.heap.size W w4) := (HB3.out.alloc (by omega) _).trans (hb4.mono (by simp; omega))
  have HC4 := (HC3.out.alloc (by simp; omega) _).trans (hb4.mono (by simp; omega))
  clear hc3 hf3
  obtain ⟨hc4, hf4⟩ := bcell HC4
  simp only [World.size_alloc] at hc4 hf4
  have hs4 : W.heap.size + 2 < w4.heap.size := by have := hb4.size; simp at this; omega
  clear hb4 C2 HC4 HC3 HB3
  go_wp2_with fail
  refine bodyPost_ret (v := _) ?h1 rfl ⟨rfl, below_set83 HB4.out (by omega) (by omega) _ _ _ _ _ _ _ _ _ _ _⟩
  case h1 => simp [results, Tryz.results40, go_sem, hc4]

set_option maxHeartbeats 1600000 in
theorem read_yes [Bits] (t a : Int) (u : Bool) (f p : Int) (b g : Nat) (zs : List Int) (h0 : 0 ≤ f) (hp : 0 ≤ p) (hp' : p < 32) (hf : f ≤ 72057594037927935) (hn : numE zs.length (atP f p) 8 = 0) (hu : unpackE (loadV zs (atP f p) 8) = 0) (W : World) (hS : St W b g zs) :
    Calls Tryz.prog 40 #[askV t a u, .iface 36 (.pointer (some ⟨b, 0, none⟩)), .int .i64 f, .int .i64 p] W fun e W' => e = .returned (rdV t a (some (enOf (loadV zs (atP f p) 8)))) ∧ Below W.heap.size W W' := by
  have C1 := entryAt_any f p h0 (by omega) hp hp'
  have C3 := fun (W : World) (h : St W b g zs) => number_mm b g zs (atP f p) W h.sz h.mm (at_range f p).1 (at_range f p).2
  have hr := load_range zs hS.mm.bytes (atP f p)
  have C4 := fun (W : World) (h : St W b g zs) => unpack_en (loadV zs (atP f p) 8) hr.1 hr.2 W h.bt
  rw [decide_eq_true hf] at C1
  rw [decide_eq_true hn] at C3
  have HS : Hid (St W b g zs) := hS
  clear hS hn hr
  rw [hu] at C4
  clear hu
  unfold rdV En.val ent trapV askV at *
  generalize atP f p = q at *
  generalize loadV zs q 8 = y at *
  generalize enOf y = E at *
  obtain ⟨v, r, w, xx, uu, s, d, ff⟩ := E
  simp only at *
  go_enter Tryz.func40, Tryz.ntmps40
  go_wp2_with fail
  refine (C1 _).mono ?_
  rintro e w1 ⟨rfl, rfl⟩
  go_wp2_with fail
  refine (C3 _ (HS.out.below ((((Below.refl _ _).alloc (Nat.le_refl _) _).alloc (by simp) _).alloc (by simp; omega) _))).mono ?_
  rintro e w2 ⟨rfl, hb2⟩
  have HB : Hid (Below W.heap.size W w2) := ((((Below.refl _ _).alloc (Nat.le_refl _) _).alloc (by simp) _).alloc (by simp; omega) _).trans (hb2.mono (by simp; omega))
  have HC : Hid (_) := hb2
  have hs2 : W.heap.size + 2 < w2.heap.size := by have := hb2.size; simp at this; omega
  clear hb2 C1 C3
  go_wp2_with fail
  refine (C4 _ (HS.out.below HB.out)).mono ?_
  rintro e w3 ⟨rfl, hb3⟩
  have HB3 : Hid (Below W.heap.size W w3) := HB.out.trans (hb3.mono (by omega))
  have HC3 : Hid (_) := HC.out.trans (hb3.mono (by simp; omega))
  obtain ⟨hc3, hf3⟩ := bcell HC3.out
  simp only [World.size_alloc] at hc3 hf3
  have hs3 : W.heap.size + 1 + 1 < w3.heap.size := by have := hb3.size; omega
  have hs31 : W.heap.size + 1 < w3.heap.size := by omega
  have hs30 : W.heap.size < w3.heap.size := by omega
  clear hb3 C4 HC HB hs2
  go_wp2_with fail
  refine bodyPost_ret (v := _) ?h1 rfl ⟨rfl, (below_set83 HB3.out (by omega) (by omega) _ _ _ _ _ _ _ _ _ _ _).alloc (by simp; omega) _⟩
  case h1 => simp [results, Tryz.results40, go_sem, hc3, hs3, hs31]

theorem read_any [Bits] (t a : Int) (u : Bool) (f p : Int) (b g : Nat) (zs : List Int) (h0 : 0 ≤ f) (h1 : f < 9223372036854775808) (hp : 0 ≤ p) (hp' : p < 32) (W : World) (hS : St W b g zs) :
    Calls Tryz.prog 40 #[askV t a u, .iface 36 (.pointer (some ⟨b, 0, none⟩)), .int .i64 f, .int .i64 p] W fun e W' => e = .returned (rdV t a (readP zs f p)) ∧ Below W.heap.size W W' := by
  unfold readP
  by_cases c1 : f ≤ 72057594037927935
  · by_cases c2 : numE zs.length (atP f p) 8 = 0
    · by_cases c3 : unpackE (loadV zs (atP f p) 8) = 0
      · rw [if_pos ⟨c1, c2, c3⟩]; exact read_yes t a u f p b g zs h0 hp hp' c1 c2 c3 W hS
      · rw [if_neg (fun h => c3 h.2.2)]; exact read_no_entry t a u f p b g zs h0 hp hp' c1 c2 c3 W hS
    · rw [if_neg (fun h => c2 h.2.1)]; exact read_no_load t a u f p b g zs h0 hp hp' c1 c2 W hS
  · rw [if_neg (fun h => c1 h.1)]; exact read_no_fit t a u f p _ h0 h1 hp hp' c1 W
end Go.Proofs.YteghkhdpdeiocaaGreatDoor.E
namespace Go.Proofs.YteghkhdpdeiocaaGreatDoor.E
open Go.RowKit
set_option linter.unusedVariables false
set_option maxRecDepth 100000

/-- what reading an entry tells: an entry, or a trap -/
inductive Rr where
  | ok (e : En)
  | no (c v g : Int)
def Rr.val : Rr → Value
  | .ok e => .tuple #[e.val, trapV 0 0 0]
  | .no c v g => .tuple #[En.zero.val, trapV c v g]
def Rr.isOk : Rr → Bool
  | .ok _ => true
  | .no _ _ _ => false
/-- a refusal by the stage itself -/
def refR (t a : Int) : Rr := .no (faultP a 12 13 15) t 0
def walkR (R : Int → Int → Rr) (root t a : Int) (u : Bool) : Rr :=
  if t < 262144 then
    match R root (t / 8192) with
    | .no c v g => .no c v g
    | .ok tb =>
      if tb.v && !leafP tb.v tb.r tb.x then
        match R tb.f (t / 256 % 32) with
        | .no c v g => .no c v g
        | .ok pg => if allowP pg.v pg.r pg.w pg.x pg.u a u then .ok pg else refR t a
      else refR t a
  else refR t a

theorem fault_ne (a : Int) : faultP a 12 13 15 ≠ 0 := by
  unfold faultP
  split
  · decide
  · split <;> decide

/-- what a closure that reads entries does -/
structure Reads (F : FuncId) (caps : Array Value) (N : Nat) (r : Option Nat) (I : Nat → World → Prop) (R : Int → Int → Rr) : Prop where
  enter : ∀ (args : Array Value) (w : World), (callFunc F args).run Tryz.prog w = .ok (.enter F args) w
  keep : ∀ k w w', I k w → Below N w w' → I k w'
  lt : ∀ k, r = some k → k < N
  call : ∀ k f p w, 0 ≤ f → f < 9223372036854775808 → 0 ≤ p → p < 32 → N ≤ w.heap.size → I k w →
    Calls Tryz.prog F (#[.int .i64 f, .int .i64 p] ++ caps) w fun e w' => e = .returned (R f p).val ∧ w.grownBy w' r ∧ ((R f p).isOk = true → I (k + 1) w')
  no : ∀ f p c v g, R f p = .no c v g → c ≠ 0
  frame : ∀ f p e, R f p = .ok e → 0 ≤ e.f ∧ e.f < 65536

theorem gr_below {W w w' : World} {r : Option Nat} (h : W.grownBy w r) (hb : Below W.heap.size w w') : W.grownBy w' r :=
  ⟨hb.os.trans h.os, hb.tape.trans h.tape, hb.output.trans h.output, Nat.le_trans h.size hb.size, fun k hk hr => (hb.block k hk).trans (h.block k hk hr)⟩
theorem gr_cell {w w' : World} {r : Option Nat} (h : w.grownBy w' r) {N : Nat} (hr : ∀ k, r = some k → k < N) {b : Nat} (hN : N ≤ b) (hb : b < w.heap.size) : (∀ o, w'.cell? ⟨b, o, none⟩ = w.cell? ⟨b, o, none⟩) ∧ (∀ o, w'.frozen? ⟨b, o, none⟩ = w.frozen? ⟨b, o, none⟩) := by
  have he : w'.heap[b]? = w.heap[b]? := h.block b hb (fun e => by have := hr b e.symm; omega)
  exact ⟨fun o => World.cell?_of_block (a := ⟨b, o, none⟩) he, fun o => by simp [World.frozen?, he]⟩

theorem bel_cell {B : Nat} {W w : World} (h : Below B W w) {b : Nat} (hb : b < B) : (∀ o, w.cell? ⟨b, o, none⟩ = W.cell? ⟨b, o, none⟩) ∧ (∀ o, w.frozen? ⟨b, o, none⟩ = W.frozen? ⟨b, o, none⟩) :=
  ⟨fun o => h.cell (p := ⟨b, o, none⟩) hb, fun o => h.frozen (p := ⟨b, o, none⟩) hb⟩

theorem walk_no_split (F : FuncId) (caps : Array Value) (root t a : Int) (u : Bool) (h0 : 0 ≤ t) (h1 : t < 18446744073709551616) (ht : ¬ t < 262144) (W : World) :
    Calls Tryz.prog 38 #[askV t a u, .int .i64 root, .func (.func F) #[] caps] W fun e W' => e = .returned (refR t a).val ∧ Below W.heap.size W W' := by
  have C1 := split_any t h0 h1
  have C2 := refused_any t a u
  unfold splitV at C1
  rw [if_neg ht] at C1
  unfold Rr.val refR En.zero En.val ent trapV askV at *
  simp only
  generalize faultP a 12 13 15 = x at *
  go_enter Tryz.func38, Tryz.ntmps38
  go_wp2_with fail
  refine (C1 _).mono ?_
  rintro e w1 ⟨rfl, rfl⟩
  go_wp2_with fail
  refine (C2 _).mono ?_
  rintro e w2 ⟨rfl, hb2⟩
  obtain ⟨hc2, hf2⟩ := bcell hb2
  simp only [World.size_alloc] at hc2 hf2
  have HB : Hid (Below W.heap.size W w2) := ((((Below.refl _ _).alloc (Nat.le_refl _) _).alloc (by simp) _).alloc (by simp; omega) _).trans (hb2.mono (by simp; omega))
  have hs2 : W.heap.size + 2 < w2.heap.size := by have := hb2.size; simp at this; omega
  clear hb2 C1 C2
  go_wp2_with fail
  refine bodyPost_ret (v := _) ?h1 rfl ⟨rfl, below_set83 HB.out (by omega) (by omega) _ _ _ _ _ _ _ _ _ _ _⟩
  case h1 => simp [results, Tryz.results38, go_sem, hc2]

set_option maxHeartbeats 1600000 in
theorem walk_no_first (F : FuncId) (caps : Array Value) (r : Option Nat) (I : Nat → World → Prop) (R : Int → Int → Rr) (root t a : Int) (u : Bool) (h0 : 0 ≤ t) (ht : t < 262144) (hr0 : 0 ≤ root) (hr1 : root < 9223372036854775808) (W : World)
    (hR : Reads F caps W.heap.size r I R) (hI : I 0 W) (c v g : Int) (hn : R root (t / 8192) = .no c v g) :
    Calls Tryz.prog 38 #[askV t a u, .int .i64 root, .func (.func F) #[] caps] W fun e W' => e = .returned (Rr.no c v g).val ∧ W.grownBy W' r := by
  have C1 := split_any t h0 (by omega)
  have C3 := fun w hw hi => hR.call 0 root (t / 8192) w hr0 hr1 (by omega) (by omega) hw hi
  have hx : ¬ c = 0 := hR.no _ _ _ _ _ hn
  rw [hn] at C3
  unfold splitV at C1
  rw [if_pos ht] at C1
  unfold Rr.val En.zero En.val ent trapV askV at *
  simp only [Rr.isOk, Bool.false_eq_true, false_implies, and_true] at C3 ⊢
  have HI : Hid (I 0 W) := hI
  have HK : Hid (Reads F caps W.heap.size r I R) := hR
  have hcf := hR.enter
  clear hI hR
  generalize t / 8192 = q at *
  generalize t / 256 % 32 = q2 at *
  go_enter Tryz.func38, Tryz.ntmps38
  go_wp2_with fail
  refine (C1 _).mono ?_
  rintro e w1 ⟨rfl, rfl⟩
  go_wp2_with fail
  refine (C3 _ (by simp; omega) (HK.out.keep _ _ _ HI.out ((((Below.refl _ _).alloc (Nat.le_refl _) _).alloc (by simp) _).alloc (by simp; omega) _))).mono ?_
  rintro e w2 ⟨rfl, hg2⟩
  obtain ⟨hc0, hf0⟩ := gr_cell hg2 HK.out.lt (b := W.heap.size) (Nat.le_refl _) (by simp; omega)
  obtain ⟨hc1, hf1⟩ := gr_cell hg2 HK.out.lt (b := W.heap.size + 1) (by omega) (by simp)
  obtain ⟨hc2, hf2⟩ := gr_cell hg2 HK.out.lt (b := W.heap.size + 1 + 1) (by omega) (by simp)
  have HG : Hid (W.grownBy w2 r) := grown_trans (grown_some ((((Below.refl _ _).alloc (Nat.le_refl _) _).alloc (by simp) _).alloc (by simp; omega) _) _) hg2
  have hs2 : W.heap.size + 1 + 1 < w2.heap.size := by have := hg2.size; simp at this; omega
  have hs1 : W.heap.size + 1 < w2.heap.size := by omega
  have hs0 : W.heap.size < w2.heap.size := by omega
  clear hg2 C1 C3
  go_wp2_with fail
  go_region
  all_goals go_wp2_with fail
  refine bodyPost_ret (v := _) ?h1 rfl ⟨rfl, gr_below HG.out (((below_set83 (Below.refl _ _) (by omega) (by omega) _ _ _ _ _ _ _ _ _ _ _).alloc (by simp; omega) _).alloc (by simp; omega) _).drew⟩
  case h1 => simp [results, Tryz.results38, go_sem, hc1, hc2, hs0, hs1, hs2]
end Go.Proofs.YteghkhdpdeiocaaGreatDoor.E
namespace Go.Proofs.YteghkhdpdeiocaaGreatDoor.E
open Go.RowKit
set_option linter.unusedVariables false
set_option maxRecDepth 100000

set_option maxHeartbeats 1600000 in
theorem walk_not_valid (F : FuncId) (caps : Array Value) (r : Option Nat) (I : Nat → World → Prop) (R : Int → Int → Rr) (root t a : Int) (u : Bool) (h0 : 0 ≤ t) (ht : t < 262144) (hr0 : 0 ≤ root) (hr1 : root < 9223372036854775808) (W : World)
    (hR : Reads F caps W.heap.size r I R) (hI : I 0 W) (tb : En) (hn : R root (t / 8192) = .ok tb) (hv : tb.v = false) :
    Calls Tryz.prog 38 #[askV t a u, .int .i64 root, .func (.func F) #[] caps] W fun e W' => e = .returned (refR t a).val ∧ W.grownBy W' r := by
  have C2 := refused_any t a u
  have C1 := split_any t h0 (by omega)
  have C3 := fun w hw hi => hR.call 0 root (t / 8192) w hr0 hr1 (by omega) (by omega) hw hi
  have hfr := hR.frame _ _ _ hn
  rw [hn] at C3
  unfold splitV at C1
  rw [if_pos ht] at C1
  have HI : Hid (I 0 W) := hI
  have HK : Hid (Reads F caps W.heap.size r I R) := hR
  have hcf := hR.enter
  clear hI hR hn
  obtain ⟨v, xr, xw, xx, xu, xs, xd, xf⟩ := tb
  obtain rfl : v = false := hv
  unfold refR Rr.val En.zero En.val ent trapV askV at *
  simp only [Rr.isOk] at C3 ⊢
  generalize faultP a 12 13 15 = x at *
  generalize t / 8192 = q at *
  generalize t / 256 % 32 = q2 at *
  go_enter Tryz.func38, Tryz.ntmps38
  go_wp2_with fail
  refine (C1 _).mono ?_
  rintro e w1 ⟨rfl, rfl⟩
  go_wp2_with fail
  refine (C3 _ (by simp; omega) (HK.out.keep _ _ _ HI.out ((((Below.refl _ _).alloc (Nat.le_refl _) _).alloc (by simp) _).alloc (by simp; omega) _))).mono ?_
  rintro e w2 ⟨rfl, hg2, hI2⟩
  obtain ⟨hc0, hf0⟩ := gr_cell hg2 HK.out.lt (b := W.heap.size) (Nat.le_refl _) (by simp; omega)
  obtain ⟨hc1, hf1⟩ := gr_cell hg2 HK.out.lt (b := W.heap.size + 1) (by omega) (by simp)
  obtain ⟨hc2, hf2⟩ := gr_cell hg2 HK.out.lt (b := W.heap.size + 1 + 1) (by omega) (by simp)
  have HG : Hid (W.grownBy w2 r) := grown_trans (grown_some ((((Below.refl _ _).alloc (Nat.le_refl _) _).alloc (by simp) _).alloc (by simp; omega) _) _) hg2
  have hs2 : W.heap.size + 1 + 1 < w2.heap.size := by have := hg2.size; simp at this; omega
  have hs1 : W.heap.size + 1 < w2.heap.size := by omega
  have hs0 : W.heap.size < w2.heap.size := by omega
  have HI2 : Hid (I 1 w2) := hI2 trivial
  clear hg2 C1 C3 hI2
  go_wp2_with fail
  refine (C2 _).mono ?_
  rintro e w3 ⟨rfl, hb3⟩
  have HB3 : Hid (Below W.heap.size w2 w3) := (((Below.refl _ _).alloc (by omega) _).alloc (by simp; omega) _).trans (hb3.mono (by simp; omega))
  have HC3 : Below w2.heap.size w2 w3 := (((Below.refl _ _).alloc (by omega) _).alloc (by simp) _).trans (hb3.mono (by simp; omega))
  obtain ⟨hd1, he1⟩ := bel_cell HC3 hs1
  obtain ⟨hd2, he2⟩ := bel_cell HC3 hs2
  have ht2 : W.heap.size + 1 + 1 < w3.heap.size := by have := hb3.size; simp at this; omega
  clear hb3 HC3 C2
  go_wp2_with fail
  refine bodyPost_ret (v := _) ?h1 rfl ⟨rfl, gr_below HG.out (below_set83 HB3.out (by omega) (by omega) _ _ _ _ _ _ _ _ _ _ _)⟩
  case h1 => simp [results, Tryz.results38, go_sem, hd1, hd2, hc1, hc2]

set_option maxHeartbeats 1600000 in
theorem walk_leaf (F : FuncId) (caps : Array Value) (r : Option Nat) (I : Nat → World → Prop) (R : Int → Int → Rr) (root t a : Int) (u : Bool) (h0 : 0 ≤ t) (ht : t < 262144) (hr0 : 0 ≤ root) (hr1 : root < 9223372036854775808) (W : World)
    (hR : Reads F caps W.heap.size r I R) (hI : I 0 W) (tb : En) (hn : R root (t / 8192) = .ok tb) (hv : tb.v = true) (hl : leafP tb.v tb.r tb.x = true) :
    Calls Tryz.prog 38 #[askV t a u, .int .i64 root, .func (.func F) #[] caps] W fun e W' => e = .returned (refR t a).val ∧ W.grownBy W' r := by
  have C2 := refused_any t a u
  have C1 := split_any t h0 (by omega)
  have C3 := fun w hw hi => hR.call 0 root (t / 8192) w hr0 hr1 (by omega) (by omega) hw hi
  have hfr := hR.frame _ _ _ hn
  rw [hn] at C3
  unfold splitV at C1
  rw [if_pos ht] at C1
  have HI : Hid (I 0 W) := hI
  have HK : Hid (Reads F caps W.heap.size r I R) := hR
  have hcf := hR.enter
  clear hI hR hn
  obtain ⟨v, xr, xw, xx, xu, xs, xd, xf⟩ := tb
  obtain rfl : v = true := hv
  have CL := leaf_any true xr xw xx xu xs xd xf
  simp only at hl
  rw [hl] at CL
  clear hl
  unfold refR Rr.val En.zero En.val ent trapV askV at *
  simp only [Rr.isOk] at C3 ⊢
  generalize faultP a 12 13 15 = x at *
  generalize t / 8192 = q at *
  generalize t / 256 % 32 = q2 at *
  go_enter Tryz.func38, Tryz.ntmps38
  go_wp2_with fail
  refine (C1 _).mono ?_
  rintro e w1 ⟨rfl, rfl⟩
  go_wp2_with fail
  refine (C3 _ (by simp; omega) (HK.out.keep _ _ _ HI.out ((((Below.refl _ _).alloc (Nat.le_refl _) _).alloc (by simp) _).alloc (by simp; omega) _))).mono ?_
  rintro e w2 ⟨rfl, hg2, hI2⟩
  obtain ⟨hc0, hf0⟩ := gr_cell hg2 HK.out.lt (b := W.heap.size) (Nat.le_refl _) (by simp; omega)
  obtain ⟨hc1, hf1⟩ := gr_cell hg2 HK.out.lt (b := W.heap.size + 1) (by omega) (by simp)
  obtain ⟨hc2, hf2⟩ := gr_cell hg2 HK.out.lt (b := W.heap.size + 1 + 1) (by omega) (by simp)
  have HG : Hid (W.grownBy w2 r) := grown_trans (grown_some ((((Below.refl _ _).alloc (Nat.le_refl _) _).alloc (by simp) _).alloc (by simp; omega) _) _) hg2
  have hs2 : W.heap.size + 1 + 1 < w2.heap.size := by have := hg2.size; simp at this; omega
  have hs1 : W.heap.size + 1 < w2.heap.size := by omega
  have hs0 : W.heap.size < w2.heap.size := by omega
  have HI2 : Hid (I 1 w2) := hI2 trivial
  clear hg2 C1 C3 hI2
  go_wp2_with fail
  refine (CL _).mono ?_
  rintro e w3 ⟨rfl, hb3⟩
  have HB3 : Hid (Below W.heap.size w2 w3) := (((Below.refl _ _).alloc (by omega) _).alloc (by simp; omega) _).trans (hb3.mono (by simp; omega))
  have HC3 : Below w2.heap.size w2 w3 := (((Below.refl _ _).alloc (by omega) _).alloc (by simp) _).trans (hb3.mono (by simp; omega))
  obtain ⟨hd0, he0⟩ := bel_cell HC3 hs0
  have HD3 : Hid (_) := HC3
  have ht2 : W.heap.size + 1 + 1 < w3.heap.size := by have := hb3.size; simp at this; omega
  have ht3 : w2.heap.size ≤ w3.heap.size := by have := hb3.size; simp at this; omega
  clear hb3 HC3 CL
  go_wp2_with fail
  refine (C2 _).mono ?_
  rintro e w4 ⟨rfl, hb4⟩
  have HB4 : Hid (Below W.heap.size w2 w4) := HB3.out.trans (hb4.mono (by omega))
  have HC4 : Below w2.heap.size w2 w4 := HD3.out.trans (hb4.mono (by omega))
  obtain ⟨hd1, he1⟩ := bel_cell HC4 hs1
  obtain ⟨hd2, he2⟩ := bel_cell HC4 hs2
  have ht4 : W.heap.size + 1 + 1 < w4.heap.size := by have := hb4.size; omega
  clear hb4 HC4 C2 hd0 he0 HD3 HB3
  go_wp2_with fail
  refine bodyPost_ret (v := _) ?h1 rfl ⟨rfl, gr_below HG.out (below_set83 HB4.out (by omega) (by omega) _ _ _ _ _ _ _ _ _ _ _)⟩
  case h1 => simp [results, Tryz.results38, go_sem, hd1, hd2, hc1, hc2]
end Go.Proofs.YteghkhdpdeiocaaGreatDoor.E
namespace Go.Proofs.YteghkhdpdeiocaaGreatDoor.E
open Go.RowKit
set_option linter.unusedVariables false
set_option maxRecDepth 100000

set_option maxHeartbeats 1600000 in
theorem walk_no_second (F : FuncId) (caps : Array Value) (r : Option Nat) (I : Nat → World → Prop) (R : Int → Int → Rr) (root t a : Int) (u : Bool) (h0 : 0 ≤ t) (ht : t < 262144) (hr0 : 0 ≤ root) (hr1 : root < 9223372036854775808) (W : World)
    (hR : Reads F caps W.heap.size r I R) (hI : I 0 W) (tb : En) (hn : R root (t / 8192) = .ok tb) (hv : tb.v = true) (hl : leafP tb.v tb.r tb.x = false) (c v g : Int) (hm : R tb.f (t / 256 % 32) = .no c v g) :
    Calls Tryz.prog 38 #[askV t a u, .int .i64 root, .func (.func F) #[] caps] W fun e W' => e = .returned (Rr.no c v g).val ∧ W.grownBy W' r := by
  have C1 := split_any t h0 (by omega)
  have C3 := fun w hw hi => hR.call 0 root (t / 8192) w hr0 hr1 (by omega) (by omega) hw hi
  have hfr := hR.frame _ _ _ hn
  rw [hn] at C3
  unfold splitV at C1
  rw [if_pos ht] at C1
  have HI : Hid (I 0 W) := hI
  have HK : Hid (Reads F caps W.heap.size r I R) := hR
  have hcf := hR.enter
  have C5 := fun w hw hi => hR.call 1 tb.f (t / 256 % 32) w hfr.1 (by omega) (by omega) (by omega) hw hi
  rw [hm] at C5
  have hx : ¬ c = 0 := hR.no _ _ _ _ _ hm
  clear hI hR hn hm
  obtain ⟨y, xr, xw, xx, xu, xs, xd, xf⟩ := tb
  obtain rfl : y = true := hv
  have CL := leaf_any true xr xw xx xu xs xd xf
  simp only at hl
  rw [hl] at CL
  clear hl
  unfold Rr.val En.zero En.val ent trapV askV at *
  simp only [Rr.isOk, Bool.false_eq_true, false_implies, and_true] at C3 C5 ⊢
  generalize t / 8192 = q at *
  generalize t / 256 % 32 = q2 at *
  go_enter Tryz.func38, Tryz.ntmps38
  go_wp2_with fail
  refine (C1 _).mono ?_
  rintro e w1 ⟨rfl, rfl⟩
  go_wp2_with fail
  refine (C3 _ (by simp; omega) (HK.out.keep _ _ _ HI.out ((((Below.refl _ _).alloc (Nat.le_refl _) _).alloc (by simp) _).alloc (by simp; omega) _))).mono ?_
  rintro e w2 ⟨rfl, hg2, hI2⟩
  obtain ⟨hc0, hf0⟩ := gr_cell hg2 HK.out.lt (b := W.heap.size) (Nat.le_refl _) (by simp; omega)
  obtain ⟨hc1, hf1⟩ := gr_cell hg2 HK.out.lt (b := W.heap.size + 1) (by omega) (by simp)
  obtain ⟨hc2, hf2⟩ := gr_cell hg2 HK.out.lt (b := W.heap.size + 1 + 1) (by omega) (by simp)
  have HG : Hid (W.grownBy w2 r) := grown_trans (grown_some ((((Below.refl _ _).alloc (Nat.le_refl _) _).alloc (by simp) _).alloc (by simp; omega) _) _) hg2
  have hs2 : W.heap.size + 1 + 1 < w2.heap.size := by have := hg2.size; simp at this; omega
  have hs1 : W.heap.size + 1 < w2.heap.size := by omega
  have hs0 : W.heap.size < w2.heap.size := by omega
  have HI2 : Hid (I 1 w2) := hI2 trivial
  clear hg2 C1 C3 hI2
  go_wp2_with fail
  refine (CL _).mono ?_
  rintro e w3 ⟨rfl, hb3⟩
  have HB3 : Hid (Below W.heap.size w2 w3) := (((Below.refl _ _).alloc (by omega) _).alloc (by simp; omega) _).trans (hb3.mono (by simp; omega))
  have HC3 : Below w2.heap.size w2 w3 := (((Below.refl _ _).alloc (by omega) _).alloc (by simp) _).trans (hb3.mono (by simp; omega))
  obtain ⟨hd0, he0⟩ := bel_cell HC3 hs0
  obtain ⟨hd1, he1⟩ := bel_cell HC3 hs1
  obtain ⟨hd2, he2⟩ := bel_cell HC3 hs2
  obtain ⟨hn2, hm2⟩ := bel_cell hb3 (b := w2.heap.size) (by simp; omega)
  obtain ⟨hn3, hm3⟩ := bel_cell hb3 (b := w2.heap.size + 1) (by simp)
  have ht3 : w2.heap.size + 1 < w3.heap.size := by have := hb3.size; simp at this; omega
  clear hb3 HC3 CL
  go_wp2_with fail
  refine (C5 _ (by omega) (HK.out.keep _ _ _ HI2.out HB3.out)).mono ?_
  rintro e w4 ⟨rfl, hg4⟩
  obtain ⟨gd0, ge0⟩ := gr_cell hg4 HK.out.lt (b := W.heap.size) (Nat.le_refl _) (by omega)
  obtain ⟨gd1, ge1⟩ := gr_cell hg4 HK.out.lt (b := W.heap.size + 1) (by omega) (by omega)
  obtain ⟨gd2, ge2⟩ := gr_cell hg4 HK.out.lt (b := W.heap.size + 1 + 1) (by omega) (by omega)
  obtain ⟨gn3, gm3⟩ := gr_cell hg4 HK.out.lt (b := w2.heap.size + 1) (by omega) (by omega)
  have HG4 : Hid (W.grownBy w4 r) := grown_trans (gr_below HG.out HB3.out) hg4
  have hj4 : w2.heap.size + 1 < w4.heap.size := by have := hg4.size; omega
  have hj0 : W.heap.size < w4.heap.size := by omega
  have hj1 : W.heap.size + 1 < w4.heap.size := by omega
  have hj2 : W.heap.size + 1 + 1 < w4.heap.size := by omega
  have hk0 : W.heap.size ≠ w2.heap.size + 1 := by omega
  have hk1 : W.heap.size + 1 ≠ w2.heap.size + 1 := by omega
  have hk2 : W.heap.size + 1 + 1 ≠ w2.heap.size + 1 := by omega
  clear hg4 C5 HI HI2
  go_wp2_with fail
  go_region
  all_goals go_wp2_with fail
  refine bodyPost_ret (v := _) ?h1 rfl ⟨rfl, gr_below HG4.out ((below_set83 (below_set3 (Below.refl _ _) (by omega) _ _ _) (by omega) (by omega) _ _ _ _ _ _ _ _ _ _ _).alloc (by simp; omega) _).drew⟩
  case h1 => simp [results, Tryz.results38, go_sem, gd1, gd2, hd1, hd2, hc1, hc2, hj1, hj2]
end Go.Proofs.YteghkhdpdeiocaaGreatDoor.E
namespace Go.Proofs.YteghkhdpdeiocaaGreatDoor.E
open Go.RowKit
set_option linter.unusedVariables false
set_option maxRecDepth 100000

set_option maxHeartbeats 1600000 in
theorem walk_not_allowed (F : FuncId) (caps : Array Value) (r : Option Nat) (I : Nat → World → Prop) (R : Int → Int → Rr) (root t a : Int) (u : Bool) (h0 : 0 ≤ t) (ht : t < 262144) (hr0 : 0 ≤ root) (hr1 : root < 9223372036854775808) (W : World)
    (hR : Reads F caps W.heap.size r I R) (hI : I 0 W) (tb : En) (hn : R root (t / 8192) = .ok tb) (hv : tb.v = true) (hl : leafP tb.v tb.r tb.x = false) (pg : En) (hm : R tb.f (t / 256 % 32) = .ok pg) (ha : allowP pg.v pg.r pg.w pg.x pg.u a u = false) :
    Calls Tryz.prog 38 #[askV t a u, .int .i64 root, .func (.func F) #[] caps] W fun e W' => e = .returned (refR t a).val ∧ W.grownBy W' r := by
  have C2 := refused_any t a u
  have C1 := split_any t h0 (by omega)
  have C3 := fun w hw hi => hR.call 0 root (t / 8192) w hr0 hr1 (by omega) (by omega) hw hi
  have hfr := hR.frame _ _ _ hn
  rw [hn] at C3
  unfold splitV at C1
  rw [if_pos ht] at C1
  have HI : Hid (I 0 W) := hI
  have HK : Hid (Reads F caps W.heap.size r I R) := hR
  have hcf := hR.enter
  have C5 := fun w hw hi => hR.call 1 tb.f (t / 256 % 32) w hfr.1 (by omega) (by omega) (by omega) hw hi
  rw [hm] at C5
  clear hI hR hn hm
  obtain ⟨v, xr, xw, xx, xu, xs, xd, xf⟩ := tb
  obtain rfl : v = true := hv
  have CL := leaf_any true xr xw xx xu xs xd xf
  simp only at hl
  rw [hl] at CL
  clear hl
  obtain ⟨pv, pr, pw, px, pu, ps, pd, pf⟩ := pg
  have CA := allows_any pv pr pw px pu ps pd pf a u
  simp only at ha
  rw [ha] at CA
  clear ha
  unfold refR Rr.val En.zero En.val ent trapV askV at *
  simp only [Rr.isOk] at C3 C5 ⊢
  generalize faultP a 12 13 15 = x at *
  generalize t / 8192 = q at *
  generalize t / 256 % 32 = q2 at *
  go_enter Tryz.func38, Tryz.ntmps38
  go_wp2_with fail
  refine (C1 _).mono ?_
  rintro e w1 ⟨rfl, rfl⟩
  go_wp2_with fail
  refine (C3 _ (by simp; omega) (HK.out.keep _ _ _ HI.out ((((Below.refl _ _).alloc (Nat.le_refl _) _).alloc (by simp) _).alloc (by simp; omega) _))).mono ?_
  rintro e w2 ⟨rfl, hg2, hI2⟩
  obtain ⟨hc0, hf0⟩ := gr_cell hg2 HK.out.lt (b := W.heap.size) (Nat.le_refl _) (by simp; omega)
  obtain ⟨hc1, hf1⟩ := gr_cell hg2 HK.out.lt (b := W.heap.size + 1) (by omega) (by simp)
  obtain ⟨hc2, hf2⟩ := gr_cell hg2 HK.out.lt (b := W.heap.size + 1 + 1) (by omega) (by simp)
  have HG : Hid (W.grownBy w2 r) := grown_trans (grown_some ((((Below.refl _ _).alloc (Nat.le_refl _) _).alloc (by simp) _).alloc (by simp; omega) _) _) hg2
  have hs2 : W.heap.size + 1 + 1 < w2.heap.size := by have := hg2.size; simp at this; omega
  have hs1 : W.heap.size + 1 < w2.heap.size := by omega
  have hs0 : W.heap.size < w2.heap.size := by omega
  have HI2 : Hid (I 1 w2) := hI2 trivial
  clear hg2 C1 C3 hI2
  go_wp2_with fail
  refine (CL _).mono ?_
  rintro e w3 ⟨rfl, hb3⟩
  have HB3 : Hid (Below W.heap.size w2 w3) := (((Below.refl _ _).alloc (by omega) _).alloc (by simp; omega) _).trans (hb3.mono (by simp; omega))
  have HC3 : Below w2.heap.size w2 w3 := (((Below.refl _ _).alloc (by omega) _).alloc (by simp) _).trans (hb3.mono (by simp; omega))
  obtain ⟨hd0, he0⟩ := bel_cell HC3 hs0
  obtain ⟨hd1, he1⟩ := bel_cell HC3 hs1
  obtain ⟨hd2, he2⟩ := bel_cell HC3 hs2
  obtain ⟨hn2, hm2⟩ := bel_cell hb3 (b := w2.heap.size) (by simp; omega)
  obtain ⟨hn3, hm3⟩ := bel_cell hb3 (b := w2.heap.size + 1) (by simp)
  have ht3 : w2.heap.size + 1 < w3.heap.size := by have := hb3.size; simp at this; omega
  clear hb3 HC3 CL
  go_wp2_with fail
  refine (C5 _ (by omega) (HK.out.keep _ _ _ HI2.out HB3.out)).mono ?_
  rintro e w4 ⟨rfl, hg4, hI4⟩
  obtain ⟨gd0, ge0⟩ := gr_cell hg4 HK.out.lt (b := W.heap.size) (Nat.le_refl _) (by omega)
  obtain ⟨gd1, ge1⟩ := gr_cell hg4 HK.out.lt (b := W.heap.size + 1) (by omega) (by omega)
  obtain ⟨gd2, ge2⟩ := gr_cell hg4 HK.out.lt (b := W.heap.size + 1 + 1) (by omega) (by omega)
  obtain ⟨gn3, gm3⟩ := gr_cell hg4 HK.out.lt (b := w2.heap.size + 1) (by omega) (by omega)
  have HG4 : Hid (W.grownBy w4 r) := grown_trans (gr_below HG.out HB3.out) hg4
  have hj4 : w2.heap.size + 1 < w4.heap.size := by have := hg4.size; omega
  have hj0 : W.heap.size < w4.heap.size := by omega
  have hj1 : W.heap.size + 1 < w4.heap.size := by omega
  have hj2 : W.heap.size + 1 + 1 < w4.heap.size := by omega
  have hk0 : W.heap.size ≠ w2.heap.size + 1 := by omega
  have hk1 : W.heap.size + 1 ≠ w2.heap.size + 1 := by omega
  have hk2 : W.heap.size + 1 + 1 ≠ w2.heap.size + 1 := by omega
  clear hg4 C5 HI HI2
  go_wp2_with fail
  refine (CA _).mono ?_
  rintro e w5 ⟨rfl, hb5⟩
  have HB5 : Hid (Below W.heap.size w4 w5) := ((below_set3 (Below.refl _ _) (by omega) _ _ _).alloc (by simp; omega) _).trans (hb5.mono (by simp; omega))
  have HC5 : Below (w2.heap.size + 1) w4 w5 := ((below_set3 (Below.refl _ _) (by omega) _ _ _).alloc (by simp; omega) _).trans (hb5.mono (by simp; omega))
  obtain ⟨kd0, ke0⟩ := bel_cell HC5 (b := W.heap.size) (by omega)
  have HD5 : Hid (_) := HC5
  have hl5 : w4.heap.size < w5.heap.size := by have := hb5.size; simp at this; omega
  clear hb5 HC5 CA
  go_wp2_with fail
  refine (C2 _).mono ?_
  rintro e w6 ⟨rfl, hb6⟩
  have HB6 : Hid (Below W.heap.size w4 w6) := HB5.out.trans (hb6.mono (by omega))
  have HC6 : Below (w2.heap.size + 1) w4 w6 := HD5.out.trans (hb6.mono (by omega))
  obtain ⟨ld1, le1⟩ := bel_cell HC6 (b := W.heap.size + 1) (by omega)
  obtain ⟨ld2, le2⟩ := bel_cell HC6 (b := W.heap.size + 1 + 1) (by omega)
  have hl6 : W.heap.size + 1 + 1 < w6.heap.size := by have := hb6.size; omega
  clear hb6 HC6 C2 HD5 HB5 kd0 ke0
  go_wp2_with fail
  refine bodyPost_ret (v := _) ?h1 rfl ⟨rfl, gr_below HG4.out (below_set83 HB6.out (by omega) (by omega) _ _ _ _ _ _ _ _ _ _ _)⟩
  case h1 => simp [results, Tryz.results38, go_sem, ld1, ld2, gd1, gd2, hd1, hd2, hc1, hc2]
end Go.Proofs.YteghkhdpdeiocaaGreatDoor.E
namespace Go.Proofs.YteghkhdpdeiocaaGreatDoor.E
open Go.RowKit
set_option linter.unusedVariables false
set_option maxRecDepth 100000

set_option maxHeartbeats 1600000 in
theorem walk_found (F : FuncId) (caps : Array Value) (r : Option Nat) (I : Nat → World → Prop) (R : Int → Int → Rr) (root t a : Int) (u : Bool) (h0 : 0 ≤ t) (ht : t < 262144) (hr0 : 0 ≤ root) (hr1 : root < 9223372036854775808) (W : World)
    (hR : Reads F caps W.heap.size r I R) (hI : I 0 W) (tb : En) (hn : R root (t / 8192) = .ok tb) (hv : tb.v = true) (hl : leafP tb.v tb.r tb.x = false) (pg : En) (hm : R tb.f (t / 256 % 32) = .ok pg) (ha : allowP pg.v pg.r pg.w pg.x pg.u a u = true) :
    Calls Tryz.prog 38 #[askV t a u, .int .i64 root, .func (.func F) #[] caps] W fun e W' => e = .returned (Rr.ok pg).val ∧ W.grownBy W' r ∧ I 2 W' := by
  have C1 := split_any t h0 (by omega)
  have C3 := fun w hw hi => hR.call 0 root (t / 8192) w hr0 hr1 (by omega) (by omega) hw hi
  have hfr := hR.frame _ _ _ hn
  rw [hn] at C3
  unfold splitV at C1
  rw [if_pos ht] at C1
  have HI : Hid (I 0 W) := hI
  have HK : Hid (Reads F caps W.heap.size r I R) := hR
  have hcf := hR.enter
  have C5 := fun w hw hi => hR.call 1 tb.f (t / 256 % 32) w hfr.1 (by omega) (by omega) (by omega) hw hi
  rw [hm] at C5
  clear hI hR hn hm
  obtain ⟨v, xr, xw, xx, xu, xs, xd, xf⟩ := tb
  obtain rfl : v = true := hv
  have CL := leaf_any true xr xw xx xu xs xd xf
  simp only at hl
  rw [hl] at CL
  clear hl
  obtain ⟨pv, pr, pw, px, pu, ps, pd, pf⟩ := pg
  have CA := allows_any pv pr pw px pu ps pd pf a u
  simp only at ha
  rw [ha] at CA
  clear ha
  unfold Rr.val En.val ent trapV askV at *
  simp only [Rr.isOk] at C3 C5 ⊢
  generalize t / 8192 = q at *
  generalize t / 256 % 32 = q2 at *
  go_enter Tryz.func38, Tryz.ntmps38
  go_wp2_with fail
  refine (C1 _).mono ?_
  rintro e w1 ⟨rfl, rfl⟩
  go_wp2_with fail
  refine (C3 _ (by simp; omega) (HK.out.keep _ _ _ HI.out ((((Below.refl _ _).alloc (Nat.le_refl _) _).alloc (by simp) _).alloc (by simp; omega) _))).mono ?_
  rintro e w2 ⟨rfl, hg2, hI2⟩
  obtain ⟨hc0, hf0⟩ := gr_cell hg2 HK.out.lt (b := W.heap.size) (Nat.le_refl _) (by simp; omega)
  obtain ⟨hc1, hf1⟩ := gr_cell hg2 HK.out.lt (b := W.heap.size + 1) (by omega) (by simp)
  obtain ⟨hc2, hf2⟩ := gr_cell hg2 HK.out.lt (b := W.heap.size + 1 + 1) (by omega) (by simp)
  have HG : Hid (W.grownBy w2 r) := grown_trans (grown_some ((((Below.refl _ _).alloc (Nat.le_refl _) _).alloc (by simp) _).alloc (by simp; omega) _) _) hg2
  have hs2 : W.heap.size + 1 + 1 < w2.heap.size := by have := hg2.size; simp at this; omega
  have hs1 : W.heap.size + 1 < w2.heap.size := by omega
  have hs0 : W.heap.size < w2.heap.size := by omega
  have HI2 : Hid (I 1 w2) := hI2 trivial
  clear hg2 C1 C3 hI2
  go_wp2_with fail
  refine (CL _).mono ?_
  rintro e w3 ⟨rfl, hb3⟩
  have HB3 : Hid (Below W.heap.size w2 w3) := (((Below.refl _ _).alloc (by omega) _).alloc (by simp; omega) _).trans (hb3.mono (by simp; omega))
  have HC3 : Below w2.heap.size w2 w3 := (((Below.refl _ _).alloc (by omega) _).alloc (by simp) _).trans (hb3.mono (by simp; omega))
  obtain ⟨hd0, he0⟩ := bel_cell HC3 hs0
  obtain ⟨hd1, he1⟩ := bel_cell HC3 hs1
  obtain ⟨hd2, he2⟩ := bel_cell HC3 hs2
  obtain ⟨hn2, hm2⟩ := bel_cell hb3 (b := w2.heap.size) (by simp; omega)
  obtain ⟨hn3, hm3⟩ := bel_cell hb3 (b := w2.heap.size + 1) (by simp)
  have ht3 : w2.heap.size + 1 < w3.heap.size := by have := hb3.size; simp at this; omega
  clear hb3 HC3 CL
  go_wp2_with fail
  refine (C5 _ (by omega) (HK.out.keep _ _ _ HI2.out HB3.out)).mono ?_
  rintro e w4 ⟨rfl, hg4, hI4⟩
  obtain ⟨gd0, ge0⟩ := gr_cell hg4 HK.out.lt (b := W.heap.size) (Nat.le_refl _) (by omega)
  obtain ⟨gd1, ge1⟩ := gr_cell hg4 HK.out.lt (b := W.heap.size + 1) (by omega) (by omega)
  obtain ⟨gd2, ge2⟩ := gr_cell hg4 HK.out.lt (b := W.heap.size + 1 + 1) (by omega) (by omega)
  obtain ⟨gn3, gm3⟩ := gr_cell hg4 HK.out.lt (b := w2.heap.size + 1) (by omega) (by omega)
  have HG4 : Hid (W.grownBy w4 r) := grown_trans (gr_below HG.out HB3.out) hg4
  have hj4 : w2.heap.size + 1 < w4.heap.size := by have := hg4.size; omega
  have hj0 : W.heap.size < w4.heap.size := by omega
  have hj1 : W.heap.size + 1 < w4.heap.size := by omega
  have hj2 : W.heap.size + 1 + 1 < w4.heap.size := by omega
  have hk0 : W.heap.size ≠ w2.heap.size + 1 := by omega
  have hk1 : W.heap.size + 1 ≠ w2.heap.size + 1 := by omega
  have hk2 : W.heap.size + 1 + 1 ≠ w2.heap.size + 1 := by omega
  have HI4 : Hid (I 2 w4) := hI4 trivial
  clear hg4 C5 HI HI2 hI4
  go_wp2_with fail
  refine (CA _).mono ?_
  rintro e w5 ⟨rfl, hb5⟩
  have HB5 : Hid (Below W.heap.size w4 w5) := ((below_set3 (Below.refl _ _) (by omega) _ _ _).alloc (by simp; omega) _).trans (hb5.mono (by simp; omega))
  have HC5 : Below (w2.heap.size + 1) w4 w5 := ((below_set3 (Below.refl _ _) (by omega) _ _ _).alloc (by simp; omega) _).trans (hb5.mono (by simp; omega))
  obtain ⟨ld1, le1⟩ := bel_cell HC5 (b := W.heap.size + 1) (by omega)
  obtain ⟨ld2, le2⟩ := bel_cell HC5 (b := W.heap.size + 1 + 1) (by omega)
  obtain ⟨ln4, lm4⟩ := bel_cell hb5 (b := w4.heap.size) (by simp)
  have hl5 : w4.heap.size < w5.heap.size := by have := hb5.size; simp at this; omega
  clear hb5 HC5 CA
  go_wp2_with fail
  have HE : Below W.heap.size w4 _ := below_set83 HB5.out (b := W.heap.size + 1) (c := W.heap.size + 1 + 1) (by omega) (by omega) (.bool pv) (.bool pr) (.bool pw) (.bool px) (.bool pu) (.bool ps) (.bool pd) (.int .i64 pf) (.int .i64 0) (.int .u64 0) (.int .u64 0)
  refine bodyPost_ret (v := _) ?h1 rfl ⟨rfl, gr_below HG4.out HE, HK.out.keep _ _ _ HI4.out HE⟩
  case h1 => simp [results, Tryz.results38, go_sem, ld1, ld2, gd1, gd2, hd1, hd2, hc1, hc2]
end Go.Proofs.YteghkhdpdeiocaaGreatDoor.E
namespace Go.Proofs.YteghkhdpdeiocaaGreatDoor.E
open Go.RowKit
set_option linter.unusedVariables false
set_option maxRecDepth 100000

theorem calls_no {F : FuncId} {args : Array Value} {W : World} {R : Rr} {I : World → Prop} {r : Option Nat} (hR : R.isOk = false) (h : Calls Tryz.prog F args W fun e W' => e = .returned R.val ∧ W.grownBy W' r) :
    Calls Tryz.prog F args W fun e W' => e = .returned R.val ∧ W.grownBy W' r ∧ (R.isOk = true → I W') :=
  h.mono fun e w' ⟨h1, h2⟩ => ⟨h1, h2, fun h => by rw [hR] at h; cases h⟩

theorem walk_any (F : FuncId) (caps : Array Value) (r : Option Nat) (I : Nat → World → Prop) (R : Int → Int → Rr) (root t a : Int) (u : Bool) (h0 : 0 ≤ t) (h1 : t < 18446744073709551616) (hr0 : 0 ≤ root) (hr1 : root < 9223372036854775808) (W : World)
    (hR : Reads F caps W.heap.size r I R) (hI : I 0 W) :
    Calls Tryz.prog 38 #[askV t a u, .int .i64 root, .func (.func F) #[] caps] W fun e W' => e = .returned (walkR R root t a u).val ∧ W.grownBy W' r ∧ ((walkR R root t a u).isOk = true → I 2 W') := by
  by_cases ht : t < 262144
  · cases hn : R root (t / 8192) with
    | no c v g =>
      have e : walkR R root t a u = .no c v g := by simp [walkR, ht, hn]
      rw [e]
      exact calls_no rfl (walk_no_first F caps r I R root t a u h0 ht hr0 hr1 W hR hI c v g hn)
    | ok tb =>
      cases hv : tb.v
      · have e : walkR R root t a u = refR t a := by simp [walkR, ht, hn, hv]
        rw [e]
        exact calls_no rfl (walk_not_valid F caps r I R root t a u h0 ht hr0 hr1 W hR hI tb hn hv)
      · cases hl : leafP tb.v tb.r tb.x
        · cases hm : R tb.f (t / 256 % 32) with
          | no c v g =>
            have e : walkR R root t a u = .no c v g := by
              unfold walkR
              rw [if_pos ht, hn]
              show (if tb.v && !leafP tb.v tb.r tb.x then _ else _) = _
              rw [hl, hv]
              simp [hm]
            rw [e]
            exact calls_no rfl (walk_no_second F caps r I R root t a u h0 ht hr0 hr1 W hR hI tb hn hv hl c v g hm)
          | ok pg =>
            cases ha : allowP pg.v pg.r pg.w pg.x pg.u a u
            · have e : walkR R root t a u = refR t a := by
                unfold walkR
                rw [if_pos ht, hn]
                show (if tb.v && !leafP tb.v tb.r tb.x then _ else _) = _
                rw [hl, hv]
                simp [hm, ha]
              rw [e]
              exact calls_no rfl (walk_not_allowed F caps r I R root t a u h0 ht hr0 hr1 W hR hI tb hn hv hl pg hm ha)
            · have e : walkR R root t a u = .ok pg := by
                unfold walkR
                rw [if_pos ht, hn]
                show (if tb.v && !leafP tb.v tb.r tb.x then _ else _) = _
                rw [hl, hv]
                simp [hm, ha]
              rw [e]
              exact (walk_found F caps r I R root t a u h0 ht hr0 hr1 W hR hI tb hn hv hl pg hm ha).mono fun e w' ⟨x, y, z⟩ => ⟨x, y, fun _ => z⟩
        · have e : walkR R root t a u = refR t a := by simp [walkR, ht, hn, hl]
          rw [e]
          exact calls_no rfl (walk_leaf F caps r I R root t a u h0 ht hr0 hr1 W hR hI tb hn hv hl)
  · have e : walkR R root t a u = refR t a := by simp [walkR, ht]
    rw [e]
    exact calls_no rfl ((walk_no_split F caps root t a u h0 h1 ht W).mono fun e w' ⟨x, y⟩ => ⟨x, grown_some y _⟩)

/-- an entry read in the memory, a refusal told as the stage's own -/
def rdR [Bits] (zs : List Int) (t a f p : Int) : Rr := match readP zs f p with
  | none => refR t a
  | some e => .ok e
theorem rdR_val [Bits] (zs : List Int) (t a f p : Int) : (rdR zs t a f p).val = rdV t a (readP zs f p) := by
  unfold rdR
  cases readP zs f p <;> rfl

theorem enOf_frame [Bits] (n : Int) : 0 ≤ (enOf n).f ∧ (enOf n).f < 65536 := by
  unfold enOf
  split
  · simp only [frameP]; omega
  · simp [En.zero]
theorem readP_frame [Bits] {zs : List Int} {f p : Int} {e : En} (h : readP zs f p = some e) : 0 ≤ e.f ∧ e.f < 65536 := by
  unfold readP at h
  split at h
  · cases h; exact enOf_frame _
  · cases h
theorem rdR_frame [Bits] {zs : List Int} {t a f p : Int} {e : En} (h : rdR zs t a f p = .ok e) : 0 ≤ e.f ∧ e.f < 65536 := by
  unfold rdR at h
  cases hr : readP zs f p with
  | none => rw [hr] at h; cases h
  | some e' => rw [hr] at h; cases h; exact readP_frame hr
theorem rdR_no [Bits] {zs : List Int} {t a f p c v g : Int} (h : rdR zs t a f p = .no c v g) : c ≠ 0 := by
  unfold rdR at h
  cases hr : readP zs f p with
  | none => rw [hr] at h; cases h; exact fault_ne a
  | some e' => rw [hr] at h; cases h

/-- the closure of One -/
theorem one_reads [Bits] (t a : Int) (u : Bool) (b g c m : Nat) (zs : List Int) (W0 : World) (hS : St W0 b g zs) (hc : c < W0.heap.size) (hm : m < W0.heap.size)
    (c0 : W0.cell? ⟨c, 0, none⟩ = some (.int .u64 t)) (c1 : W0.cell? ⟨c, 1, none⟩ = some (.int .i64 a)) (c2 : W0.cell? ⟨c, 2, none⟩ = some (.bool u)) (m0 : W0.cell? ⟨m, 0, none⟩ = some (.iface 36 (.pointer (some ⟨b, 0, none⟩)))) :
    Reads 39 #[.pointer (some ⟨c, 0, none⟩), .pointer (some ⟨m, 0, none⟩)] W0.heap.size none (fun _ w => Below W0.heap.size W0 w) (rdR zs t a) := by
  refine ⟨fun _ _ => (by kernel_rfl), fun k w w' h1 h2 => h1.trans h2, fun k h => (by cases h), ?_, fun f p c v g h => rdR_no h, fun f p e h => rdR_frame h⟩
  intro k f p w hf0 hf1 hp0 hp1 hN hI
  have C := fun w h => read_any t a u f p b g zs hf0 hf1 hp0 hp1 w h
  have hS1 := hS.below hI
  obtain ⟨hd, _⟩ := bel_cell hI hc
  obtain ⟨he, _⟩ := bel_cell hI hm
  have k0 : w.cell? ⟨c, 0, none⟩ = _ := (hd 0).trans c0
  have k1 : w.cell? ⟨c, 1, none⟩ = _ := (hd 1).trans c1
  have k2 : w.cell? ⟨c, 2, none⟩ = _ := (hd 2).trans c2
  have k3 : w.cell? ⟨m, 0, none⟩ = _ := (he 0).trans m0
  have l1 : c < w.heap.size := by omega
  have l2 : m < w.heap.size := by omega
  have HS : Hid (_) := hS1
  have HI : Hid (_) := hI
  clear hS1 hd he c0 c1 c2 m0 hS hI hc hm
  rw [rdR_val]
  suffices Calls Tryz.prog 39 #[.int .i64 f, .int .i64 p, .pointer (some ⟨c, 0, none⟩), .pointer (some ⟨m, 0, none⟩)] w fun e w' => e = .returned (rdV t a (readP zs f p)) ∧ Below w.heap.size w w' from
    this.mono fun e w' ⟨x, y⟩ => ⟨x, grown_of_below y, fun _ => HI.out.trans (y.mono hN)⟩
  cases hr : readP zs f p with
  | none =>
    rw [hr] at C
    unfold rdV En.zero En.val ent trapV askV at *
    simp only at C ⊢
    generalize faultP a 12 13 15 = x at *
    go_enter Tryz.func39, Tryz.ntmps39
    go_wp2_with fail
    refine (C _ (HS.out.below (((Below.refl _ _).alloc (Nat.le_refl _) _).alloc (by simp) _))).mono ?_
    rintro e w1 ⟨rfl, hb1⟩
    have HB : Hid (Below w.heap.size w w1) := (((Below.refl _ _).alloc (Nat.le_refl _) _).alloc (by simp) _).trans (hb1.mono (by simp; omega))
    obtain ⟨n0, o0⟩ := bel_cell hb1 (b := w.heap.size) (by simp; omega)
    obtain ⟨n1, o1⟩ := bel_cell hb1 (b := w.heap.size + 1) (by simp)
    have hs1 : w.heap.size + 1 < w1.heap.size := by have := hb1.size; simp at this; omega
    clear hb1 C
    go_wp2_with fail
    refine bodyPost_ret (v := _) ?h1 rfl ⟨rfl, below_set83 HB.out (Nat.le_refl _) (by omega) _ _ _ _ _ _ _ _ _ _ _⟩
    case h1 => simp [results, Tryz.results39, go_sem, n0, n1]
  | some E =>
    rw [hr] at C
    clear hr
    obtain ⟨v, xr, xw, xx, xu, xs, xd, xf⟩ := E
    unfold rdV En.val ent trapV askV at *
    simp only at C ⊢
    go_enter Tryz.func39, Tryz.ntmps39
    go_wp2_with fail
    refine (C _ (HS.out.below (((Below.refl _ _).alloc (Nat.le_refl _) _).alloc (by simp) _))).mono ?_
    rintro e w1 ⟨rfl, hb1⟩
    have HB : Hid (Below w.heap.size w w1) := (((Below.refl _ _).alloc (Nat.le_refl _) _).alloc (by simp) _).trans (hb1.mono (by simp; omega))
    obtain ⟨n0, o0⟩ := bel_cell hb1 (b := w.heap.size) (by simp; omega)
    obtain ⟨n1, o1⟩ := bel_cell hb1 (b := w.heap.size + 1) (by simp)
    have hs1 : w.heap.size + 1 < w1.heap.size := by have := hb1.size; simp at this; omega
    clear hb1 C
    go_wp2_with fail
    refine bodyPost_ret (v := _) ?h1 rfl ⟨rfl, below_set83 HB.out (Nat.le_refl _) (by omega) _ _ _ _ _ _ _ _ _ _ _⟩
    case h1 => simp [results, Tryz.results39, go_sem, n0, n1]
end Go.Proofs.YteghkhdpdeiocaaGreatDoor.E
namespace Go.Proofs.YteghkhdpdeiocaaGreatDoor.E
open Go.RowKit
set_option linter.unusedVariables false
set_option maxRecDepth 100000

/-- P6.1: the page that One finds -/
def oneP [Bits] (zs : List Int) (root t a : Int) (u : Bool) : Option En :=
  if root < 0 then none else match walkR (rdR zs t a) root t a u with
    | .ok e => some e
    | .no _ _ _ => none
def oneV : Option En → Value
  | none => .tuple #[foundV 0 false false false false 0, .bool false]
  | some e => .tuple #[foundV e.f e.r e.w e.x e.u 2, .bool true]

theorem below_of_grown {w w' : World} (h : w.grownBy w' none) : Below w.heap.size w w' := ⟨h.os, h.tape, h.output, h.size, fun k hk => h.block k hk (by simp)⟩

theorem walkR_no {R : Int → Int → Rr} {root t a c v g : Int} {u : Bool} (hR : ∀ f p c v g, R f p = .no c v g → c ≠ 0) (h : walkR R root t a u = .no c v g) : c ≠ 0 := by
  unfold walkR at h
  split at h
  · split at h
    · rename_i hn; cases h; exact hR _ _ _ _ _ hn
    · split at h
      · split at h
        · rename_i hn; cases h; exact hR _ _ _ _ _ hn
        · split at h
          · cases h
          · cases h; exact fault_ne a
      · cases h; exact fault_ne a
  · cases h; exact fault_ne a

theorem one_walk [Bits] (t a : Int) (u : Bool) (root : Int) (b g c m : Nat) (zs : List Int) (h0 : 0 ≤ t) (h1 : t < 18446744073709551616) (hr0 : 0 ≤ root) (hr1 : root < 9223372036854775808) (W0 : World) (hS : St W0 b g zs) (hc : c < W0.heap.size) (hm : m < W0.heap.size)
    (c0 : W0.cell? ⟨c, 0, none⟩ = some (.int .u64 t)) (c1 : W0.cell? ⟨c, 1, none⟩ = some (.int .i64 a)) (c2 : W0.cell? ⟨c, 2, none⟩ = some (.bool u)) (m0 : W0.cell? ⟨m, 0, none⟩ = some (.iface 36 (.pointer (some ⟨b, 0, none⟩)))) :
    Calls Tryz.prog 38 #[.agg #[.int .u64 t, .int .i64 a, .bool u], .int .i64 root, .func (.func 39) #[] #[.pointer (some ⟨c, 0, none⟩), .pointer (some ⟨m, 0, none⟩)]] W0 fun e W' => e = .returned (walkR (rdR zs t a) root t a u).val ∧ Below W0.heap.size W0 W' :=
  (walk_any 39 #[.pointer (some ⟨c, 0, none⟩), .pointer (some ⟨m, 0, none⟩)] none (fun _ w => Below W0.heap.size W0 w) (rdR zs t a) root t a u h0 h1 hr0 hr1 W0 (one_reads t a u b g c m zs W0 hS hc hm c0 c1 c2 m0) (Below.refl _ _)).mono
    fun e w' ⟨x, y, _⟩ => ⟨x, below_of_grown y⟩

theorem below_set6 {B : Nat} {W w : World} (h : Below B W w) {b : Nat} (hb : B ≤ b) (v0 v1 v2 v3 v4 v5 : Value) :
    Below B W ((((((w.setCell ⟨b, 0, none⟩ v0).setCell ⟨b, 1, none⟩ v1).setCell ⟨b, 2, none⟩ v2).setCell ⟨b, 3, none⟩ v3).setCell ⟨b, 4, none⟩ v4).setCell ⟨b, 5, none⟩ v5) :=
  (((((h.setCell hb _).setCell hb _).setCell hb _).setCell hb _).setCell hb _).setCell hb _

theorem one_neg (t a : Int) (u : Bool) (root : Int) (b : Nat) (hr : root < 0) (W : World) :
    Calls Tryz.prog 11 #[.iface 36 (.pointer (some ⟨b, 0, none⟩)), .int .i64 root, .int .u64 t, .int .i64 a, .bool u] W fun e W' => e = .returned (oneV none) ∧ Below W.heap.size W W' := by
  unfold oneV foundV
  go_enter Tryz.func11, Tryz.ntmps11
  go_wp2_with fail
  refine bodyPost_ret (v := _) ?h1 rfl ⟨rfl, ((Below.refl _ _).alloc (Nat.le_refl _) _).alloc (by simp) _⟩
  case h1 => simp [results, Tryz.results11, go_sem]

set_option maxHeartbeats 1600000 in
theorem one_pos [Bits] (t a : Int) (u : Bool) (root : Int) (b g : Nat) (zs : List Int) (h0 : 0 ≤ t) (h1 : t < 18446744073709551616) (hr0 : 0 ≤ root) (hr1 : root < 9223372036854775808) (W : World) (hS : St W b g zs) :
    Calls Tryz.prog 11 #[.iface 36 (.pointer (some ⟨b, 0, none⟩)), .int .i64 root, .int .u64 t, .int .i64 a, .bool u] W fun e W' => e = .returned (oneV (match walkR (rdR zs t a) root t a u with | .ok e => some e | .no _ _ _ => none)) ∧ Below W.heap.size W W' := by
  have hmf : ∀ (fn : Fn) (first cap : Array Value) (w : World), (Instr.makeFunc fn first cap).run Tryz.prog w = .ok (.func fn first cap) w := fun _ _ _ _ => rfl
  have C := one_walk t a u root b g (W.heap.size + 1 + 1) W.heap.size zs h0 h1 hr0 hr1
  have HS : Hid (St W b g zs) := hS
  have hno := fun c v g (h : walkR (rdR zs t a) root t a u = .no c v g) => walkR_no (fun f p c v g h => rdR_no h) h
  clear hS
  cases hz : walkR (rdR zs t a) root t a u with
  | no c v g' =>
    have hx : ¬ c = 0 := hno _ _ _ hz
    rw [hz] at C
    clear hz hno
    unfold Rr.val En.zero En.val ent trapV oneV foundV at *
    simp only at C ⊢
    go_enter Tryz.func11, Tryz.ntmps11
    go_wp2_with fail
    refine (C _ (HS.out.below ((((Below.refl _ _).alloc (Nat.le_refl _) _).alloc (by simp) _).alloc (by simp; omega) _)) (by simp) (by simp; omega) (by simp [go_sem]) (by simp [go_sem]) (by simp [go_sem]) (by simp [go_sem])).mono ?_
    rintro e w1 ⟨rfl, hb1⟩
    have HB : Hid (Below W.heap.size W w1) := ((((Below.refl _ _).alloc (Nat.le_refl _) _).alloc (by simp) _).alloc (by simp; omega) _).trans (hb1.mono (by simp; omega))
    obtain ⟨n1, o1⟩ := bel_cell hb1 (b := W.heap.size + 1) (by simp)
    have hs1 : W.heap.size + 1 < w1.heap.size := by have := hb1.size; simp at this; omega
    have hs0 : W.heap.size < w1.heap.size := by omega
    clear hb1 C
    go_wp2_with fail
    refine bodyPost_ret (v := _) ?h1 rfl ⟨rfl, ((below_set6 HB.out (by omega) _ _ _ _ _ _).alloc (by simp; omega) _).alloc (by simp; omega) _⟩
    case h1 => simp [results, Tryz.results11, go_sem, n1, hs0, hs1]
  | ok E =>
    rw [hz] at C
    clear hz hno
    have CF := found_any E 2
    obtain ⟨xv, xr, xw, xx, xu, xs, xd, xf⟩ := E
    unfold Rr.val En.val ent trapV oneV foundV at *
    simp only at C CF ⊢
    go_enter Tryz.func11, Tryz.ntmps11
    go_wp2_with fail
    refine (C _ (HS.out.below ((((Below.refl _ _).alloc (Nat.le_refl _) _).alloc (by simp) _).alloc (by simp; omega) _)) (by simp) (by simp; omega) (by simp [go_sem]) (by simp [go_sem]) (by simp [go_sem]) (by simp [go_sem])).mono ?_
    rintro e w1 ⟨rfl, hb1⟩
    have HB : Hid (Below W.heap.size W w1) := ((((Below.refl _ _).alloc (Nat.le_refl _) _).alloc (by simp) _).alloc (by simp; omega) _).trans (hb1.mono (by simp; omega))
    obtain ⟨n1, o1⟩ := bel_cell hb1 (b := W.heap.size + 1) (by simp)
    have hs1 : W.heap.size + 1 < w1.heap.size := by have := hb1.size; simp at this; omega
    have hs0 : W.heap.size < w1.heap.size := by omega
    clear hb1 C
    go_wp2_with fail
    refine (CF _).mono ?_
    rintro e w2 ⟨rfl, hb2⟩
    have HB2 : Hid (Below W.heap.size W w2) := ((HB.out.alloc (by omega) _).alloc (by simp; omega) _).trans (hb2.mono (by simp; omega))
    have HC2 : Below w1.heap.size w1 w2 := (((Below.refl _ _).alloc (Nat.le_refl _) _).alloc (by simp) _).trans (hb2.mono (by simp; omega))
    obtain ⟨k1, l1⟩ := bel_cell HC2 hs1
    have ht1 : W.heap.size + 1 < w2.heap.size := by have := hb2.size; simp at this; omega
    clear hb2 HC2 CF HB
    go_wp2_with fail
    refine bodyPost_ret (v := _) ?h1 rfl ⟨rfl, below_set6 HB2.out (by omega) _ _ _ _ _ _⟩
    case h1 => simp [results, Tryz.results11, go_sem, k1, n1]

theorem one_any [Bits] (t a : Int) (u : Bool) (root : Int) (b g : Nat) (zs : List Int) (h0 : 0 ≤ t) (h1 : t < 18446744073709551616) (hr1 : root < 9223372036854775808) (W : World) (hS : St W b g zs) :
    Calls Tryz.prog 11 #[.iface 36 (.pointer (some ⟨b, 0, none⟩)), .int .i64 root, .int .u64 t, .int .i64 a, .bool u] W fun e W' => e = .returned (oneV (oneP zs root t a u)) ∧ Below W.heap.size W W' := by
  unfold oneP
  by_cases hr : root < 0
  · rw [if_pos hr]; exact one_neg t a u root b hr W
  · rw [if_neg hr]; exact one_pos t a u root b g zs h0 h1 (by omega) hr1 W hS

theorem below_set63 {B : Nat} {W w : World} (h : Below B W w) {b c : Nat} (hb : B ≤ b) (hc : B ≤ c) (v0 v1 v2 v3 v4 v5 u0 u1 u2 : Value) :
    Below B W (((((((((w.setCell ⟨b, 0, none⟩ v0).setCell ⟨b, 1, none⟩ v1).setCell ⟨b, 2, none⟩ v2).setCell ⟨b, 3, none⟩ v3).setCell ⟨b, 4, none⟩ v4).setCell ⟨b, 5, none⟩ v5).setCell ⟨c, 0, none⟩ u0).setCell ⟨c, 1, none⟩ u1).setCell ⟨c, 2, none⟩ u2) :=
  below_set3 (below_set6 h hb _ _ _ _ _ _) hc _ _ _

end Go.Proofs.YteghkhdpdeiocaaGreatDoor.E
