/-
  What Look, Root, One and Owner tell of two guests' tables behind the acts; a row of numbers.
-/
import Derived.Test.YteghkhdpdeiocaaGreatDoorDd
import Derived.Test.YteghkhdpdeiocaaGreatDoorSw
import Derived.Test.YteghkhdpdeiocaaGreatDoorGX
namespace Go.Proofs.YteghkhdpdeiocaaGreatDoor
open Go.RowKit Go.Maps
set_option linter.unusedVariables false
set_option maxRecDepth 100000
/-- one guest's, wherever it is looked at -/
structure GD (yK : World) (B : Nat → Prop) (b g D gu T L : Nat) (O : Nat → Prop) (zi : Zs) : Prop where
  sx : ∀ W, Below yK.heap.size yK W → SX B W b g D T L gu zi
  iv : Iv 40 O zi
  rt : 0 ≤ zi.x.rt
  g16 : gu ≤ 16
  n : zi.S.n = 40
  pg : ∀ p a, p < 1024 → zi.x.pg p = some a → a.f < 40 ∧ zi.S.cl a.f = gu ∧ 2 ≤ zi.S.ti a.f
section
variable {w0 w w' : World} {N1 n i : Nat} {B : Nat → Prop} {Q b g D T L gu T' L' gu' c h R r U U' A : Nat} {q k : Array Value} {z : Zs} {y : Tp} {O : Nat → Prop} {zi : Zs} {yK : World}
theorem Wn.pages {S : Fs} {x y : Tp} {gu gu' : Nat} (wn : Wn gu gu' S x y) (hn : S.n = 40) (p : Nat) (a : Pg) (hp : p < 1024) (h : x.pg p = some a) : a.f < 40 ∧ S.cl a.f = gu ∧ 2 ≤ S.ti a.f := by
  obtain ⟨k1, k2⟩ := wn.p p a hp h
  have k3 := wn.o a.f k1 k2
  have k4 := np_pos hp h
  exact ⟨by omega, k2, by omega⟩
theorem LP.guest (l : LP w0 w N1 40 B Q b g D T L T' L' c h R r U U' q z y) (hi : i < 2) : ∃ (O : Nat → Prop) (zi : Zs) (Ti Li : Nat), q[2 + i]? = some (.pointer (some ⟨Ti, 0, none⟩)) ∧ GD w B b g D (1 + i) Ti Li O zi ∧ zi.S = z.S ∧ zi.m = z.m := by
  obtain rfl | rfl : i = 0 ∨ i = 1 := by omega
  · exact ⟨_, z, T, L, l.q0.qT, ⟨fun W hb => (l.pf.below hb).s, l.w2.iv, l.rt.1, by decide, l.sn.1, l.w2.wn.pages l.sn.1⟩, rfl, rfl⟩
  · exact ⟨_, ⟨z.m, z.S, y⟩, T', L', l.q1.qT, ⟨fun W hb => (l.pf.below hb).s', l.w2.iv', l.rt.2, by decide, l.sn.1, l.w2.wn.flip.pages l.sn.1⟩, rfl, rfl⟩
/-- what is told of a page -/
structure Tl (zi : Zs) (P : Nat) (fr : Int) (ra rb rc ok : Bool) : Prop where
  v : lkV zi P = .tuple #[.int .i64 fr, .agg #[.bool ra, .bool rb, .bool rc], .bool ok]
  no : ok = false → zi.x.pg P = none
  yes : ok = true → ∃ a, zi.x.pg P = some a ∧ fr = a.f ∧ ra = a.r ∧ rb = a.w ∧ rc = a.x
theorem GD.told (G : GD yK B b g D gu T L O zi) {P : Nat} (hP : P < 1024) : ∃ fr ra rb rc ok, Tl zi P fr ra rb rc ok := by
  have hr : ¬ zi.x.rt < 0 := by have := G.rt; omega
  cases hx : zi.x.pg P with
  | none =>
    refine ⟨0, false, false, false, false, ?_, fun _ => hx, fun e => by cases e⟩
    unfold lkV
    rw [if_neg (by unfold unQ; rw [if_neg hr, if_neg (not_not_intro ⟨by omega, by omega⟩), Int.toNat_natCast, hx]; simp)]
  | some a =>
    refine ⟨a.f, a.r, a.w, a.x, true, ?_, (fun e => by cases e), fun _ => ⟨a, hx, rfl, rfl, rfl, rfl⟩⟩
    unfold lkV
    rw [if_pos (by unfold unQ; rw [if_neg hr, if_neg (not_not_intro ⟨by omega, by omega⟩), Int.toNat_natCast, hx]; rfl), Int.toNat_natCast, hx]
theorem GD.look (G : GD yK B b g D gu T L O zi) {P : Nat} {fr : Int} {ra rb rc ok : Bool} (t : Tl zi P fr ra rb rc ok) {W : World} (hW : Below yK.heap.size yK W) : Calls Tryz.prog 10 #[.pointer (some ⟨T, 0, none⟩), .int .i64 P] W fun e w1 => e = .returned (.tuple #[.int .i64 fr, .agg #[.bool ra, .bool rb, .bool rc], .bool ok]) ∧ Below W.heap.size W w1 := by
  have := look_sx (G.sx W hW) G.iv (P : Int)
  rwa [t.v] at this
theorem GD.root (G : GD yK B b g D gu T L O zi) {W : World} (hW : Below yK.heap.size yK W) : Calls Tryz.prog 12 #[.pointer (some ⟨T, 0, none⟩)] W fun e w' => e = .returned (.int .i64 zi.x.rt) ∧ w' = W := root_sx (G.sx W hW) (by have := G.rt; omega)
/-- may it, as the law asks -/
def may (j : Nat) (ra rb rc : Bool) : Bool := if j = 0 then rc else if j = 1 then ra else rb
theorem GD.one (G : GD yK B b g D gu T L O zi) {P : Nat} (hP : P < 1024) {fr : Int} {ra rb rc ok : Bool} (t : Tl zi P fr ra rb rc ok) {j : Nat} (hj : j < 3) : ∃ (f1 : Int) (d1 d2 d3 d4 : Bool) (l1 : Int), (∀ W, Below yK.heap.size yK W → Calls Tryz.prog 11 #[.iface 36 (.pointer (some ⟨b, 0, none⟩)), .int .i64 zi.x.rt, .int .u64 ((256 * P : Nat) : Int), .int .i64 j, .bool true] W fun e W' => e = .returned (.tuple #[.agg #[.int .i64 f1, .bool d1, .bool d2, .bool d3, .bool d4, .int .i64 l1], .bool (ok && may j ra rb rc)]) ∧ Below W.heap.size W W') ∧ ((ok && may j ra rb rc) = true → f1 = fr) := by
  have hrt := G.iv.rt
  have key : ∀ W, Below yK.heap.size yK W → _ := fun W hW => E.one_any ((256 * P : Nat) : Int) j true zi.x.rt b g zi.m (by omega) (by omega) (by have := G.iv.n2; omega) W ⟨(G.sx W hW).sz, (G.sx W hW).bt, (G.sx W hW).mm⟩
  have hone := one_page G.iv G.rt hP (j : Int)
  cases ok with
  | false =>
    rw [t.no rfl] at hone
    simp only at hone
    refine ⟨0, false, false, false, false, 0, fun W hW => ?_, fun e => by cases e⟩
    have := key W hW
    rw [hone] at this
    exact this
  | true =>
    obtain ⟨a, hx, rfl, rfl, rfl, rfl⟩ := t.yes rfl
    have hm := (G.iv.pf P a hP hx).2
    rw [hx] at hone
    simp only at hone
    have k : E.allowP true a.r a.w a.x true j true = may j a.r a.w a.x := by
      have kk : ∀ r w x : Bool, mayR r w x = true → E.allowP true r w x true j true = may j r w x := by
        obtain rfl | rfl | rfl : j = 0 ∨ j = 1 ∨ j = 2 := by omega
        all_goals
          intro r w x
          cases r <;> cases w <;> cases x <;> decide
      exact kk _ _ _ hm
    rw [k] at hone
    cases hmm : may j a.r a.w a.x with
    | false =>
      rw [hmm] at hone
      refine ⟨0, false, false, false, false, 0, fun W hW => ?_, fun e => by cases e⟩
      have := key W hW
      rw [hone] at this
      exact this
    | true =>
      rw [hmm] at hone
      refine ⟨a.f, a.r, a.w, a.x, true, 2, fun W hW => ?_, fun _ => rfl⟩
      have := key W hW
      rw [hone] at this
      exact this
theorem GD.owner (G : GD yK B b g D gu T L O zi) {P : Nat} (hP : P < 1024) {a : Pg} (hx : zi.x.pg P = some a) {W : World} (hW : Below yK.heap.size yK W) : Calls Tryz.prog 13 #[.pointer (some ⟨D, 0, none⟩), .int .i64 a.f] W fun e w' => e = .returned (.tuple #[.int .i64 gu, .int .i64 (zi.S.ti a.f), .bool true]) ∧ Below W.heap.size W w' := by
  obtain ⟨k1, k2, k3⟩ := G.pg P a hP hx
  have hg := G.g16
  have o := owner_fx (G.sx W hW).fx (a.f : Int)
  have ek : owK zi.S (a.f : Int) = true := by
    unfold owK
    rw [decide_eq_true ⟨by omega, by rw [G.n]; omega⟩, Int.toNat_natCast, decide_eq_true (show zi.S.cl a.f ≠ 17 by omega)]
    rfl
  have eo : owO zi.S (a.f : Int) = gu := by unfold owO; rw [if_pos ek, Int.toNat_natCast, k2]
  have et : owT zi.S (a.f : Int) = zi.S.ti a.f := by unfold owT; rw [if_pos ek, Int.toNat_natCast]
  rwa [ek, eo, et] at o
end
/-- a row of forty numbers -/
def WR (w : World) (K : Nat) (R : Nat → Int) : Prop := ∃ cs : Array Value, w.heap[K]? = some (.cells cs 3 (0, 0)) ∧ cs.size = 40 ∧ ∀ f, f < 40 → cs[f]? = some (.int .i64 (R f))
section
variable {w w' : World} {K : Nat} {R : Nat → Int}
theorem WR.lt (h : WR w K R) : K < w.heap.size := by
  obtain ⟨cs, h1, _⟩ := h
  exact lt_of_heap h1
theorem WR.below (h : WR w K R) (hb : Below w.heap.size w w') : WR w' K R := by
  have hl := h.lt
  obtain ⟨cs, h1, h2⟩ := h
  exact ⟨cs, (hb.block _ hl).trans h1, h2⟩
theorem WR.at (h : WR w K R) {f : Nat} (hf : f < 40) : w.cell? ⟨K, f, none⟩ = some (.int .i64 (R f)) ∧ w.frozen? ⟨K, f, none⟩ = false := by
  obtain ⟨cs, h1, _, h3⟩ := h
  exact ⟨(cell_at h1 f).trans (h3 f hf), froz_at h1 f⟩
theorem WR.set (h : WR w K R) {f : Nat} (hf : f < 40) (v : Int) : WR (w.setCell ⟨K, f, none⟩ (.int .i64 v)) K (upd R f v) ∧ Trn (fun k => k = K) w (w.setCell ⟨K, f, none⟩ (.int .i64 v)) := by
  obtain ⟨cs, h1, h2, h3⟩ := h
  refine ⟨⟨cs.setIfInBounds f (.int .i64 v), ?_, by simpa using h2, fun j hj => ?_⟩, trn_setCell (fun k => k = K) h1 rfl _ _⟩
  · rw [setCell_eq_setRow w K f cs 3 (0, 0) _ h1]
    exact setRow_heap w K cs _ 3 _ h1
  · rw [Array.getElem?_setIfInBounds]
    by_cases e : f = j
    · subst e
      rw [if_pos rfl, if_pos (by omega), upd_self]
    · rw [if_neg e, upd_other _ _ _ (fun e' => e e'.symm)]
      exact h3 j hj
theorem WR.new (w : World) : WR (w.alloc (.cells (Array.replicate 40 (.int .i64 0)) 3)) w.heap.size (fun _ => 0) :=
  ⟨_, heap_alloc_at _ _, by simp, fun f hf => by simp [hf]⟩
end
end Go.Proofs.YteghkhdpdeiocaaGreatDoor
