/-
  The calls as they came in; both disks and memories between the rounds; what a round comes to.
-/
import Derived.Test.YtkadpmmielegfaaPa
namespace Go.Proofs.Ytkadpmmielegfaa
open Go.RowKit Go.Maps
set_option linter.unusedVariables false
set_option maxRecDepth 20000

/-- the calls as they came in: cells of a slice of structs -/
def ActsIn (w : World) (ad : Option Addr) (len : Nat) : Prop :=
  len = 0 ∨ ∃ B off, ad = some ⟨B, off, none⟩ ∧ B < w.heap.size ∧ ∀ i, i < len → ∃ (x : Ac) (ys : List Int),
    (∀ q u, x.cs[q]? = some u → w.cell? ⟨B, off + i * 7 + q, none⟩ = some u) ∧ (Lit.int .i64 x.K).wf = true ∧ SL w x.a x.len ys ∧ (x.a = none → x.len = 0 ∧ x.cap = 0) ∧ x.len ≤ 140737488351232 ∧ x.len ≤ x.cap
/-- both between the rounds -/
structure PZ (N0 : Nat) (w y : World) (D m R rb B b g c h : Nat) (S : S3) : Prop where
  dk : ∃ v, DK N0 y D m B v S.ps S.zs
  rd : ∃ u, RD N0 y R rb B u S.ps S.zs
  mm : MM y b g S.ms
  rm : RM y c h S.ms
  bel : Below w.heap.size w y
  sz : N0 ≤ y.heap.size
  ml : S.ms.length = 1024
theorem PZ.act {N0 : Nat} {w y : World} {D m R rb B b g c h : Nat} {S : S3} (hz : PZ N0 w y D m R rb B b g c h S) (x : Ac) : PX N0 w (y.alloc (.cells x.cs 41)) D m R rb B b g c h y.heap.size x S S := by
  obtain ⟨⟨v, dk⟩, ⟨u, rd⟩, mm, rm, bel, sz, ml⟩ := hz
  have hb : Below y.heap.size y (y.alloc (.cells x.cs 41)) := (Below.refl _ _).alloc (Nat.le_refl _) _
  exact ⟨⟨v, dk.below hb⟩, ⟨u, rd.below hb⟩, mm.below hb, rm.below hb, bel.trans (hb.mono bel.size), by simp; omega, heap_alloc_at _ _, ml, ml⟩
theorem PX.z {N0 : Nat} {w y : World} {D m R rb B b g c h A : Nat} {x : Ac} {S : S3} (hx : PX N0 w y D m R rb B b g c h A x S S) : PZ N0 w y D m R rb B b g c h S := ⟨hx.dk, hx.rd, hx.mm, hx.rm, hx.bel, hx.sz, hx.ml⟩
theorem PX.drew {N0 : Nat} {w y : World} {D m R rb B b g c h A : Nat} {x : Ac} {P Q : S3} (hx : PX N0 w y D m R rb B b g c h A x P Q) : PX N0 w y.drew D m R rb B b g c h A x P Q := hx.below (Below.refl _ _).drew
/-- the cells of a call's request -/
def RCs (y : World) (A : Nat) (r : Rq) : Prop := y.cell? ⟨A, 1, none⟩ = some (.int .i64 r.i) ∧ y.cell? ⟨A, 2, none⟩ = some (.bool r.w) ∧ y.cell? ⟨A, 3, none⟩ = some (.int .i64 r.b) ∧ y.cell? ⟨A, 4, none⟩ = some (.int .i64 r.f)
theorem PX.rcs {N0 : Nat} {w y : World} {D m R rb B b g c h A : Nat} {x : Ac} {P Q : S3} (hx : PX N0 w y D m R rb B b g c h A x P Q) : RCs y A x.r := by
  obtain ⟨_, h1, h2, h3, h4, _⟩ := hx.cells
  exact ⟨h1, h2, h3, h4⟩
/-- a row of the call's own, as a slice and as a row to be written -/
theorem own_fl {w1 : World} {base n : Nat} {v1 : Value} {ys : List Int} (hown : w1.ownsRow base 5 1 v1 (0 + n) (([] ++ ys).map (Value.int .u8))) (hb : Bytes ys) (hy : ys.length = n) :
    ∃ a1 c1, v1 = .slice a1 n c1 ∧ SL w1 a1 n ys ∧ n ≤ c1 ∧ c1 ≤ maxLen ∧ (n = 0 ∨ ∃ X, a1 = some ⟨X, 0, none⟩ ∧ base ≤ X ∧ FL w1 X n) := by
  rw [Nat.zero_add, List.nil_append] at hown
  rcases hown.2 with ⟨rfl, h0⟩ | ⟨g, cap, cur, rfl, hbg, hg, hnc, hcm, hcs, htake⟩
  · subst h0
    obtain rfl : ys = [] := List.eq_nil_of_length_eq_zero hy
    exact ⟨none, 0, rfl, SL.nil _ _, Nat.le_refl _, by decide, .inl rfl⟩
  · refine ⟨_, cap, rfl, SL.own hown hb, hnc, hcm, .inr ⟨g, rfl, hbg, cur, hg, fun i hi => ?_⟩⟩
    have e : (cur.toList.take (n * 1))[i]? = (ys.map (Value.int .u8))[i]? := by rw [htake]
    rw [List.getElem?_take_of_lt (by omega)] at e
    exact ⟨ys[i], by rw [← Array.getElem?_toList, e]; simp [List.getElem?_eq_getElem (show i < ys.length by omega)]⟩
end Go.Proofs.Ytkadpmmielegfaa
