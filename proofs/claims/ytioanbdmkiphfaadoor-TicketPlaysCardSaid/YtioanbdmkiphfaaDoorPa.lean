/-
  Both locks in one world: the program's and the document's.
-/
import Derived.Test.YtioanbdmkiphfaaDoorRm
import Derived.Test.YtioanbdmkiphfaaDoorRn
namespace Go.Proofs.YtioanbdmkiphfaaDoor
open Go.RowKit
set_option linter.unusedVariables false
set_option maxRecDepth 20000

/-- the blocks of both -/
structure Bk where
  k : Nat
  b : Nat
  g : Nat
  q : Nat
  bo : Nat
  go : Nat
  s : Nat
  u : Nat
/-- a lock's bytes, states and tickets -/
structure Ls where
  zs : List Int
  S : Nat → Int
  T : Nat → Int
/-- what the calls of both may turn -/
def NJ (J : Bk) (x : Nat) : Prop := x = J.k ∨ x = J.g ∨ x = J.s ∨ x = J.u ∨ x = J.go
structure PX (w0 w : World) (J : Bk) (t : Int) (n : Nat) (P Q : Ls) : Prop where
  lx : LX w J.k J.b J.g P.zs t n P.S P.T
  rk : RK w J.q J.bo J.go J.s J.u Q.zs t n Q.S Q.T
  gg : J.g ≠ J.go
  bel : Below w0.heap.size w0 w
  new : ∀ x, NJ J x → w0.heap.size ≤ x
  two : 1 < w0.heap.size
section
variable {w0 w w' : World} {J : Bk} {t : Int} {n : Nat} {P Q : Ls}
theorem PX.below (h : PX w0 w J t n P Q) (hb : Below w.heap.size w w') : PX w0 w' J t n P Q :=
  ⟨h.lx.below hb, h.rk.below hb, h.gg, h.bel.trans (hb.mono h.bel.size), h.new, h.two⟩
theorem PX.tbel (h : PX w0 w J t n P Q) (ht : Trn (NJ J) w w') : Below w0.heap.size w0 w' := h.bel.trans (ht.below h.new h.bel.size)
theorem own_nj {x : Nat} (h : Own J.k J.g x) : NJ J x := by rcases h with h | h; exact .inl h; exact .inr (.inl h)
theorem rown_nj {x : Nat} (h : ROwn J.s J.u J.go x) : NJ J x := by rcases h with h | h | h; exact .inr (.inr (.inl h)); exact .inr (.inr (.inr (.inl h))); exact .inr (.inr (.inr (.inr h)))
/-- the program's lock has turned -/
theorem PX.left {P' : Ls} (h : PX w0 w J t n P Q) (h' : LX w' J.k J.b J.g P'.zs t n P'.S P'.T) (ht : Trn (Own J.k J.g) w w') : PX w0 w' J t n P' Q ∧ Trn (NJ J) w w' := by
  have tn : Trn (NJ J) w w' := ht.mono fun x _ e => own_nj e
  obtain ⟨_, e⟩ := h.lx.lk.ob
  obtain ⟨_, e1, _⟩ := h.rk.rs
  obtain ⟨_, e2, _⟩ := h.rk.rt
  have gr := h.lx.mm.row
  refine ⟨⟨h', h.rk.other ht ⟨?_, ?_, ?_, ?_, ?_⟩, h.gg, h.tbel tn, h.new, h.two⟩, tn⟩
  · rintro (x | x)
    · exact ne_typ h.rk.ob e (by decide) x
    · exact ne_typ h.rk.ob gr (by decide) x
  · rintro (x | x)
    · exact ne_typ h.rk.rm.cell e (by decide) x
    · exact ne_typ h.rk.rm.cell gr (by decide) x
  · rintro (x | x)
    · exact ne_typ h.rk.rm.row e (by decide) x
    · exact h.gg x.symm
  · rintro (x | x)
    · exact ne_typ e1 e (by decide) x
    · exact ne_typ e1 gr (by decide) x
  · rintro (x | x)
    · exact ne_typ e2 e (by decide) x
    · exact ne_typ e2 gr (by decide) x
/-- the document's has -/
theorem PX.right {Q' : Ls} (h : PX w0 w J t n P Q) (h' : RK w' J.q J.bo J.go J.s J.u Q'.zs t n Q'.S Q'.T) (ht : Trn (ROwn J.s J.u J.go) w w') : PX w0 w' J t n P Q' ∧ Trn (NJ J) w w' := by
  have tn : Trn (NJ J) w w' := ht.mono fun x _ e => rown_nj e
  obtain ⟨_, e⟩ := h.lx.lk.ob
  obtain ⟨_, e1, _⟩ := h.rk.rs
  obtain ⟨_, e2, _⟩ := h.rk.rt
  have gr := h.lx.mm.row
  have gc := h.lx.mm.cell
  refine ⟨⟨h.lx.other ht fun x hx => ⟨by have := h.new x (rown_nj hx); have := h.two; omega, ?_, ?_, ?_⟩, h', h.gg, h.tbel tn, h.new, h.two⟩, tn⟩
  · rcases hx with rfl | rfl | rfl
    · exact ne_typ e1 e (by decide)
    · exact ne_typ e2 e (by decide)
    · exact ne_typ h.rk.rm.row e (by decide)
  · rcases hx with rfl | rfl | rfl
    · exact ne_typ e1 gc (by decide)
    · exact ne_typ e2 gc (by decide)
    · exact ne_typ h.rk.rm.row gc (by decide)
  · rcases hx with rfl | rfl | rfl
    · exact ne_typ e1 gr (by decide)
    · exact ne_typ e2 gr (by decide)
    · exact fun x => h.gg x.symm
/-- a block of another kind is none of both -/
theorem PX.apart (h : PX w0 w J t n P Q) {A : Nat} {cs : Array Value} (hA : w.heap[A]? = some (.cells cs 39 (0, 0))) : ¬ NJ J A := by
  obtain ⟨_, e⟩ := h.lx.lk.ob
  obtain ⟨_, e1, _⟩ := h.rk.rs
  obtain ⟨_, e2, _⟩ := h.rk.rt
  rintro (x | x | x | x | x)
  · exact ne_typ hA e (by decide) x
  · exact ne_typ hA h.lx.mm.row (by decide) x
  · exact ne_typ hA e1 (by decide) x
  · exact ne_typ hA e2 (by decide) x
  · exact ne_typ hA h.rk.rm.row (by decide) x
end
/-- an act -/
structure Ac where
  kd : Int
  co : Int
  v : Int
/-- both, with an act in the block A -/
structure PY (w0 w : World) (J : Bk) (t : Int) (n : Nat) (A : Nat) (x : Ac) (P Q : Ls) : Prop where
  px : PX w0 w J t n P Q
  ac : w.heap[A]? = some (.cells #[.int .i64 x.kd, .int .i64 x.co, .int .u64 x.v] 39 (0, 0))
def Ls.beg (P : Ls) (n : Nat) (c x y : Int) : Ls := ⟨P.zs, begS n P.S c x y, P.T⟩
def Ls.stp (P : Ls) (t : Int) (n : Nat) (c : Int) : Ls := if hasC n c then ⟨stpZ t P.zs (P.S c.toNat), upd P.S c.toNat (stpS t P.zs (P.S c.toNat) (P.T c.toNat)), upd P.T c.toNat (stpT t P.zs (P.S c.toNat) (P.T c.toNat))⟩ else P
def Ls.sto (P : Ls) (t v : Int) : Ls := ⟨storeV P.zs t 8 v, P.S, P.T⟩
/-- what Step tells -/
def stV (P : Ls) (t : Int) (n : Nat) (c : Int) : Int := if hasC n c then stpS t P.zs (P.S c.toNat) (P.T c.toNat) else 0
def stE (n : Nat) (c : Int) : Int := if hasC n c then 0 else 2
section
variable {w0 w w' : World} {J : Bk} {t : Int} {n A : Nat} {x : Ac} {P Q : Ls}
theorem PY.cells (h : PY w0 w J t n A x P Q) : w.cell? ⟨A, 0, none⟩ = some (.int .i64 x.kd) ∧ w.cell? ⟨A, 1, none⟩ = some (.int .i64 x.co) ∧ w.cell? ⟨A, 2, none⟩ = some (.int .u64 x.v) ∧ A < w.heap.size :=
  ⟨by rw [cell_at h.ac]; rfl, by rw [cell_at h.ac]; rfl, by rw [cell_at h.ac]; rfl, lt_of_heap h.ac⟩
theorem PY.to {P' Q' : Ls} (h : PY w0 w J t n A x P Q) (h' : PX w0 w' J t n P' Q' ∧ Trn (NJ J) w w') : PY w0 w' J t n A x P' Q' := ⟨h'.1, (h'.2.block A (lt_of_heap h.ac) (h.px.apart h.ac)).trans h.ac⟩
theorem PY.below (h : PY w0 w J t n A x P Q) (hb : Below w.heap.size w w') : PY w0 w' J t n A x P Q := ⟨h.px.below hb, (hb.block A (lt_of_heap h.ac)).trans h.ac⟩
theorem PY.take (h : PY w0 w J t n A x P Q) (c : Int) : Calls Tryd.prog 13 #[.pointer (some ⟨J.k, 0, none⟩), .int .i64 c] w fun e w' => e = .returned (.int .i64 (begE n P.S c 0)) ∧ PY w0 w' J t n A x (P.beg n c 0 1) Q := by
  refine (take_lx J.k J.b J.g P.zs t n P.S P.T c w h.px.lx).mono ?_
  rintro e w' ⟨rfl, h1, h2⟩
  exact ⟨rfl, h.to (h.px.left (P' := P.beg n c 0 1) h1 h2)⟩
theorem PY.give (h : PY w0 w J t n A x P Q) (c : Int) : Calls Tryd.prog 15 #[.pointer (some ⟨J.k, 0, none⟩), .int .i64 c] w fun e w' => e = .returned (.int .i64 (begE n P.S c 3)) ∧ PY w0 w' J t n A x (P.beg n c 3 4) Q := by
  refine (give_lx J.k J.b J.g P.zs t n P.S P.T c w h.px.lx).mono ?_
  rintro e w' ⟨rfl, h1, h2⟩
  exact ⟨rfl, h.to (h.px.left (P' := P.beg n c 3 4) h1 h2)⟩
theorem PY.rset (h : PY w0 w J t n A x P Q) (c y z : Int) : Calls Tryd.prog 14 #[.pointer (some ⟨J.q, 0, none⟩), .int .i64 c, .int .i64 y, .int .i64 z] w fun e w' => e = .returned (.int .i64 (begE n Q.S c y)) ∧ PY w0 w' J t n A x P (Q.beg n c y z) := by
  refine (rset_rk J.q J.bo J.go J.s J.u Q.zs t n Q.S Q.T c y z w h.px.rk).mono ?_
  rintro e w' ⟨rfl, h1, h2⟩
  exact ⟨rfl, h.to (h.px.right (Q' := Q.beg n c y z) h1 h2)⟩
theorem PY.step (h : PY w0 w J t n A x P Q) (c : Int) : Calls Tryd.prog 16 #[.pointer (some ⟨J.k, 0, none⟩), .int .i64 c] w fun e w' => e = .returned (.tuple #[.int .i64 (stV P t n c), .int .i64 (stE n c)]) ∧ PY w0 w' J t n A x (P.stp t n c) Q := by
  unfold stV stE Ls.stp
  cases hc : hasC n c
  · refine (Step_no J.k J.b J.g P.zs t n P.S P.T c w h.px.lx hc).mono ?_
    rintro e w' ⟨rfl, rfl⟩
    exact ⟨rfl, h⟩
  · obtain ⟨d, rfl, hd⟩ := hasC_yes hc
    refine (Step_yes J.k J.b J.g P.zs t n P.S P.T d w h.px.lx hd).mono ?_
    rintro e w' ⟨rfl, h1, h2⟩
    simp only [if_true, Int.toNat_natCast]
    exact ⟨trivial, h.to (h.px.left (P' := ⟨_, _, _⟩) h1 h2)⟩
theorem PY.rstep (h : PY w0 w J t n A x P Q) (hs : ∀ c, 0 ≤ Q.S c ∧ Q.S c ≤ 4) (c : Int) : Calls Tryd.prog 17 #[.pointer (some ⟨J.q, 0, none⟩), .int .i64 c] w fun e w' => e = .returned (.tuple #[.int .i64 (stV Q t n c), .int .i64 (stE n c)]) ∧ PY w0 w' J t n A x P (Q.stp t n c) := by
  unfold stV stE Ls.stp
  cases hc : hasC n c
  · refine (rstep_no J.q J.bo J.go J.s J.u Q.zs t n Q.S Q.T c w h.px.rk hc).mono ?_
    rintro e w' ⟨rfl, rfl⟩
    exact ⟨rfl, h⟩
  · obtain ⟨d, rfl, hd⟩ := hasC_yes hc
    refine (rstep_rk J.q J.bo J.go J.s J.u Q.zs t n Q.S Q.T d w h.px.rk hd (hs d)).mono ?_
    rintro e w' ⟨rfl, h1, h2⟩
    simp only [if_true, Int.toNat_natCast]
    exact ⟨trivial, h.to (h.px.right (Q' := ⟨_, _, _⟩) h1 h2)⟩
theorem PY.store (h : PY w0 w J t n A x P Q) (t' v : Int) (ht : t' = t ∨ t' = t + 8) (hv : U v) : Calls Tryd.prog 18 #[.pointer (some ⟨J.b, 0, none⟩), .int .u64 t', .int .i64 8, .int .u64 v] w fun e w' => e = .returned (.int .i64 0) ∧ PY w0 w' J t n A x (P.sto t' v) Q := by
  have hl := h.px.lx.small
  have t0 := h.px.lx.t0
  have t8 := h.px.lx.t8
  have t16 := h.px.lx.t16
  have C := mstore_mm J.b J.g P.zs t' 8 v w h.px.lx.tb.sz h.px.lx.mm (by omega) (by omega) (by decide) hv.1 hv.2
  rw [num_ok P.zs.length t' (by omega) (by omega)] at C
  refine C.mono ?_
  rintro e w' ⟨rfl, hm, hg⟩
  exact ⟨rfl, h.to (h.px.left (P' := P.sto t' v) (h.px.lx.mem hm (storeV_len _ _ _ _ (by omega)) hg) (.of_grown hg fun x hx => .inr (by cases hx; rfl)))⟩
theorem PY.rstore (h : PY w0 w J t n A x P Q) (t' v : Int) (ht : t' = t ∨ t' = t + 8) (hv : U v) : Calls Tryd.prog 19 #[.pointer (some ⟨J.bo, 0, none⟩), .int .u64 t', .int .i64 8, .int .u64 v] w fun e w' => e = .returned (.int .i64 0) ∧ PY w0 w' J t n A x P (Q.sto t' v) := by
  have hl := h.px.rk.rm.len
  have t0 := h.px.rk.t0
  have t8 := h.px.rk.t8
  have t16 := h.px.rk.t16
  have C := rmstore_any J.bo J.go Q.zs t' 8 v w h.px.rk.rm (by omega) (by omega) (by decide) hv.1 hv.2
  rw [num_ok Q.zs.length t' (by omega) (by omega)] at C
  refine C.mono ?_
  rintro e w' ⟨rfl, hm, hg⟩
  obtain ⟨h1, h2⟩ := h.px.rk.mem hm (storeV_len _ _ _ _ (by omega)) hg
  exact ⟨rfl, h.to (h.px.right (Q' := Q.sto t' v) h1 h2)⟩
/-- what State tells -/
def saV (P : Ls) (n : Nat) (c : Int) : Int := if hasC n c then P.S c.toNat else 0
def saT (P : Ls) (n : Nat) (c : Int) : Int := if hasC n c then P.T c.toNat else 0
theorem PY.state (h : PY w0 w J t n A x P Q) (c : Int) : Calls Tryd.prog 20 #[.pointer (some ⟨J.k, 0, none⟩), .int .i64 c] w fun e w' => e = .returned (.tuple #[.int .i64 (saV P n c), .int .u64 (saT P n c)]) ∧ PY w0 w' J t n A x P Q := by
  unfold saV saT
  cases hc : hasC n c
  · refine (state_no J.k J.b J.g P.zs t n P.S P.T c w h.px.lx hc).mono ?_
    rintro e w' ⟨rfl, hb⟩
    exact ⟨rfl, h.below hb⟩
  · obtain ⟨d, rfl, hd⟩ := hasC_yes hc
    refine (state_yes J.k J.b J.g P.zs t n P.S P.T d w h.px.lx hd).mono ?_
    rintro e w' ⟨rfl, hb⟩
    simp only [if_true, Int.toNat_natCast]
    exact ⟨trivial, h.below hb⟩
theorem PY.rhas (h : PY w0 w J t n A x P Q) (c : Int) : Calls Tryd.prog 21 #[.pointer (some ⟨J.q, 0, none⟩), .int .i64 c] w fun e w' => e = .returned (.bool (hasC n c)) ∧ w' = w := rhas_rk J.q J.bo J.go J.s J.u Q.zs t n Q.S Q.T c w h.px.rk
end
end Go.Proofs.YtioanbdmkiphfaaDoor
