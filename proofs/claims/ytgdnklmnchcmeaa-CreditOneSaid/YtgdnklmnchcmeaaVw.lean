/-
  A scheduler in a world of a law's: all that was there stays, and what the law keeps stays.
-/
import Derived.Test.YtgdnklmnchcmeaaNe
namespace Go.Proofs.Ytgdnklmnchcmeaa
open Go.RowKit Go.Maps
set_option linter.unusedVariables false
set_option maxRecDepth 100000
theorem lt_obj {w : World} {b : Nat} {o : Obj} (h : w.heap[b]? = some o) : b < w.heap.size := (Array.getElem?_eq_some_iff.1 h).1
/-- W: the world at the law's beginning; KP: the law's own blocks that are kept -/
structure VF (W : World) (KP : Nat → Obj → Prop) (w : World) (c m p n : Nat) (per : Int) (F : Nat → Pv) (S : St) : Prop where
  vx : VX w c m p n per F S
  bel : Below W.heap.size W w
  low : ∀ k, Sp m p n F k → W.heap.size ≤ k
  lc : W.heap.size ≤ c
  kp : ∀ k o, KP k o → w.heap[k]? = some o ∧ ¬ Sp m p n F k ∧ k ≠ c
def VW (W : World) (KP : Nat → Obj → Prop) (w : World) (c m p n : Nat) (per : Int) (S : St) : Prop := ∃ F, VF W KP w c m p n per F S
def K0 (_ : Nat) (_ : Obj) : Prop := False
def K1 (KP : Nat → Obj → Prop) (b : Nat) (o : Obj) (k : Nat) (o' : Obj) : Prop := (k = b ∧ o' = o) ∨ KP k o'
section
variable {W w w' : World} {KP KQ : Nat → Obj → Prop} {c m p n : Nat} {per : Int} {F : Nat → Pv} {S S' : St} {k : Int} {x : On}
theorem VF.tu (h : VF W KP w c m p n per F S) (t : Tu w w' c m p n per F S') : VW W KP w' c m p n per S' := by
  obtain ⟨G, h1, h2, h3⟩ := t
  have hlt : ∀ k, Sp m p n F k → k < w.heap.size := fun k hk => h.vx.vr.splt hk
  have hs : ∀ k, Sp m p n G k → Sp m p n F k ∨ w.heap.size ≤ k := fun k hk => by
    rcases hk with rfl | rfl | ⟨i, hi, hk⟩
    · exact .inl (.inl rfl)
    · exact .inl (.inr (.inl rfl))
    · exact (h3 i hi k hk).imp (fun e => .inr (.inr ⟨i, hi, e⟩)) id
  refine ⟨G, h1, h.bel.trans (h2.below h.bel.size h.low), fun k hk => ?_, h.lc, fun k o hk => ?_⟩
  · rcases hs k hk with e | e
    · exact h.low k e
    · exact Nat.le_trans h.bel.size e
  · obtain ⟨a, b, d⟩ := h.kp k o hk
    refine ⟨(h2.block k (lt_obj a) b).trans a, fun e => ?_, d⟩
    rcases hs k e with e | e
    · exact b e
    · have := lt_obj a; omega
theorem VF.below (h : VF W KP w c m p n per F S) (hb : Below w.heap.size w w') : VF W KP w' c m p n per F S :=
  ⟨h.vx.below hb, h.bel.trans (hb.mono h.bel.size), h.low, h.lc, fun k o hk => ⟨(hb.block k (lt_obj (h.kp k o hk).1)).trans (h.kp k o hk).1, (h.kp k o hk).2⟩⟩
theorem VW.below (h : VW W KP w c m p n per S) (hb : Below w.heap.size w w') : VW W KP w' c m p n per S := by
  obtain ⟨F, h⟩ := h
  exact ⟨F, h.below hb⟩
theorem VW.drew (h : VW W KP w c m p n per S) : VW W KP w.drew c m p n per S := h.below (Below.refl _ _).drew
theorem VW.bel (h : VW W KP w c m p n per S) : Below W.heap.size W w := by obtain ⟨F, h⟩ := h; exact h.bel
theorem VW.kp (h : VW W KP w c m p n per S) {k : Nat} {o : Obj} (hk : KP k o) : w.heap[k]? = some o := by obtain ⟨F, h⟩ := h; exact (h.kp k o hk).1
theorem VW.ok (h : VW W KP w c m p n per S) : SOk n per S := by obtain ⟨F, h⟩ := h; exact h.vx.ok
theorem VW.weak (h : VW W KP w c m p n per S) (hq : ∀ k o, KQ k o → KP k o) : VW W KQ w c m p n per S := by
  obtain ⟨F, h⟩ := h
  exact ⟨F, h.vx, h.bel, h.low, h.lc, fun k o hk => h.kp k o (hq k o hk)⟩
/-- one block more is kept -/
theorem VW.box (h : VW W KP w c m p n per S) (o : Obj) : VW W (K1 KP w.heap.size o) (w.alloc o) c m p n per S := by
  obtain ⟨F, h⟩ := h
  have h2 := h.below (below_box w o)
  refine ⟨F, h2.vx, h2.bel, h2.low, h2.lc, fun k o' hk => ?_⟩
  rcases hk with ⟨rfl, rfl⟩ | hk
  · exact ⟨heap_alloc_at _ _, (fun e => by have := h.vx.vr.splt e; omega), by have := h.vx.vr.lt; omega⟩
  · exact h2.kp k o' hk
/-- .. that lies there already, new since some world -/
theorem VW.keepNew {w1 : World} (h : VW W KP w c m p n per S) (hb : Below w.heap.size w w1) {b : Nat} {o : Obj} (h1 : w1.heap[b]? = some o) (h2 : w.heap.size ≤ b) : VW W (K1 KP b o) w1 c m p n per S := by
  obtain ⟨F, h⟩ := h
  have h3 := h.below hb
  refine ⟨F, h3.vx, h3.bel, h3.low, h3.lc, fun k o' hk => ?_⟩
  rcases hk with ⟨rfl, rfl⟩ | hk
  · exact ⟨h1, (fun e => by have := h.vx.vr.splt e; omega), by have := h.vx.vr.lt; omega⟩
  · exact h3.kp k o' hk
/-- a block of the law's that is kept turns -/
theorem VW.turnOwn {b : Nat} {o o' : Obj} (h : VW W (K1 KP b o) w c m p n per S) (hW : W.heap.size ≤ b) (hn : ∀ o'', ¬ KP b o'') (hg : w.grownBy w' (some b)) (hb : w'.heap[b]? = some o') : VW W (K1 KP b o') w' c m p n per S := by
  obtain ⟨F, h⟩ := h
  obtain ⟨hb0, hbs, hbc⟩ := h.kp b o (.inl ⟨rfl, rfl⟩)
  have kb : ∀ k, k < w.heap.size → k ≠ b → w'.heap[k]? = w.heap[k]? := fun k hk hne => hg.block k hk fun e => hne (by cases e; rfl)
  refine ⟨F, h.vx.keep (kb c h.vx.vr.lt (Ne.symm hbc)) (fun k hk => kb k (h.vx.vr.splt hk) fun e => hbs (e ▸ hk)), h.bel.trans (gr_below hg hW h.bel.size), h.low, h.lc, fun k o'' hk => ?_⟩
  rcases hk with ⟨rfl, rfl⟩ | hk
  · exact ⟨hb, hbs, hbc⟩
  · obtain ⟨a, e, d⟩ := h.kp k o'' (.inr hk)
    exact ⟨(kb k (lt_obj a) fun e2 => hn o'' (e2 ▸ hk)).trans a, e, d⟩
/-- the scheduler's calls -/
theorem VW.add_ (h : VW W KP w c m p n per S) (hk : KW k) (wt i : Int) : Calls Try.prog 19 #[.pointer (some ⟨c, 0, none⟩), .int .i64 k, .int .i64 wt, .int .i64 i] w fun e w' => e = .returned (.int .i64 (addE S n k wt i)) ∧ VW W KP w' c m p n per (addT S n k wt i) := by
  obtain ⟨F, h⟩ := h
  exact (add_vx h.vx hk wt i).mono fun e w' r => ⟨r.1, h.tu r.2⟩
theorem VW.remove_ (h : VW W KP w c m p n per S) (hk : KW k) : Calls Try.prog 20 #[.pointer (some ⟨c, 0, none⟩), .int .i64 k] w fun e w' => e = .returned (.int .i64 (remE S k)) ∧ VW W KP w' c m p n per (remT S k) := by
  obtain ⟨F, h⟩ := h
  exact (remove_vx h.vx hk).mono fun e w' r => ⟨r.1, h.tu r.2⟩
theorem VW.wake_ (h : VW W KP w c m p n per S) (hk : KW k) : Calls Try.prog 21 #[.pointer (some ⟨c, 0, none⟩), .int .i64 k] w fun e w' => e = .returned (.int .i64 (wakE S k)) ∧ VW W KP w' c m p n per (wakT S k) := by
  obtain ⟨F, h⟩ := h
  exact (wake_vx h.vx hk).mono fun e w' r => ⟨r.1, h.tu r.2⟩
theorem VW.block_ (h : VW W KP w c m p n per S) (hk : KW k) : Calls Try.prog 22 #[.pointer (some ⟨c, 0, none⟩), .int .i64 k] w fun e w' => e = .returned (.int .i64 (blkE S k)) ∧ VW W KP w' c m p n per (blkT S k) := by
  obtain ⟨F, h⟩ := h
  exact (block_vx h.vx hk).mono fun e w' r => ⟨r.1, h.tu r.2⟩
theorem VW.pick_ (h : VW W KP w c m p n per S) (i : Int) : Calls Try.prog 16 #[.pointer (some ⟨c, 0, none⟩), .int .i64 i] w fun e w' => e = .returned (.tuple #[.int .i64 (nxI (pckO S n i)), .bool (pckO S n i).isSome, .int .i64 (pckE S n i)]) ∧ VW W KP w' c m p n per (pckT S n i) := by
  obtain ⟨F, h⟩ := h
  exact (pick_vx h.vx i).mono fun e w' r => ⟨r.1, h.tu r.2⟩
theorem VW.charge_ (h : VW W KP w c m p n per S) (i z : Int) : Calls Try.prog 23 #[.pointer (some ⟨c, 0, none⟩), .int .i64 i, .int .i64 z] w fun e w' => e = .returned (.int .i64 (chgE S n i z)) ∧ VW W KP w' c m p n per (chgT per S n i z) := by
  obtain ⟨F, h⟩ := h
  exact (charge_vx h.vx i z).mono fun e w' r => ⟨r.1, h.tu r.2⟩
theorem VW.yield_ (h : VW W KP w c m p n per S) (i : Int) : Calls Try.prog 17 #[.pointer (some ⟨c, 0, none⟩), .int .i64 i] w fun e w' => e = .returned (.tuple #[.int .i64 (yldI S n i), .int .i64 (yldE S n i)]) ∧ VW W KP w' c m p n per (yldT S n i) := by
  obtain ⟨F, h⟩ := h
  exact (yield_vx h.vx i).mono fun e w' r => ⟨r.1, h.tu r.2⟩
theorem VW.refill_ (h : VW W KP w c m p n per S) : Calls Try.prog 25 #[.pointer (some ⟨c, 0, none⟩)] w fun e w' => e = .returned (.int .i64 0) ∧ VW W KP w' c m p n per (refS per S) := by
  obtain ⟨F, h⟩ := h
  exact (refill_vx h.vx).mono fun e w' r => ⟨r.1, h.tu r.2⟩
/-- what is told of one -/
def lkV (L : List On) (k : Int) : Value := match fnd L k with
  | none => .agg z4
  | some x => lv x
theorem VW.look_ (h : VW W KP w c m p n per S) (hk : KW k) : Calls Try.prog 14 #[.pointer (some ⟨c, 0, none⟩), .int .i64 k] w fun e w' => e = .returned (.tuple #[lkV S.L k, .bool (fnd S.L k).isSome]) ∧ Below w.heap.size w w' := by
  obtain ⟨F, h⟩ := h
  unfold lkV
  cases hx : fnd S.L k with
  | none => exact look_none h.vx hk hx
  | some x => exact look_some h.vx hk hx
theorem VW.runs_ (h : VW W KP w c m p n per S) (i : Nat) (hi : i < n) : Calls Try.prog 18 #[.pointer (some ⟨c, 0, none⟩), .int .i64 i] w fun e w' => e = .returned (.tuple #[.int .i64 (riI S.L i), .bool (tkB S.L i)]) ∧ Below w.heap.size w w' := by
  obtain ⟨F, h⟩ := h
  exact runs_at h.vx i hi
theorem VW.queue_ (h : VW W KP w c m p n per S) (i : Nat) (hi : i < n) : Calls Try.prog 26 #[.pointer (some ⟨c, 0, none⟩), .int .i64 i] w fun e w' => ∃ v', e = .returned v' ∧ Qs w' v' (S.Q i) ∧ (∀ k, v'.ownBlock = some k → w.heap.size ≤ k) ∧ Below w.heap.size w w' := by
  obtain ⟨F, h⟩ := h
  exact queue_at h.vx i hi
theorem new_vw (n : Nat) (per : Int) (w : World) (h : okNew n per) : Calls Try.prog 9 #[.int .i64 n, .int .i64 per] w fun e w' => ∃ c, e = .returned (.tuple #[.pointer (some ⟨c, 0, none⟩), .int .i64 0]) ∧ ∃ m p, VW w K0 w' c m p n per S0 :=
  (new_at n per w h).mono fun e w' ⟨c, h1, m, p, F, h2, h3, h4, h5⟩ => ⟨c, h1, m, p, F, h2, h3, h5, h4, fun k o hk => hk.elim⟩
end
end Go.Proofs.Ytgdnklmnchcmeaa
