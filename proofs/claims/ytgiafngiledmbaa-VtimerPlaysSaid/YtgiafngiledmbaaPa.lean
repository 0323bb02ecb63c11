/-
  Both timers in one world, with an act; what the law's names tell.
-/
import Derived.Test.YtgiafngiledmbaaRi
import Derived.Test.YtgiafngiledmbaaRc
import Derived.Test.YtgiafngiledmbaaRe
import Derived.Test.YtgiafngiledmbaaOpens
namespace Go.Proofs.Ytgiafngiledmbaa
open Go.RowKit Go.Maps
set_option linter.unusedVariables false
set_option maxRecDepth 100000
/-- an act's cells, whole -/
def acA (x : Ac) : Array Value := #[.int .i64 x.kd, .int .i64 x.id, .int .u64 x.nn]
/-- the program's timers, the document's -/
structure PX (KP : Nat → Array Value → Prop) (w0 w : World) (t ms mt r : Nat) (L K : List Tm) : Prop where
  bel : Below w0.heap.size w0 w
  vx : VX w t ms mt L
  dx : ∃ v, DX w r v K ∧ ∀ k, v.ownBlock = some k → w0.heap.size ≤ k
  low : w0.heap.size ≤ t ∧ w0.heap.size ≤ ms ∧ w0.heap.size ≤ mt ∧ w0.heap.size ≤ r
  kp : ∀ k cs, KP k cs → w.heap[k]? = some (.cells cs 32 (0, 0))
/-- .. with an act -/
structure PA (KP : Nat → Array Value → Prop) (w0 w : World) (t ms mt r q : Nat) (x : Ac) (L K : List Tm) : Prop where
  px : PX KP w0 w t ms mt r L K
  a : w.heap[q]? = some (.cells (acA x) 32 (0, 0))
section
variable {KP : Nat → Array Value → Prop} {w0 w w' : World} {t ms mt r q : Nat} {x : Ac} {L K L' K' : List Tm} {v v' : Value}
theorem bel_trn {S : Nat → Prop} (h : Below w0.heap.size w0 w) (hS : ∀ k, S k → w0.heap.size ≤ k) (ht : Trn S w w') : Below w0.heap.size w0 w' := h.trans (ht.below h.size hS)
theorem VX.cells {k : Nat} {cs : Array Value} {ty : TypeId} (h : VX w t ms mt L) (hk : w.heap[k]? = some (.cells cs ty (0, 0))) : ¬ Sm ms mt k := by
  rintro (rfl | rfl)
  · obtain ⟨es, c, h1⟩ := h.sm.typ
    rw [hk] at h1; cases h1
  · obtain ⟨N, h2⟩ := h.nt
    obtain ⟨es, c, h1⟩ := h2.typ
    rw [hk] at h1; cases h1
theorem DX.apart (h : DX w r v K) (k : VX w t ms mt L) : ∀ j, j = t ∨ j = ms ∨ j = mt → ¬ Sr r v j := by
  have hv : ∀ j, Sr r v j → ∃ cs ty, w.heap[j]? = some (.cells cs ty (0, 0)) ∧ ty ≠ 41 := by
    rintro j (rfl | hj)
    · exact ⟨_, _, h.ob, by decide⟩
    · obtain ⟨_, cs, h1⟩ := h.its.lt j hj
      exact ⟨cs, _, h1, by decide⟩
  rintro j hj hs
  obtain ⟨cs, ty, h1, h2⟩ := hv j hs
  rcases hj with rfl | rfl | rfl
  · exact ne_typ h1 k.ob h2 rfl
  · exact k.cells h1 (.inl rfl)
  · exact k.cells h1 (.inr rfl)
theorem DX.ne_act {cs : Array Value} (h : DX w r v K) (hq : w.heap[q]? = some (.cells cs 32 (0, 0))) : ¬ Sr r v q := by
  rintro (rfl | hj)
  · exact ne_typ hq h.ob (by decide) rfl
  · obtain ⟨_, cs', h1⟩ := h.its.lt q hj
    exact ne_typ hq h1 (by decide) rfl
theorem PX.below (h : PX KP w0 w t ms mt r L K) (hb : Below w.heap.size w w') : PX KP w0 w' t ms mt r L K := by
  obtain ⟨v, h1, h2⟩ := h.dx
  exact ⟨h.bel.trans (hb.mono h.bel.size), h.vx.below hb, ⟨v, h1.below hb, h2⟩, h.low, fun k cs hk => (hb.block k (lt_of_heap (h.kp k cs hk))).trans (h.kp k cs hk)⟩
theorem PX.call (h : PX KP w0 w t ms mt r L K) (hi : VX w' t ms mt L') (ht : Trn (Sm ms mt) w w') : PX KP w0 w' t ms mt r L' K := by
  obtain ⟨v, h1, h2⟩ := h.dx
  refine ⟨bel_trn h.bel (fun k hk => by rcases hk with rfl | rfl; exact h.low.2.1; exact h.low.2.2.1) ht, hi, ⟨v, h1.keep (ht.block r h1.lt (h.vx.cells h1.ob)) fun k hk => ?_, h2⟩, h.low, fun k cs hk => (ht.block k (lt_of_heap (h.kp k cs hk)) (h.vx.cells (h.kp k cs hk))).trans (h.kp k cs hk)⟩
  obtain ⟨h3, cs, h4⟩ := h1.its.lt k hk
  exact ht.block k h3 (h.vx.cells h4)
theorem PA.call (h : PA KP w0 w t ms mt r q x L K) (hi : VX w' t ms mt L') (ht : Trn (Sm ms mt) w w') : PA KP w0 w' t ms mt r q x L' K :=
  ⟨h.px.call hi ht, (ht.block q (lt_of_heap h.a) (h.px.vx.cells h.a)).trans h.a⟩
theorem PX.rcall (h : PX KP w0 w t ms mt r L K) (hv : DX w r v K) (ho : ∀ k, v.ownBlock = some k → w0.heap.size ≤ k) (hi : DX w' r v' K') (ht : Trn (Sr r v) w w') (hn : ∀ j, v'.ownBlock = some j → v.ownBlock = some j ∨ w.heap.size ≤ j) : PX KP w0 w' t ms mt r L K' :=
  ⟨bel_trn h.bel (fun k hk => by rcases hk with rfl | hk; exact h.low.2.2.2; exact ho k hk) ht, h.vx.trn ht (hv.apart h.vx), ⟨v', hi, fun k hk => by rcases hn k hk with h1 | h1; exact ho k h1; exact Nat.le_trans h.bel.size h1⟩, h.low, fun k cs hk => (ht.block k (lt_of_heap (h.kp k cs hk)) (hv.ne_act (h.kp k cs hk))).trans (h.kp k cs hk)⟩
theorem PA.rcall (h : PA KP w0 w t ms mt r q x L K) (hv : DX w r v K) (ho : ∀ k, v.ownBlock = some k → w0.heap.size ≤ k) (hi : DX w' r v' K') (ht : Trn (Sr r v) w w') (hn : ∀ j, v'.ownBlock = some j → v.ownBlock = some j ∨ w.heap.size ≤ j) : PA KP w0 w' t ms mt r q x L K' :=
  ⟨h.px.rcall hv ho hi ht hn, (ht.block q (lt_of_heap h.a) (hv.ne_act h.a)).trans h.a⟩
theorem PA.below (h : PA KP w0 w t ms mt r q x L K) (hb : Below w.heap.size w w') : PA KP w0 w' t ms mt r q x L K := ⟨h.px.below hb, (hb.block _ (lt_of_heap h.a)).trans h.a⟩
theorem PA.drew (h : PA KP w0 w t ms mt r q x L K) : PA KP w0 w.drew t ms mt r q x L K := h.below (Below.refl _ _).drew
theorem PX.act (h : PX KP w0 w t ms mt r L K) (x : Ac) : PA KP w0 (w.alloc (.cells (acA x) 32)) t ms mt r w.heap.size x L K := ⟨h.below (below_box _ _), heap_alloc_at _ _⟩
theorem PA.c0 (h : PA KP w0 w t ms mt r q x L K) : w.cell? ⟨q, 0, none⟩ = some (.int .i64 x.kd) := cell_at h.a 0
theorem PA.c1 (h : PA KP w0 w t ms mt r q x L K) : w.cell? ⟨q, 1, none⟩ = some (.int .i64 x.id) := cell_at h.a 1
theorem PA.c2 (h : PA KP w0 w t ms mt r q x L K) : w.cell? ⟨q, 2, none⟩ = some (.int .u64 x.nn) := cell_at h.a 2
theorem PA.lt (h : PA KP w0 w t ms mt r q x L K) : q < w.heap.size := lt_of_heap h.a
variable {k c : Int}
theorem PA.begin_ (h : PA KP w0 w t ms mt r q x L K) (hk : KW k) (hc : 0 ≤ c) : Calls Try.prog 14 #[.pointer (some ⟨t, 0, none⟩), .int .i64 k, .int .u64 c] w fun e w' => e = .returned (.int .i64 (beE L k)) ∧ PA KP w0 w' t ms mt r q x (beL L k c) K :=
  (begin_vx h.px.vx hk hc).mono fun e w' r => ⟨r.1, h.call r.2.1 r.2.2⟩
theorem PA.rbegin (h : PA KP w0 w t ms mt r q x L K) (hk : KW k) (hc : 0 ≤ c) : Calls Try.prog 21 #[.pointer (some ⟨r, 0, none⟩), .int .i64 k, .int .u64 c] w fun e w' => e = .returned (.int .i64 (beE K k)) ∧ PA KP w0 w' t ms mt r q x L (beL K k c) := by
  obtain ⟨v, h1, h2⟩ := h.px.dx
  exact (rbegin_dx h1 k c hk hc).mono fun e w' ⟨e1, v', h3, h4, h5⟩ => ⟨e1, h.rcall h1 h2 h3 h4 h5⟩
theorem PA.set_ (h : PA KP w0 w t ms mt r q x L K) (hk : KW k) (hc : 0 ≤ c) : Calls Try.prog 15 #[.pointer (some ⟨t, 0, none⟩), .int .i64 k, .int .u64 c] w fun e w' => e = .returned (.int .i64 (if (fnd L k).isSome then 0 else 14)) ∧ PA KP w0 w' t ms mt r q x (mod L k (stD c true)) K :=
  (set_vx h.px.vx hk hc).mono fun e w' r => ⟨r.1, h.call r.2.1 r.2.2⟩
theorem PA.stop_ (h : PA KP w0 w t ms mt r q x L K) (hk : KW k) : Calls Try.prog 16 #[.pointer (some ⟨t, 0, none⟩), .int .i64 k] w fun e w' => e = .returned (.int .i64 (if (fnd L k).isSome then 0 else 14)) ∧ PA KP w0 w' t ms mt r q x (mod L k (stD 0 false)) K :=
  (stop_vx h.px.vx hk).mono fun e w' r => ⟨r.1, h.call r.2.1 r.2.2⟩
theorem PA.rset (h : PA KP w0 w t ms mt r q x L K) (hc : 0 ≤ c) (is : Bool) : Calls Try.prog 22 #[.pointer (some ⟨r, 0, none⟩), .int .i64 k, .int .u64 c, .bool is] w fun e w' => e = .returned (.int .i64 (if (fnd K k).isSome then 0 else 14)) ∧ PA KP w0 w' t ms mt r q x L (mod K k (stD c is)) := by
  obtain ⟨v, h1, h2⟩ := h.px.dx
  exact (rset_dx h1 k c hc is).mono fun e w' ⟨e1, h3, h4⟩ => ⟨e1, h.rcall h1 h2 h3 h4 fun j hj => .inl hj⟩
theorem PA.halt_ (h : PA KP w0 w t ms mt r q x L K) (hk : KW k) (hc : 0 ≤ c) : Calls Try.prog 17 #[.pointer (some ⟨t, 0, none⟩), .int .i64 k, .int .u64 c] w fun e w' => e = .returned (.int .i64 (haE L k)) ∧ PA KP w0 w' t ms mt r q x (haL L k c) K :=
  (halt_vx h.px.vx hk hc).mono fun e w' r => ⟨r.1, h.call r.2.1 r.2.2⟩
theorem PA.go_ (h : PA KP w0 w t ms mt r q x L K) (hk : KW k) (hc : 0 ≤ c) : Calls Try.prog 18 #[.pointer (some ⟨t, 0, none⟩), .int .i64 k, .int .u64 c] w fun e w' => e = .returned (.int .i64 (goE L k)) ∧ PA KP w0 w' t ms mt r q x (goL L k c) K :=
  (go_vx h.px.vx hk hc).mono fun e w' r => ⟨r.1, h.call r.2.1 r.2.2⟩
theorem PA.rhalt (h : PA KP w0 w t ms mt r q x L K) (hc : 0 ≤ c) : Calls Try.prog 23 #[.pointer (some ⟨r, 0, none⟩), .int .i64 k, .int .u64 c, .bool true] w fun e w' => e = .returned (.int .i64 (haE K k)) ∧ PA KP w0 w' t ms mt r q x L (haL K k c) := by
  obtain ⟨v, h1, h2⟩ := h.px.dx
  exact (rhalt_dx h1 k c hc).mono fun e w' ⟨e1, h3, h4⟩ => ⟨e1, h.rcall h1 h2 h3 h4 fun j hj => .inl hj⟩
theorem PA.rgo (h : PA KP w0 w t ms mt r q x L K) (hc : 0 ≤ c) : Calls Try.prog 23 #[.pointer (some ⟨r, 0, none⟩), .int .i64 k, .int .u64 c, .bool false] w fun e w' => e = .returned (.int .i64 (goE K k)) ∧ PA KP w0 w' t ms mt r q x L (goL K k c) := by
  obtain ⟨v, h1, h2⟩ := h.px.dx
  exact (rgo_dx h1 k c hc).mono fun e w' ⟨e1, h3, h4⟩ => ⟨e1, h.rcall h1 h2 h3 h4 fun j hj => .inl hj⟩
theorem PA.end_ (h : PA KP w0 w t ms mt r q x L K) (hk : KW k) : Calls Try.prog 20 #[.pointer (some ⟨t, 0, none⟩), .int .i64 k] w fun e w' => e = .returned (.int .i64 (if (fnd L k).isSome then 0 else 14)) ∧ PA KP w0 w' t ms mt r q x (del L k) K :=
  (end_vx h.px.vx hk).mono fun e w' r => ⟨r.1, h.call r.2.1 r.2.2⟩
theorem PA.rend (h : PA KP w0 w t ms mt r q x L K) : Calls Try.prog 25 #[.pointer (some ⟨r, 0, none⟩), .int .i64 k] w fun e w' => e = .returned (.int .i64 (if (fnd K k).isSome then 0 else 14)) ∧ PA KP w0 w' t ms mt r q x L (del K k) := by
  obtain ⟨v, h1, h2⟩ := h.px.dx
  exact (rend_dx h1 k).mono fun e w' ⟨e1, v', h3, h4, h5⟩ => ⟨e1, h.rcall h1 h2 h3 h4 h5⟩
theorem PA.due_ (h : PA KP w0 w t ms mt r q x L K) (hc : 0 ≤ c) : Calls Try.prog 19 #[.pointer (some ⟨t, 0, none⟩), .int .u64 c] w fun e w' => (∃ o, e = .returned o ∧ Li w.heap.size w' o (dueL L c)) ∧ PA KP w0 w' t ms mt r q x (aft L c) K ∧ w.heap.size ≤ w'.heap.size :=
  (due_vx h.px.vx hc).mono fun e w' r => ⟨r.1, h.call r.2.1 r.2.2, r.2.2.size⟩
theorem rdue_dx {c : Int} (h : DX w r v K) (hc : 0 ≤ c) : Calls Try.prog 24 #[.pointer (some ⟨r, 0, none⟩), .int .u64 c] w fun e w' => (∃ o, e = .returned o ∧ Li w.heap.size w' o (dueL K c)) ∧ DX w' r v (aft K c) ∧ Trn (Sr r v) w w' := by
  by_cases h0 : K.length = 0
  · exact rdue_none h h0
  · exact rdue_some h hc (by omega)
theorem PA.rdue {B : Nat} {o : Value} {os : List Int} (h : PA KP w0 w t ms mt r q x L K) (hc : 0 ≤ c) (hl : Li B w o os) (hB : t < B ∧ ms < B ∧ mt < B ∧ r < B ∧ q < B ∧ ∀ v, DX w r v K → ∀ j, v.ownBlock = some j → j < B) : Calls Try.prog 24 #[.pointer (some ⟨r, 0, none⟩), .int .u64 c] w fun e w' => (∃ o2, e = .returned o2 ∧ Li w.heap.size w' o2 (dueL K c)) ∧ PA KP w0 w' t ms mt r q x L (aft K c) ∧ Li B w' o os := by
  obtain ⟨v, h1, h2⟩ := h.px.dx
  refine (rdue_dx h1 hc).mono fun e w' ⟨e1, h3, h4⟩ => ⟨e1, h.rcall h1 h2 h3 h4 fun j hj => .inl hj, ?_⟩
  obtain ⟨ad, cc, e2, hr⟩ := hl
  refine ⟨ad, cc, e2, fun i hi => ?_⟩
  obtain ⟨g, k1, k2, k3, k4⟩ := hr i hi
  have hS : ¬ Sr r v g := by
    rintro (rfl | hj)
    · have := hB.2.2.2.1; omega
    · have := hB.2.2.2.2.2 v h1 g hj; omega
  exact ⟨g, k1, k2, Nat.lt_of_lt_of_le k3 h4.size, (World.cell?_of_block (h4.block g k3 hS)).trans k4⟩
end
theorem names_any (w : World) : Calls Try.prog 8 #[] w fun e w' => e = .returned (.bool true) ∧ w' = w := by
  go_enter Try.func8, Try.ntmps8
  go_wp2_with fail
  go_ret
  exact ⟨rfl, rfl⟩
end Go.Proofs.Ytgiafngiledmbaa
