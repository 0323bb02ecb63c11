/-
  A guest's tables in the heap: a block of 37 cells, a map of the lower tables' frames, the memory and the frames; what may turn.
-/
import Derived.Test.YteghkhdpdeiocaaGreatDoorGU
import Derived.Test.YteghkhdpdeiocaaGreatDoorGV
import Derived.Test.YteghkhdpdeiocaaGreatDoorGX
import Derived.Maps.OwnSet
namespace Go.Proofs.YteghkhdpdeiocaaGreatDoor
open Go.RowKit Go.Maps
set_option linter.unusedVariables false
set_option maxRecDepth 100000

theorem law : Keyed Tryz.prog 3 := int_keyed Tryz.underlying3
theorem wf_nat (n : Nat) (h : n < 65536) : (Lit.int .i64 (n : Int)).wf = true := by
  have h1 : IntKind.i64.min ≤ (n : Int) := by have : IntKind.i64.min = -9223372036854775808 := by decide
                                              omega
  have h2 : (n : Int) ≤ IntKind.i64.max := by have : IntKind.i64.max = 9223372036854775807 := by decide
                                              omega
  simp [Lit.wf, h1]
  omega
theorem key_of (n : Nat) (h : n < 65536) : keyOf Tryz.prog 3 (.int .i64 (n : Int)) = some (.int .i64 n) := keyOf_int_mk Tryz.underlying3 (wf_nat n h)
/-- the zero value of what is kept -/
def zv : Value := .int .i64 0
theorem zeroE (w : World) : (zeroValue 3).run Tryz.prog w = .ok zv w := by kernel_rfl
/-- an element reads as itself -/
def RV (v : Value) : Option (DataW Value × List MemPlace) := some (.held v, [])
/-- block m is a map of N entries, that keeps M -/
def MapIs (w : World) (m N : Nat) (M : Nat → Option Value) : Prop :=
  ∃ D, w.ownsMap Tryz.prog 3 RV m N D ∧ Maps.size D = N ∧ ∀ n : Nat, n < 65536 → Maps.has D (.int .i64 n) = (M n).isSome ∧ ∀ z, D.atKey (.int .i64 n) (.held z) = .held ((M n).getD z)
theorem MapIs.lt {w : World} {m N : Nat} {M : Nat → Option Value} (h : MapIs w m N M) : m < w.heap.size := by
  obtain ⟨D, ho, _⟩ := h
  exact ho.lt
theorem MapIs.typ {w : World} {m N : Nat} {M : Nat → Option Value} (h : MapIs w m N M) : ∃ es clock, w.heap[m]? = some (.map es clock) := by
  obtain ⟨D, ⟨es, clock, hb, r⟩, h2⟩ := h
  exact ⟨es, clock, hb⟩
theorem MapIs.keep {w w' : World} {m N : Nat} {M : Nat → Option Value} (h : MapIs w m N M) (hk : w'.heap[m]? = w.heap[m]?) : MapIs w' m N M := by
  obtain ⟨D, ⟨es, clock, hb, r⟩, h2⟩ := h
  exact ⟨D, ⟨es, clock, hk.trans hb, r⟩, h2⟩
theorem MapIs.new (w : World) : MapIs (w.alloc (.map #[] 0)) w.heap.size 0 (fun _ => none) :=
  ⟨_, World.ownsMap_made w _ _ _, rfl, fun p hp => ⟨rfl, fun z => rfl⟩⟩
theorem owns_size {w : World} {m n : Nat} {D : DataW Value} (h : w.ownsMap Tryz.prog 3 RV m n D) : w.ownsMap Tryz.prog 3 RV m (Maps.size D) D := by
  obtain ⟨es, clock, hb, F, hs, rfl⟩ := h
  exact ⟨es, clock, hb, F, by simp [Maps.size, length_sorted], rfl⟩
theorem look_run {w : World} {m N : Nat} {M : Nat → Option Value} (h : MapIs w m N M) (p : Nat) (hp : p < 65536) :
    (Instr.lookup 108 (.map (some m)) (.int .i64 p) false).run Tryz.prog w = .ok ((M p).getD zv) w := by
  obtain ⟨D, ho, _, h2⟩ := h
  obtain ⟨h3, h4⟩ := h2 p hp
  obtain ⟨v, ps, hrun, hv⟩ := ho.lookup law Tryz.underlying108 (zeroE w) (show RV zv = some (.held zv, []) from rfl) (key_of p hp)
  rw [h4 zv] at hv
  simp [RV] at hv
  rw [hrun, hv.1]
theorem kl_ne {p q : Nat} (h : ¬ q = p) : Lit.int .i64 (q : Int) ≠ Lit.int .i64 (p : Int) := fun e => h (by cases e; rfl)
theorem drop_run {w : World} {m N : Nat} {M : Nat → Option Value} (h : MapIs w m N M) (p : Nat) (hp : p < 65536) (ty : TypeId) :
    ∃ w', (Builtin.delete_ #[108, 3] ty #[.map (some m), .int .i64 p]).run Tryz.prog w = .ok (.tuple #[]) w' ∧ MapIs w' m (if (M p).isSome then N - 1 else N) (upd M p none) ∧ w.mapTurned w' m := by
  obtain ⟨D, ho, hs, h2⟩ := h
  obtain ⟨w', hrun, ho', ht⟩ := ho.drop law Tryz.underlying108 (key_of p hp) ty
  have hsz := Maps.size_del (k := .int .i64 p) (ho.tidy law)
  rw [(h2 p hp).1, hs] at hsz
  have hs' : Maps.size (D.del (.int .i64 p)) = if (M p).isSome then N - 1 else N := by
    split at hsz
    · rw [if_pos (by assumption)]; omega
    · rw [if_neg (by assumption)]; omega
  refine ⟨w', hrun, ⟨_, hs' ▸ owns_size ho', hs', fun q hq => ?_⟩, ht⟩
  unfold upd
  by_cases e : q = p
  · subst e
    simp only [if_true]
    exact ⟨Maps.has_del_same, fun z => Maps.atKey_del_same _⟩
  · rw [if_neg e]
    exact ⟨(Maps.has_del_other (kl_ne e)).trans (h2 q hq).1, fun z => (Maps.atKey_del_other (kl_ne e) _).trans ((h2 q hq).2 z)⟩
theorem store_run {w : World} {m N : Nat} {M : Nat → Option Value} (h : MapIs w m N M) (p : Nat) (hp : p < 65536) (v : Value) (hN : N < maxLen) :
    ∃ w', (Instr.mapUpdate 108 (.map (some m)) (.int .i64 p) v).run Tryz.prog w = .ok () w' ∧ MapIs w' m (if (M p).isSome then N else N + 1) (upd M p (some v)) ∧ w.mapTurned w' m := by
  obtain ⟨D, ho, hs, h2⟩ := h
  obtain ⟨w', hrun, ho', ht⟩ := ho.store law Tryz.underlying108 hN (key_of p hp) (show RV v = some (.held v, []) from rfl)
  have hsz := Maps.size_put (k := .int .i64 p) (ho.tidy law) (.held v)
  rw [(h2 p hp).1, hs] at hsz
  refine ⟨w', hrun, ⟨_, hsz ▸ owns_size ho', hsz, fun q hq => ?_⟩, ht⟩
  have hk := law.key (key_of p hp)
  unfold upd
  by_cases e : q = p
  · subst e
    simp only [if_true]
    exact ⟨Maps.has_put_same ho.isMap hk _, fun z => Maps.atKey_put_same ho.isMap hk _ _⟩
  · rw [if_neg e]
    exact ⟨(Maps.has_put_other (kl_ne e) _).trans (h2 q hq).1, fun z => (Maps.atKey_put_other (kl_ne e) _ _).trans ((h2 q hq).2 z)⟩


theorem look_ok {w : World} {m N : Nat} {M : Nat → Option Value} (h : MapIs w m N M) (p : Nat) (hp : p < 65536) :
    (Instr.lookup 108 (.map (some m)) (.int .i64 p) true).run Tryz.prog w = .ok (.tuple #[(M p).getD zv, .bool (M p).isSome]) w := by
  obtain ⟨D, ho, _, h2⟩ := h
  obtain ⟨h3, h4⟩ := h2 p hp
  obtain ⟨v, ps, hrun, hv⟩ := ho.look_ok law Tryz.underlying108 (zeroE w) (show RV zv = some (.held zv, []) from rfl) (key_of p hp)
  rw [h4 zv] at hv
  simp [RV] at hv
  rw [hrun, h3, hv.1]
theorem MapIs.congr {w : World} {m N N' : Nat} {M M' : Nat → Option Value} (h : MapIs w m N M) (hn : N = N') (hM : ∀ n, n < 65536 → M n = M' n) : MapIs w m N' M' := by
  subst hn
  obtain ⟨D, ho, h1, h2⟩ := h
  exact ⟨D, ho, h1, fun n hn => by rw [← hM n hn]; exact h2 n hn⟩
/-- the lower tables as the map has them -/
def loM (lo : Nat → Int) (k : Nat) : Option Value := if k < 32 ∧ 0 ≤ lo k then some (.int .i64 (lo k)) else none
theorem loM_some {lo : Nat → Int} {k : Nat} (hk : k < 32) (h : 0 ≤ lo k) : loM lo k = some (.int .i64 (lo k)) := by unfold loM; rw [if_pos ⟨hk, h⟩]
theorem loM_none {lo : Nat → Int} {k : Nat} (h : lo k < 0) : loM lo k = none := by unfold loM; rw [if_neg (by omega)]
theorem count_upd {α : Type} (p : α → Bool) (f : Nat → α) : ∀ (n i : Nat) (x : α), i < n → (List.range n).countP (fun k => p (upd f i x k)) + (if p (f i) = true then 1 else 0) = (List.range n).countP (fun k => p (f k)) + (if p x = true then 1 else 0)
  | n + 1, i, x, h => by
    rw [List.range_succ, List.countP_append, List.countP_append, List.countP_singleton, List.countP_singleton]
    by_cases e : i = n
    · subst e
      have : (List.range i).countP (fun k => p (upd f i x k)) = (List.range i).countP (fun k => p (f k)) := List.countP_congr fun k hk => by rw [upd_other _ _ _ (by have := List.mem_range.1 hk; omega)]
      rw [this, upd_self]
      omega
    · have := count_upd p f n i x (by omega)
      rw [upd_other _ _ _ (Ne.symm e)]
      omega
theorem nlo_upd (lo : Nat → Int) {k : Nat} (hk : k < 32) (v : Int) : nlo (upd lo k v) + (if 0 ≤ lo k then 1 else 0) = nlo lo + (if 0 ≤ v then 1 else 0) := by
  have := count_upd (fun x : Int => decide (0 ≤ x)) lo 32 k v hk
  simpa [nlo] using this
theorem nlo_le (lo : Nat → Int) : nlo lo ≤ 32 := by
  have := List.countP_le_length (p := fun k => decide (0 ≤ lo k)) (l := List.range 32)
  simpa [nlo] using this
theorem loM_upd (lo : Nat → Int) {k : Nat} (hk : k < 32) (v : Int) (i : Nat) : loM (upd lo k v) i = upd (loM lo) k (if 0 ≤ v then some (.int .i64 v) else none) i := by
  unfold loM
  by_cases e : i = k
  · subst e
    rw [upd_self, upd_self]
    by_cases h : 0 ≤ v
    · rw [if_pos ⟨hk, h⟩, if_pos h]
    · rw [if_neg (fun e => h e.2), if_neg h]
  · rw [upd_other _ _ _ e, upd_other _ _ _ e]

/-- the block of tables: whose, the root, how many pages each lower table has -/
structure TB (w : World) (T b D gu L : Nat) (rt : Int) (ct : Nat → Nat) : Prop where
  blk : ∃ cs : Array Value, w.heap[T]? = some (.cells cs 110 (0, 0)) ∧ cs.size = 37 ∧ cs[0]? = some (.pointer (some ⟨b, 0, none⟩)) ∧ cs[1]? = some (.pointer (some ⟨D, 0, none⟩)) ∧ cs[2]? = some (.int .i64 gu) ∧ cs[3]? = some (.int .i64 rt) ∧ cs[4]? = some (.map (some L)) ∧ ∀ k, k < 32 → cs[5 + k]? = some (.int .i64 (ct k))
section
variable {w w' : World} {T b D gu L : Nat} {rt : Int} {ct : Nat → Nat}
theorem TB.lt (h : TB w T b D gu L rt ct) : T < w.heap.size := by
  obtain ⟨cs, h, _⟩ := h.blk
  exact lt_of_heap h
theorem TB.keep (h : TB w T b D gu L rt ct) (hk : w'.heap[T]? = w.heap[T]?) : TB w' T b D gu L rt ct := by
  obtain ⟨cs, h, h2⟩ := h.blk
  exact ⟨cs, hk.trans h, h2⟩
theorem TB.c0 (h : TB w T b D gu L rt ct) : w.cell? ⟨T, 0, none⟩ = some (.pointer (some ⟨b, 0, none⟩)) := by
  obtain ⟨cs, h, h1, h2, h3, h4, h5, h6, h7⟩ := h.blk
  rw [cell_at h, h2]
theorem TB.c1 (h : TB w T b D gu L rt ct) : w.cell? ⟨T, 1, none⟩ = some (.pointer (some ⟨D, 0, none⟩)) := by
  obtain ⟨cs, h, h1, h2, h3, h4, h5, h6, h7⟩ := h.blk
  rw [cell_at h, h3]
theorem TB.c2 (h : TB w T b D gu L rt ct) : w.cell? ⟨T, 2, none⟩ = some (.int .i64 gu) := by
  obtain ⟨cs, h, h1, h2, h3, h4, h5, h6, h7⟩ := h.blk
  rw [cell_at h, h4]
theorem TB.c3 (h : TB w T b D gu L rt ct) : w.cell? ⟨T, 3, none⟩ = some (.int .i64 rt) := by
  obtain ⟨cs, h, h1, h2, h3, h4, h5, h6, h7⟩ := h.blk
  rw [cell_at h, h5]
theorem TB.c4 (h : TB w T b D gu L rt ct) : w.cell? ⟨T, 4, none⟩ = some (.map (some L)) := by
  obtain ⟨cs, h, h1, h2, h3, h4, h5, h6, h7⟩ := h.blk
  rw [cell_at h, h6]
theorem TB.cc (h : TB w T b D gu L rt ct) {k : Nat} (hk : k < 32) : w.cell? ⟨T, 5 + k, none⟩ = some (.int .i64 (ct k)) := by
  obtain ⟨cs, h, h1, h2, h3, h4, h5, h6, h7⟩ := h.blk
  rw [cell_at h, h7 k hk]
theorem TB.fz (h : TB w T b D gu L rt ct) (o : Nat) : w.frozen? ⟨T, o, none⟩ = false := by
  obtain ⟨cs, h, _⟩ := h.blk
  exact froz_at h o
theorem TB.setR (h : TB w T b D gu L rt ct) (v : Int) : TB (w.setCell ⟨T, 3, none⟩ (.int .i64 v)) T b D gu L v ct ∧ Trn (fun k => k = T) w (w.setCell ⟨T, 3, none⟩ (.int .i64 v)) := by
  obtain ⟨cs, h, h1, h2, h3, h4, h5, h6, h7⟩ := h.blk
  refine ⟨⟨_, setCell_eq_setRow w T 3 cs 110 (0, 0) (.int .i64 v) h ▸ setRow_heap w T cs _ 110 _ h, by simpa using h1, ?_, ?_, ?_, ?_, ?_, fun j hj => ?_⟩, trn_setCell (fun k => k = T) h rfl _ _⟩
  · rw [Array.getElem?_setIfInBounds, if_neg (by omega)]; exact h2
  · rw [Array.getElem?_setIfInBounds, if_neg (by omega)]; exact h3
  · rw [Array.getElem?_setIfInBounds, if_neg (by omega)]; exact h4
  · rw [Array.getElem?_setIfInBounds, if_pos rfl, if_pos (by omega)]
  · rw [Array.getElem?_setIfInBounds, if_neg (by omega)]; exact h6
  · rw [Array.getElem?_setIfInBounds, if_neg (by omega)]; exact h7 j hj
theorem TB.setC (h : TB w T b D gu L rt ct) {k : Nat} (hk : k < 32) (v : Nat) : TB (w.setCell ⟨T, 5 + k, none⟩ (.int .i64 v)) T b D gu L rt (upd ct k v) ∧ Trn (fun k => k = T) w (w.setCell ⟨T, 5 + k, none⟩ (.int .i64 v)) := by
  obtain ⟨cs, h, h1, h2, h3, h4, h5, h6, h7⟩ := h.blk
  refine ⟨⟨_, setCell_eq_setRow w T (5 + k) cs 110 (0, 0) (.int .i64 v) h ▸ setRow_heap w T cs _ 110 _ h, by simpa using h1, ?_, ?_, ?_, ?_, ?_, fun j hj => ?_⟩, trn_setCell (fun k => k = T) h rfl _ _⟩
  · rw [Array.getElem?_setIfInBounds, if_neg (by omega)]; exact h2
  · rw [Array.getElem?_setIfInBounds, if_neg (by omega)]; exact h3
  · rw [Array.getElem?_setIfInBounds, if_neg (by omega)]; exact h4
  · rw [Array.getElem?_setIfInBounds, if_neg (by omega)]; exact h5
  · rw [Array.getElem?_setIfInBounds, if_neg (by omega)]; exact h6
  · rw [Array.getElem?_setIfInBounds]
    by_cases e : j = k
    · subst e
      rw [if_pos rfl, if_pos (by omega), upd_self]
    · rw [if_neg (by omega), upd_other _ _ _ e]
      exact h7 j hj
theorem TB.congr {ct' : Nat → Nat} (h : TB w T b D gu L rt ct) (hc : ∀ k, k < 32 → ct k = ct' k) : TB w T b D gu L rt ct' := by
  obtain ⟨cs, h, h1, h2, h3, h4, h5, h6, h7⟩ := h.blk
  exact ⟨cs, h, h1, h2, h3, h4, h5, h6, fun k hk => hc k hk ▸ h7 k hk⟩
end

/-- what has turned: blocks of P, and frames' blocks that are none of B -/
structure Tn (P B : Nat → Prop) (w w' : World) : Prop where
  os : w'.os = w.os
  tape : w'.tape = w.tape
  output : w'.output = w.output
  size : w.heap.size ≤ w'.heap.size
  keep : ∀ k o, w.heap[k]? = some o → ¬ P k → (B k ∨ ¬ Of o) → w'.heap[k]? = some o
theorem Tn.refl (P B : Nat → Prop) (w : World) : Tn P B w w := ⟨rfl, rfl, rfl, Nat.le_refl _, fun _ _ h _ _ => h⟩
theorem Tn.trans {P B : Nat → Prop} {a b c : World} (h : Tn P B a b) (k : Tn P B b c) : Tn P B a c :=
  ⟨k.os.trans h.os, k.tape.trans h.tape, k.output.trans h.output, Nat.le_trans h.size k.size, fun i o hi hp hr => k.keep i o (h.keep i o hi hp hr) hp hr⟩
theorem Tn.mono {P Q B : Nat → Prop} {a b : World} (h : Tn P B a b) (hp : ∀ k, P k → Q k) : Tn Q B a b := ⟨h.os, h.tape, h.output, h.size, fun i o hi hq hr => h.keep i o hi (fun e => hq (hp i e)) hr⟩
theorem Tn.of_below {P B : Nat → Prop} {a b : World} (h : Below a.heap.size a b) : Tn P B a b := ⟨h.os, h.tape, h.output, h.size, fun k o hk _ _ => (h.block k (lt_of_heap hk)).trans hk⟩
theorem Tn.of_tu {P B : Nat → Prop} {a b : World} (h : Tu Of B a b) : Tn P B a b := ⟨h.os, h.tape, h.output, h.size, fun k o hk _ hr => h.keep k o hk hr⟩
theorem Tn.of_grown {P B : Nat → Prop} {g : Nat} {a b : World} (h : a.grownBy b (some g)) (hg : P g) : Tn P B a b := ⟨h.os, h.tape, h.output, h.size, fun k o hk hp _ => (h.block k (lt_of_heap hk) (fun e => hp (by cases e; exact hg))).trans hk⟩
theorem Tn.of_trn {P B S : Nat → Prop} {a b : World} (h : Trn S a b) (hs : ∀ k, S k → P k) : Tn P B a b := ⟨h.os, h.tape, h.output, h.size, fun k o hk hp _ => (h.block k (lt_of_heap hk) (fun e => hp (hs k e))).trans hk⟩
theorem Tn.of_map {P B : Nat → Prop} {m : Nat} {a b : World} (h : a.mapTurned b m) (hm : P m) : Tn P B a b := by
  obtain ⟨es, cl, es', cl', hb, rfl⟩ := h
  exact Tn.of_trn (trn_setBlock (fun k => k = m) a m _ rfl) (fun k e => e ▸ hm)
theorem Tn.drew {P B : Nat → Prop} {a b : World} (h : Tn P B a b) : Tn P B a b.drew := ⟨h.os, h.tape, h.output, h.size, h.keep⟩
/-- frames stand where their own blocks do -/
theorem FX.stay {B : Nat → Prop} {w w' : World} {D : Nat} {S : Fs} (h : FX B w D S) (hk : ∀ (k : Nat) (o : Obj), w.heap[k]? = some o → Of o → ¬ B k → w'.heap[k]? = some o) : FX B w' D S := by
  obtain ⟨r, C, s, h⟩ := h
  obtain ⟨l1, l2, l3⟩ := h.lo
  obtain ⟨a, h1, g1⟩ := h.ob.blk
  obtain ⟨b, h2, g2⟩ := h.row.blk
  refine ⟨r, C, s, ⟨a, hk _ _ h1 (.inl rfl) l1, g1⟩, ⟨b, hk _ _ h2 (.inr rfl) l2, g2⟩, fun i hi hc => ?_, h.inj, h.s1, h.s2, h.ok, h.lo⟩
  obtain ⟨x, y, h3, h4⟩ := h.mp i hi hc
  exact ⟨x, y, hk _ _ h3 trivial (l3 i hi hc), h4⟩

/-- a guest's tables with their memory and frames -/
structure SX (B : Nat → Prop) (w : World) (b g D T L gu : Nat) (z : Zs) : Prop where
  sz : SZ w
  bt : E.BT w
  mm : MM w b g z.m
  fx : FX B w D z.S
  tb : TB w T b D gu L z.x.rt (cnt z.x.pg)
  mp : MapIs w L (nlo z.x.lo) (loM z.x.lo)
  bl : B L
  b01 : B 0 ∧ B 1
  hB : ∀ k, w.heap.size ≤ k → ¬ B k
  lo : 1 < g ∧ 1 < T ∧ 1 < L
theorem cell_kept {w w' : World} {k : Nat} (h : w'.heap[k]? = w.heap[k]?) (o : Nat) : w'.cell? ⟨k, o, none⟩ = w.cell? ⟨k, o, none⟩ := World.cell?_of_block (a := ⟨k, o, none⟩) h
theorem SZ.stay {w w' : World} (h : SZ w) (hk : w'.heap[1]? = w.heap[1]?) (hs : w.heap.size ≤ w'.heap.size) : SZ w' := by
  have hc := fun o => cell_kept hk o
  have hp := h.pos
  exact ⟨(hc 0).trans h.c0, (hc 1).trans h.c1, (hc 2).trans h.c2, (hc 3).trans h.c3, (hc 4).trans h.c4, (hc 5).trans h.c5, by omega⟩
theorem BT.stay {w w' : World} (h : E.BT w) (hk : w'.heap[0]? = w.heap[0]?) (hs : w.heap.size ≤ w'.heap.size) : E.BT w' := by
  have hc := fun o => cell_kept hk o
  have hp := h.pos
  exact ⟨(hc 0).trans h.c0, (hc 1).trans h.c1, (hc 2).trans h.c2, (hc 3).trans h.c3, (hc 4).trans h.c4, (hc 5).trans h.c5, (hc 6).trans h.c6, by omega⟩
theorem MM.stay {w w' : World} {b g : Nat} {zs : List Int} (h : MM w b g zs) (hb : w'.heap[b]? = w.heap[b]?) (hg : w'.heap[g]? = w.heap[g]?) : MM w' b g zs := ⟨hb.trans h.cell, hg.trans h.row, h.ne, h.bytes, h.pos, h.len⟩
/-- what tables, memory and frames may turn -/
def Pt (g T L : Nat) : Nat → Prop := fun k => k = T ∨ k = L ∨ k = g
section
variable {B : Nat → Prop} {w w' : World} {b g D T L gu : Nat} {z : Zs}
theorem heap_some {w : World} {k : Nat} (h : k < w.heap.size) : ∃ o, w.heap[k]? = some o := ⟨_, Array.getElem?_eq_getElem h⟩
theorem SX.bne (h : SX B w b g D T L gu z) : b ≠ T ∧ b ≠ L ∧ g ≠ T ∧ g ≠ L ∧ T ≠ L := by
  obtain ⟨cs, h1, _⟩ := h.tb.blk
  obtain ⟨es, cl, h2⟩ := h.mp.typ
  exact ⟨ne_typ h.mm.cell h1 (by decide), ne_map h.mm.cell h2, ne_typ h.mm.row h1 (by decide), ne_map h.mm.row h2, ne_map h1 h2⟩
/-- blocks that a turn leaves -/
theorem SX.low (h : SX B w b g D T L gu z) {P : Nat → Prop} (t : Tn P B w w') (hP : ∀ k, P k → 1 < k) : SZ w' ∧ E.BT w' := by
  have p0 := h.sz.pos
  obtain ⟨o0, e0⟩ := heap_some (show 0 < w.heap.size by omega)
  obtain ⟨o1, e1⟩ := heap_some (show 1 < w.heap.size by omega)
  exact ⟨h.sz.stay ((t.keep 1 o1 e1 (fun e => by have := hP _ e; omega) (.inl h.b01.2)).trans e1.symm) t.size, BT.stay h.bt ((t.keep 0 o0 e0 (fun e => by have := hP _ e; omega) (.inl h.b01.1)).trans e0.symm) t.size⟩
theorem not_of {cs : Array Value} {t : TypeId} {f : Nat × Nat} (h : t ≠ 115 ∧ t ≠ 108) : ¬ Of (.cells cs t f) := by
  rintro (e | e)
  · exact h.1 e
  · exact h.2 e
theorem hB_of {B : Nat → Prop} {w w' : World} (h : ∀ k, w.heap.size ≤ k → ¬ B k) (hs : w.heap.size ≤ w'.heap.size) : ∀ k, w'.heap.size ≤ k → ¬ B k := fun k hk => h k (by omega)
/-- new blocks alone -/
theorem SX.below (h : SX B w b g D T L gu z) (k : Below w.heap.size w w') : SX B w' b g D T L gu z := by
  obtain ⟨es, cl, h2⟩ := h.mp.typ
  exact ⟨h.sz.below k, h.bt.below k, h.mm.below k, h.fx.below k, h.tb.keep (k.block _ h.tb.lt), h.mp.keep (k.block _ h.mp.lt), h.bl, h.b01, hB_of h.hB k.size, h.lo⟩
/-- a call on the frames -/
theorem SX.frames (h : SX B w b g D T L gu z) {S' : Fs} (hf : FX B w' D S') (t : Tu Of B w w') : SX B w' b g D T L gu ⟨z.m, S', z.x⟩ := by
  obtain ⟨cs, h1, h1'⟩ := h.tb.blk
  obtain ⟨es, cl, h2⟩ := h.mp.typ
  obtain ⟨s, bt⟩ := h.low (P := fun _ => False) (Tn.of_tu t) (fun _ e => e.elim)
  refine ⟨s, bt, h.mm.stay ((t.keep _ _ h.mm.cell (.inr (not_of (by decide)))).trans h.mm.cell.symm) ((t.keep _ _ h.mm.row (.inr (not_of (by decide)))).trans h.mm.row.symm), hf, h.tb.keep ((t.keep _ _ h1 (.inr (not_of (by decide)))).trans h1.symm), h.mp.keep ((t.keep _ _ h2 (.inl h.bl)).trans h2.symm), h.bl, h.b01, hB_of h.hB t.size, h.lo⟩
/-- a call on the memory -/
theorem SX.mem (h : SX B w b g D T L gu z) {m' : List Int} (hm : MM w' b g m') (t : w.grownBy w' (some g)) : SX B w' b g D T L gu ⟨m', z.S, z.x⟩ := by
  obtain ⟨n1, n2, n3, n4, n5⟩ := h.bne
  obtain ⟨s, bt⟩ := h.low (P := fun k => k = g) (Tn.of_grown t rfl) (fun k e => e ▸ h.lo.1)
  have kp := fun k (hk : k < w.heap.size) (e : k ≠ g) => t.block k hk (fun e' => e (by cases e'; rfl))
  exact ⟨s, bt, hm, h.fx.stay fun k o ho hr _ => (kp k (lt_of_heap ho) (fun e => by
      rw [e, h.mm.row] at ho
      cases ho
      exact not_of (by decide) hr)).trans ho, h.tb.keep (kp _ h.tb.lt (Ne.symm n3)), h.mp.keep (kp _ h.mp.lt (Ne.symm n4)), h.bl, h.b01, hB_of h.hB t.size, h.lo⟩
/-- the map of lower tables turned -/
theorem SX.lower (h : SX B w b g D T L gu z) {lo' : Nat → Int} (hm : MapIs w' L (nlo lo') (loM lo')) (t : w.mapTurned w' L) : SX B w' b g D T L gu ⟨z.m, z.S, { z.x with lo := lo' }⟩ := by
  obtain ⟨n1, n2, n3, n4, n5⟩ := h.bne
  obtain ⟨s, bt⟩ := h.low (P := fun k => k = L) (Tn.of_map t rfl) (fun k e => e ▸ h.lo.2.2)
  obtain ⟨es, cl, es', cl', hb, rfl⟩ := t
  have T' := trn_setBlock (fun k => k = L) w L (.map es' cl') rfl
  exact ⟨s, bt, h.mm.stay (T'.block _ h.mm.blt n2) (T'.block _ h.mm.glt n4), h.fx.stay fun k o ho _ hr => (T'.block k (lt_of_heap ho) (fun e => hr (e ▸ h.bl))).trans ho, h.tb.keep (T'.block _ h.tb.lt n5), hm, h.bl, h.b01, hB_of h.hB T'.size, h.lo⟩
/-- the block of the tables turned -/
theorem SX.block (h : SX B w b g D T L gu z) {x' : Tp} (hl : x'.lo = z.x.lo) (ht : TB w' T b D gu L x'.rt (cnt x'.pg)) (t : Trn (fun k => k = T) w w') : SX B w' b g D T L gu ⟨z.m, z.S, x'⟩ := by
  obtain ⟨n1, n2, n3, n4, n5⟩ := h.bne
  obtain ⟨cs, h1, h1'⟩ := h.tb.blk
  obtain ⟨s, bt⟩ := h.low (P := fun k => k = T) (Tn.of_trn t fun _ e => e) (fun k e => e ▸ h.lo.2.1)
  exact ⟨s, bt, h.mm.stay (t.block _ h.mm.blt n1) (t.block _ h.mm.glt n3), h.fx.stay fun k o ho hr _ => (t.block k (lt_of_heap ho) (fun e => by
      rw [e, h1] at ho
      cases ho
      exact not_of (by decide) hr)).trans ho, ht, by rw [show (Zs.mk z.m z.S x').x.lo = z.x.lo from hl]; exact h.mp.keep (t.block _ h.mp.lt (Ne.symm n5)), h.bl, h.b01, hB_of h.hB t.size, h.lo⟩
theorem SX.drew (h : SX B w b g D T L gu z) : SX B w.drew b g D T L gu z := h.below (Below.refl _ _).drew
theorem SX.drewN (h : SX B w b g D T L gu z) (n : Nat) : SX B (w.drewN n) b g D T L gu z := h.below (below_drewN (Below.refl _ _) n)
end
end Go.Proofs.YteghkhdpdeiocaaGreatDoor
