/-
  Blocks that turn; a map from numbers by what it keeps: look-ups, stores, deletions, and a range over it in whatever order.
-/
import Derived.Test.YtgdnklmnchcmeaaRows
import Derived.WalkKit
import Derived.ProofKit
import Derived.OpenShut
import Derived.Deep.QuietTactic
import Derived.BigQuiet
import Derived.Deep.RegionLaw
import Derived.Maps.OwnSet
import Derived.Maps.RangeWalk
import Derived.Lib.MinMax
namespace Go.Proofs.Ytgdnklmnchcmeaa
open Go.RowKit Go.Maps
set_option linter.unusedVariables false
set_option maxRecDepth 100000

theorem ret_bool {a b : Bool} (h : a = b) : Ending.returned (.bool a) = .returned (.bool b) := by rw [h]
theorem ret_int {k : IntKind} {a b : Int} (h : a = b) : Ending.returned (.int k a) = .returned (.int k b) := by rw [h]
theorem bcell {B : Nat} {W w1 : World} (hb : Below B W w1) : (∀ b o, b < B → w1.cell? ⟨b, o, none⟩ = W.cell? ⟨b, o, none⟩) ∧ (∀ b o, b < B → w1.frozen? ⟨b, o, none⟩ = W.frozen? ⟨b, o, none⟩) :=
  ⟨fun b o h => hb.cell (p := ⟨b, o, none⟩) h, fun b o h => hb.frozen (p := ⟨b, o, none⟩) h⟩
theorem lt_of_heap {w : World} {b : Nat} {o : Obj} (h : w.heap[b]? = some o) : b < w.heap.size := (Array.getElem?_eq_some_iff.1 h).1
theorem cell_at {w : World} {b : Nat} {cs : Array Value} {t : TypeId} (h : w.heap[b]? = some (.cells cs t (0, 0))) (o : Nat) : w.cell? ⟨b, o, none⟩ = cs[o]? := by simp [World.cell?, h]
theorem heap_alloc_at (w : World) (o : Obj) : (w.alloc o).heap[w.heap.size]? = some o := by show (w.heap.push o)[w.heap.size]? = _; simp
theorem heap_alloc_past (w : World) (o : Obj) {k : Nat} (h : k < w.heap.size) : (w.alloc o).heap[k]? = w.heap[k]? := by show (w.heap.push o)[k]? = _; simp [Array.getElem?_push, Nat.ne_of_lt h]
theorem gr_keep {w w' : World} {m : Nat} (h : w.grownBy w' (some m)) {k : Nat} (hk : k < w.heap.size) (hm : k ≠ m) : w'.heap[k]? = w.heap[k]? :=
  h.block k hk (fun e => hm (by cases e; rfl))
theorem grown_trans {a b c : World} {r : Option Nat} (h : a.grownBy b r) (k : b.grownBy c r) : a.grownBy c r :=
  ⟨k.os.trans h.os, k.tape.trans h.tape, k.output.trans h.output, Nat.le_trans h.size k.size, fun i hi hr => (k.block i (Nat.lt_of_lt_of_le hi h.size) hr).trans (h.block i hi hr)⟩
theorem grown_of_below {w w' : World} {m : Option Nat} (h : Below w.heap.size w w') : w.grownBy w' m := ⟨h.os, h.tape, h.output, h.size, fun k hk _ => h.block k hk⟩
theorem grown_refl (w : World) (m : Option Nat) : w.grownBy w m := ⟨rfl, rfl, rfl, Nat.le_refl _, fun _ _ _ => rfl⟩
theorem gr_below {B : Nat} {w w' : World} {m : Nat} (h : w.grownBy w' (some m)) (hB : B ≤ m) (hw : B ≤ w.heap.size) : Below B w w' :=
  ⟨h.os, h.tape, h.output, h.size, fun k hk => h.block k (by omega) (fun e => by cases e; omega)⟩

/-- blocks outside S are as they were -/
structure Trn (S : Nat → Prop) (w w' : World) : Prop where
  os : w'.os = w.os
  tape : w'.tape = w.tape
  output : w'.output = w.output
  size : w.heap.size ≤ w'.heap.size
  block : ∀ k, k < w.heap.size → ¬ S k → w'.heap[k]? = w.heap[k]?
theorem Trn.refl (S : Nat → Prop) (w : World) : Trn S w w := ⟨rfl, rfl, rfl, Nat.le_refl _, fun _ _ _ => rfl⟩
theorem Trn.trans {S : Nat → Prop} {a b c : World} (h : Trn S a b) (k : Trn S b c) : Trn S a c :=
  ⟨k.os.trans h.os, k.tape.trans h.tape, k.output.trans h.output, Nat.le_trans h.size k.size, fun i hi hr => (k.block i (Nat.lt_of_lt_of_le hi h.size) hr).trans (h.block i hi hr)⟩
theorem Trn.of_grown {S : Nat → Prop} {a b : World} {m : Nat} (h : a.grownBy b (some m)) (hm : S m) : Trn S a b :=
  ⟨h.os, h.tape, h.output, h.size, fun k hk hs => h.block k hk (fun e => hs (by cases e; exact hm))⟩
theorem Trn.of_below {S : Nat → Prop} {a b : World} (h : Below a.heap.size a b) : Trn S a b :=
  ⟨h.os, h.tape, h.output, h.size, fun k hk hs => h.block k hk⟩
theorem Trn.mono {S T : Nat → Prop} {a b : World} (h : Trn S a b) (hs : ∀ k, k < a.heap.size → S k → T k) : Trn T a b :=
  ⟨h.os, h.tape, h.output, h.size, fun k hk ht => h.block k hk fun e => ht (hs k hk e)⟩
theorem Trn.below {B : Nat} {S : Nat → Prop} {a b : World} (h : Trn S a b) (hB : B ≤ a.heap.size) (hs : ∀ k, S k → B ≤ k) : Below B a b :=
  ⟨h.os, h.tape, h.output, h.size, fun k hk => h.block k (by omega) fun e => by have := hs k e; omega⟩
theorem Trn.drew {S : Nat → Prop} {a b : World} (h : Trn S a b) : Trn S a b.drew := ⟨h.os, h.tape, h.output, h.size, h.block⟩
theorem ne_typ {w : World} {a b : Nat} {c d : Array Value} {s t : TypeId} (h : w.heap[a]? = some (.cells c s (0, 0))) (k : w.heap[b]? = some (.cells d t (0, 0))) (hn : s ≠ t) : a ≠ b := fun e => by
  subst e
  rw [h] at k
  cases k
  exact hn rfl
theorem heap_setCell {w : World} {b : Nat} {cs : Array Value} {t : TypeId} (h : w.heap[b]? = some (.cells cs t (0, 0))) (o : Nat) (v : Value) : (w.setCell ⟨b, o, none⟩ v).heap[b]? = some (.cells (cs.setIfInBounds o v) t (0, 0)) := by
  rw [setCell_eq_setRow w b o cs t (0, 0) v h]
  exact setRow_heap w b cs _ t _ h
theorem trn_setCell {S : Nat → Prop} {w : World} {b : Nat} {cs : Array Value} {t : TypeId} (h : w.heap[b]? = some (.cells cs t (0, 0))) (hS : S b) (o : Nat) (v : Value) : Trn S w (w.setCell ⟨b, o, none⟩ v) := by
  rw [setCell_eq_setRow w b o cs t (0, 0) v h]
  exact ⟨rfl, rfl, rfl, by simp [World.setRow], fun k hk hne => setRow_other w b k _ (fun e => hne (by rw [e]; exact hS))⟩
theorem trn_setRow {S : Nat → Prop} (w : World) (b : Nat) (hS : S b) (cs : Array Value) : Trn S w (w.setRow b cs) :=
  ⟨rfl, rfl, rfl, by simp [World.setRow], fun k hk hne => setRow_other w b k _ (fun e => hne (by rw [e]; exact hS))⟩
theorem below_setRow' {B : Nat} (w : World) (b : Nat) (hB : B ≤ b) (cs : Array Value) : Below B w (w.setRow b cs) :=
  ⟨rfl, rfl, rfl, by simp [World.setRow], fun k hk => setRow_other w b k _ (by omega)⟩
theorem below_box (w : World) (o : Obj) : Below w.heap.size w (w.alloc o) := (Below.refl _ _).alloc (Nat.le_refl _) _
theorem fz_at {w : World} {b : Nat} {cs : Array Value} {t : TypeId} (h : w.heap[b]? = some (.cells cs t (0, 0))) (o : Nat) : w.frozen? ⟨b, o, none⟩ = false := by simp [World.frozen?, h]
theorem lt_cell {w : World} {b o : Nat} {v : Value} (h : w.cell? ⟨b, o, none⟩ = some v) : b < w.heap.size := World.block_lt_of_cell? w ⟨b, o, none⟩ h
theorem trn_set1 {w : World} {b : Nat} {cs : Array Value} {t : TypeId} (h : w.heap[b]? = some (.cells cs t (0, 0))) (o : Nat) (v : Value) : Trn (fun k => k = b) w (w.setCell ⟨b, o, none⟩ v) := trn_setCell (S := fun k => k = b) h rfl o v


theorem law : Keyed Try.prog 3 := int_keyed Try.underlying3
/-- a number that is a key -/
def KW (k : Int) : Prop := (Lit.int .i64 k).wf = true
theorem key_of (k : Int) (h : KW k) : keyOf Try.prog 3 (.int .i64 k) = some (.int .i64 k) := keyOf_int_mk Try.underlying3 h
theorem kl_ne {p q : Int} (h : ¬ q = p) : Lit.int .i64 q ≠ Lit.int .i64 p := fun e => h (by cases e; rfl)
/-- an element reads as itself -/
def RV (v : Value) : Option (DataW Value × List MemPlace) := some (.held v, [])
/-- what a map keeps: D by M -/
structure KD (D : DataW Value) (M : Int → Option Value) : Prop where
  at_ : ∀ k, KW k → Maps.has D (.int .i64 k) = (M k).isSome ∧ ∀ z, D.atKey (.int .i64 k) (.held z) = .held ((M k).getD z)
/-- block m is a map of N entries, that keeps M -/
def MapIs (w : World) (m N : Nat) (M : Int → Option Value) : Prop := ∃ D, w.ownsMap Try.prog 3 RV m N D ∧ Maps.size D = N ∧ KD D M
/-- a function turned at one place -/
def upd (M : Int → Option Value) (p : Int) (v : Option Value) : Int → Option Value := fun q => if q = p then v else M q
theorem MapIs.lt {w : World} {m N : Nat} {M : Int → Option Value} (h : MapIs w m N M) : m < w.heap.size := by
  obtain ⟨D, ho, _⟩ := h
  exact ho.lt
theorem MapIs.typ {w : World} {m N : Nat} {M : Int → Option Value} (h : MapIs w m N M) : ∃ es clock, w.heap[m]? = some (.map es clock) := by
  obtain ⟨D, ⟨es, clock, hb, r⟩, h2⟩ := h
  exact ⟨es, clock, hb⟩
theorem MapIs.keep {w w' : World} {m N : Nat} {M : Int → Option Value} (h : MapIs w m N M) (hk : w'.heap[m]? = w.heap[m]?) : MapIs w' m N M := by
  obtain ⟨D, ⟨es, clock, hb, r⟩, h2⟩ := h
  exact ⟨D, ⟨es, clock, hk.trans hb, r⟩, h2⟩
theorem MapIs.congr {w : World} {m N N' : Nat} {M M' : Int → Option Value} (h : MapIs w m N M) (hn : N = N') (hM : ∀ n, M n = M' n) : MapIs w m N' M' := by
  subst hn
  obtain rfl : M = M' := funext hM
  exact h
theorem MapIs.new (w : World) : MapIs (w.alloc (.map #[] 0)) w.heap.size 0 (fun _ => none) :=
  ⟨_, World.ownsMap_made w _ _ _, rfl, ⟨fun p hp => ⟨rfl, fun z => rfl⟩⟩⟩
theorem owns_size {w : World} {m n : Nat} {D : DataW Value} (h : w.ownsMap Try.prog 3 RV m n D) : w.ownsMap Try.prog 3 RV m (Maps.size D) D := by
  obtain ⟨es, clock, hb, F, hs, rfl⟩ := h
  exact ⟨es, clock, hb, F, by simp [Maps.size, length_sorted], rfl⟩
section
variable {t e : TypeId} {zv : Value} {w : World} {m N : Nat} {M : Int → Option Value}
theorem look_run (hu : Try.prog.underlying t = some (.map 3 e)) (hz : (zeroValue e).run Try.prog w = .ok zv w) (h : MapIs w m N M) (k : Int) (hk : KW k) :
    (Instr.lookup t (.map (some m)) (.int .i64 k) false).run Try.prog w = .ok ((M k).getD zv) w := by
  obtain ⟨D, ho, _, h2⟩ := h
  obtain ⟨h3, h4⟩ := h2.at_ k hk
  obtain ⟨v, ps, hrun, hv⟩ := ho.lookup law hu hz (show RV zv = some (.held zv, []) from rfl) (key_of k hk)
  rw [h4 zv] at hv
  simp [RV] at hv
  rw [hrun, hv.1]
theorem look_ok (hu : Try.prog.underlying t = some (.map 3 e)) (hz : (zeroValue e).run Try.prog w = .ok zv w) (h : MapIs w m N M) (k : Int) (hk : KW k) :
    (Instr.lookup t (.map (some m)) (.int .i64 k) true).run Try.prog w = .ok (.tuple #[(M k).getD zv, .bool (M k).isSome]) w := by
  obtain ⟨D, ho, _, h2⟩ := h
  obtain ⟨h3, h4⟩ := h2.at_ k hk
  obtain ⟨v, ps, hrun, hv⟩ := ho.look_ok law hu hz (show RV zv = some (.held zv, []) from rfl) (key_of k hk)
  rw [h4 zv] at hv
  simp [RV] at hv
  rw [hrun, h3, hv.1]
theorem KD.del {D : DataW Value} (h : KD D M) (p : Int) : KD (D.del (.int .i64 p)) (upd M p none) := ⟨fun q hq => by
  unfold upd
  by_cases e : q = p
  · subst e
    simp only [if_true]
    exact ⟨Maps.has_del_same, fun z => Maps.atKey_del_same _⟩
  · rw [if_neg e]
    exact ⟨(Maps.has_del_other (kl_ne e)).trans (h.at_ q hq).1, fun z => (Maps.atKey_del_other (kl_ne e) _).trans ((h.at_ q hq).2 z)⟩⟩
theorem drop_run (hu : Try.prog.underlying t = some (.map 3 e)) (h : MapIs w m N M) (p : Int) (hp : KW p) (ty : TypeId) :
    ∃ w', (Builtin.delete_ #[t, 3] ty #[.map (some m), .int .i64 p]).run Try.prog w = .ok (.tuple #[]) w' ∧ MapIs w' m (if (M p).isSome then N - 1 else N) (upd M p none) ∧ w.mapTurned w' m := by
  obtain ⟨D, ho, hs, h2⟩ := h
  obtain ⟨w', hrun, ho', ht⟩ := ho.drop law hu (key_of p hp) ty
  have hsz := Maps.size_del (k := .int .i64 p) (ho.tidy law)
  rw [(h2.at_ p hp).1, hs] at hsz
  have hs' : Maps.size (D.del (.int .i64 p)) = if (M p).isSome then N - 1 else N := by
    split at hsz
    · rw [if_pos (by assumption)]; omega
    · rw [if_neg (by assumption)]; omega
  exact ⟨w', hrun, ⟨_, hs' ▸ owns_size ho', hs', h2.del p⟩, ht⟩
theorem store_run (hu : Try.prog.underlying t = some (.map 3 e)) (h : MapIs w m N M) (p : Int) (hp : KW p) (v : Value) (hN : N < maxLen) :
    ∃ w', (Instr.mapUpdate t (.map (some m)) (.int .i64 p) v).run Try.prog w = .ok () w' ∧ MapIs w' m (if (M p).isSome then N else N + 1) (upd M p (some v)) ∧ w.mapTurned w' m := by
  obtain ⟨D, ho, hs, h2⟩ := h
  obtain ⟨w', hrun, ho', ht⟩ := ho.store law hu hN (key_of p hp) (show RV v = some (.held v, []) from rfl)
  have hsz := Maps.size_put (k := .int .i64 p) (ho.tidy law) (.held v)
  rw [(h2.at_ p hp).1, hs] at hsz
  refine ⟨w', hrun, ⟨_, hsz ▸ owns_size ho', hsz, ⟨fun q hq => ?_⟩⟩, ht⟩
  have hk := law.key (key_of p hp)
  unfold upd
  by_cases e : q = p
  · subst e
    simp only [if_true]
    exact ⟨Maps.has_put_same ho.isMap hk _, fun z => Maps.atKey_put_same ho.isMap hk _ _⟩
  · rw [if_neg e]
    exact ⟨(Maps.has_put_other (kl_ne e) _).trans (h2.at_ q hq).1, fun z => (Maps.atKey_put_other (kl_ne e) _ _).trans ((h2.at_ q hq).2 z)⟩
end
/-- a range over map m, its iterator in block r: what the map keeps, who is still to come, how many these are -/
def Rg (w : World) (m r : Nat) (M : Int → Option Value) (left : Int → Bool) (cnt : Nat) : Prop :=
  ∃ n D lf, w.ranges Try.prog 3 RV m r n D lf cnt ∧ KD D M ∧ ∀ k, KW k → lf (.int .i64 k) = left k
theorem Rg.keep {w w' : World} {m r : Nat} {M : Int → Option Value} {left : Int → Bool} {cnt : Nat} {row : Option Nat} (h : Rg w m r M left cnt) (hg : w.grownBy w' row) (h1 : some m ≠ row) (h2 : some r ≠ row) : Rg w' m r M left cnt := by
  obtain ⟨n, D, lf, hr, hD, hl⟩ := h
  exact ⟨n, D, lf, hr.kept hg h1 h2, hD, hl⟩
theorem Rg.lt {w : World} {m r : Nat} {M : Int → Option Value} {left : Int → Bool} {cnt : Nat} (h : Rg w m r M left cnt) : r < w.heap.size ∧ m < w.heap.size := by
  obtain ⟨n, D, lf, hr, hD, hl⟩ := h
  exact ⟨hr.lt, hr.owns.lt⟩
theorem Rg.left_eq {w : World} {m r : Nat} {M : Int → Option Value} {left : Int → Bool} {cnt : Nat} (h : Rg w m r M left cnt) : w.rangeLeft m r = cnt := by
  obtain ⟨n, D, lf, hr, hD, hl⟩ := h
  exact hr.left_eq
theorem Rg.typ {w : World} {m r : Nat} {M : Int → Option Value} {left : Int → Bool} {cnt : Nat} (h : Rg w m r M left cnt) : (∃ es clock, w.heap[m]? = some (.map es clock)) ∧ ∃ a b c d, w.heap[r]? = some (.mapIter a b c d) := by
  obtain ⟨n, D, lf, ⟨es, clock, since, seen, c0, hb, F, hs, hD, hr, rest⟩, _⟩ := h
  exact ⟨⟨es, clock, hb⟩, ⟨_, _, _, _, hr⟩⟩
/-- the map behind the range -/
theorem Rg.map {w : World} {m r : Nat} {M : Int → Option Value} {left : Int → Bool} {cnt : Nat} (h : Rg w m r M left cnt) : ∃ N, MapIs w m N M := by
  obtain ⟨n, D, lf, hr, hD, hl⟩ := h
  exact ⟨_, D, owns_size hr.owns, rfl, hD⟩
theorem range_run {t e : TypeId} {w : World} {m N : Nat} {M : Int → Option Value} (hu : Try.prog.underlying t = some (.map 3 e)) (h : MapIs w m N M) :
    ∃ w', (Instr.range t (.map (some m))).run Try.prog w = .ok (.pointer (some ⟨w.heap.size, 0, none⟩)) w' ∧ Rg w' m w.heap.size M (fun k => (M k).isSome) N ∧ w.grownBy w' none ∧ w'.heap.size = w.heap.size + 1 := by
  obtain ⟨D, ho, hs, h2⟩ := h
  obtain ⟨w', hrun, hr, hg, hsz⟩ := ho.range law hu
  exact ⟨w', hrun, ⟨N, D, _, hs ▸ hr, h2, fun k hk => (h2.at_ k hk).1⟩, hg, hsz⟩
theorem same_int (a b : Int) : (Lit.int .i64 a).sameKey (Lit.int .i64 b) = (a == b) := by
  by_cases e : a = b
  · subst e
    simp [Lit.sameKey]
  · rw [Maps.sameKey_ne (kl_ne e)]
    simp [e]
theorem next_run {w : World} {m r : Nat} {M : Int → Option Value} {left : Int → Bool} {cnt : Nat} (h : Rg w m r M left cnt) (ty : TypeId) :
    (cnt = 0 ∧ (∀ k, KW k → left k = false) ∧ (Instr.next (.pointer (some ⟨r, 0, none⟩)) false ty).run Try.prog w = .ok (.tuple #[.bool false]) w) ∨
    ∃ k v w' cnt', KW k ∧ left k = true ∧ M k = some v ∧ (Instr.next (.pointer (some ⟨r, 0, none⟩)) false ty).run Try.prog w = .ok (.tuple #[.bool true, .int .i64 k, v]) w' ∧
      Rg w' m r M (fun z => left z && !(z == k)) cnt' ∧ cnt' < cnt ∧ w.grownBy w' (some r) ∧ w'.heap.size = w.heap.size ∧ (Instr.entry (.pointer (some ⟨r, 0, none⟩))).run Try.prog w' = .ok (.tuple #[.int .i64 k, v]) w' := by
  obtain ⟨n, D, lf, hr, hD, hl⟩ := h
  rcases hr.next law ty with ⟨h0, h1, h2⟩ | ⟨key, v, kl, y, w', cnt', hkey, hlk, hy, hat, hrun, hr', hlt, hg, hsz, hen⟩
  · exact .inl ⟨h0, fun k hk => by rw [← hl k hk]; exact h1 _, h2⟩
  · obtain ⟨k, rfl, rfl, hk⟩ := Maps.keyOf_int_inv Try.underlying3 hkey
    have hk' : KW k := hk
    simp [RV] at hy
    subst hy
    have hM : M k = some v := by
      cases hq : M k with
      | none =>
        have a1 := (hD.at_ k hk').2 (.bool true)
        have a2 := (hD.at_ k hk').2 (.bool false)
        rw [hat, hq] at a1 a2
        simp at a1 a2
        rw [a1] at a2
        cases a2
      | some u =>
        have a1 := (hD.at_ k hk').2 (.bool true)
        rw [hat, hq] at a1
        simp at a1
        rw [a1]
    refine .inr ⟨k, v, w', cnt', hk', by rw [← hl k hk']; exact hlk, hM, hrun, ⟨n, D, _, hr', hD, fun z hz => ?_⟩, hlt, hg, hsz, hen⟩
    show (lf _ && !(Lit.int .i64 z).sameKey _) = _
    rw [hl z hz, same_int]
theorem rdrop_run {t e : TypeId} {w : World} {m r : Nat} {M : Int → Option Value} {left : Int → Bool} {cnt : Nat} (hu : Try.prog.underlying t = some (.map 3 e)) (h : Rg w m r M left cnt) (p : Int) (hp : KW p) (ty : TypeId) :
    ∃ w' cnt', (Builtin.delete_ #[t, 3] ty #[.map (some m), .int .i64 p]).run Try.prog w = .ok (.tuple #[]) w' ∧ Rg w' m r (upd M p none) (fun z => left z && !(z == p)) cnt' ∧ cnt' ≤ cnt ∧ w.mapTurned w' m := by
  obtain ⟨n, D, lf, hr, hD, hl⟩ := h
  obtain ⟨w', cnt', hrun, hr', hc, ht⟩ := hr.drop law hu (key_of p hp) ty
  refine ⟨w', cnt', hrun, ⟨n, _, _, hr', hD.del p, fun z hz => ?_⟩, hc, ht⟩
  show (lf _ && !(Lit.int .i64 z).sameKey _) = _
  rw [hl z hz, same_int]
theorem len_le_of_sub : ∀ (l K : List Int), l.Nodup → (∀ x ∈ l, x ∈ K) → l.length ≤ K.length
  | [], K, _, _ => by simp
  | a :: r, K, hn, hs => by
    obtain ⟨h1, h2⟩ := List.nodup_cons.1 hn
    have ha := hs a (by simp)
    have := len_le_of_sub r (K.erase a) h2 fun x hx => (List.mem_erase_of_ne (fun e => h1 (by rw [← e]; exact hx))).2 (hs x (by simp [hx]))
    rw [List.length_erase_of_mem ha] at this
    have hp : 0 < K.length := List.length_pos_of_mem ha
    simp only [List.length_cons]
    omega
def knum (v : Value) : Int := match v with | .int _ n => n | _ => 0
/-- a map has no more entries than keys that it may keep -/
theorem MapIs.le {w : World} {m N : Nat} {M : Int → Option Value} (h : MapIs w m N M) (K : List Int) (hK : ∀ k, KW k → (M k).isSome = true → k ∈ K) : N ≤ K.length := by
  obtain ⟨D, ⟨es, clock, hb, F, hs, rfl⟩, hsz, hD⟩ := h
  have e : N = (es.toList.map fun x => knum x.key).length := by
    rw [← hsz]
    simp [Maps.size, length_sorted]
  have hst := ((MapKept.stamped_iff es clock).1 F.stamped).2.2
  have hkey : ∀ x ∈ es.toList, ∃ z, KW z ∧ x.key = .int .i64 z ∧ Maps.has (DataW.map ((es.toList.map (WideElems.rg Try.prog 3 RV)).foldr DataW.insert [])) (.int .i64 z) = true := fun x hx => by
    obtain ⟨y, hy⟩ := F.reads x hx
    have h1 := WideElems.rd_key hy
    obtain ⟨z, hz, hl, hw⟩ := Maps.keyOf_int_inv Try.underlying3 h1
    refine ⟨z, hw, hz, List.any_eq_true.2 ⟨WideElems.rg Try.prog 3 RV x, mem_sorted.2 (List.mem_map.2 ⟨x, hx, rfl⟩), ?_⟩⟩
    rw [WideElems.rg_of hy, ← hl]
    exact WideAt.sameKey_self (law.key h1)
  rw [e]
  refine len_le_of_sub _ _ ?_ fun k hk => ?_
  · refine List.pairwise_map.2 (hst.imp_of_mem fun {a b} ha hb hne he => hne ?_)
    obtain ⟨z1, _, e1, _⟩ := hkey a ha
    obtain ⟨z2, _, e2, _⟩ := hkey b hb
    rw [e1, e2] at he ⊢
    simp [knum] at he
    rw [he]
  · obtain ⟨x, hx, rfl⟩ := List.mem_map.1 hk
    obtain ⟨z, hz, e1, h1⟩ := hkey x hx
    rw [e1]
    exact hK z hz (by rw [← (hD.at_ z hz).1]; exact h1)
end Go.Proofs.Ytgdnklmnchcmeaa
