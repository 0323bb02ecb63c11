/-
  The map of a cache by what it keeps at each place: look-ups, stores and deletions.
-/
import Derived.Test.YtgafdbamlmaifaaBase
import Derived.Maps.OwnSet
import Derived.Maps.AppendAt
import Derived.DeepKeys5
namespace Go.Proofs.Ytgafdbamlmaifaa.S
open Go.RowKit Go.Maps
set_option linter.unusedVariables false
set_option maxRecDepth 20000

/-- a key, as a value -/
abbrev Key := ByteArray
def kv (k : Key) : Value := .string k
def KW (k : Key) : Prop := k.size ≤ maxLen
/-- the zero value of what is kept -/
def zv : Value := .agg #[.int .i64 0, .int .i64 0]
theorem zeroE (w : World) : (zeroValue 54).run Try.prog w = .ok zv w := by kernel_rfl

/-- a place: a group and a key -/
structure Pl where
  g : Int
  k : Key
deriving DecidableEq
structure Pl.W (p : Pl) : Prop where
  g : (Lit.int .i64 p.g).wf = true
  k : KW p.k
def pv (p : Pl) : Value := .agg #[.int .i64 p.g, kv p.k]

theorem isStruct : ∃ fs, Try.prog.underlying 82 = some (.struct fs) := ⟨_, Try.underlying82⟩
theorem keyType : Try.prog.keyType 82 = true := by kernel_rfl
theorem wide : (match Try.prog.underlying 82 with | some (.array _ _) | some (.struct _) => true | _ => false) = true := by kernel_rfl
theorem laidOut : laidOutB Try.prog = true := by kernel_rfl
theorem law : Keyed Try.prog 82 := Keyed.of_law (deep_law_laid laidOut (m := 3) (by omega) (of_decide_eq_true (by kernel_rfl)) (by kernel_rfl) wide)
/-- what a place reads as -/
noncomputable def kl (p : Pl) : Lit := (keyOf Try.prog 82 (pv p)).getD (.bool false)
theorem size_pos : ∃ n, Try.prog.types.size = n + 1 := ⟨Try.prog.types.size - 1, by
  have h : 0 < Try.prog.types.size := of_decide_eq_true (by kernel_rfl)
  omega⟩
theorem key_some (p : Pl) (h : p.W) : ∃ l, keyOf Try.prog 82 (pv p) = some l := by
  obtain ⟨n, hn⟩ := size_pos
  have wg := h.g
  have wk : p.k.size ≤ maxLen := h.k
  have c68 : Try.prog.cellsOf 82 = 2 := by kernel_rfl
  have c3 : Try.prog.cellsOf 3 = 1 := by kernel_rfl
  have c27 : Try.prog.cellsOf 9 = 1 := by kernel_rfl
  unfold keyOf
  simp only [Try.underlying82, keyType, Bool.true_and]
  have hf : (pv p).formed Try.prog 82 = true := by
    simp [Value.formed, Try.underlying82, c68, pv]
  rw [if_pos hf, hn]
  simp [Program.keyLits, Try.underlying82, Try.underlying3, Try.underlying9, c68, c3, c27, pv, kv, Value.cells, wg, wk]
theorem key_of (p : Pl) (h : p.W) : keyOf Try.prog 82 (pv p) = some (kl p) := by
  obtain ⟨l, hl⟩ := key_some p h
  simp [kl, hl]
theorem pv_inj {p q : Pl} (h : pv p = pv q) : p = q := by
  obtain ⟨g, k⟩ := p
  obtain ⟨g', k'⟩ := q
  simp [pv, kv] at h
  simp [h]
theorem kl_inj {p q : Pl} (hp : p.W) (hq : q.W) (h : kl p = kl q) : p = q :=
  pv_inj (law.inj (key_of p hp) (by rw [h]; exact key_of q hq))

/-- an element reads as itself -/
def RV (v : Value) : Option (DataW Value × List MemPlace) := some (.held v, [])
/-- block m is a map of N entries, that keeps M -/
def MapIs (w : World) (m N : Nat) (M : Pl → Option Value) : Prop :=
  ∃ D, w.ownsMap Try.prog 82 RV m N D ∧ Maps.size D = N ∧ ∀ p : Pl, p.W → Maps.has D (kl p) = (M p).isSome ∧ ∀ z, D.atKey (kl p) (.held z) = .held ((M p).getD z)
def upd (M : Pl → Option Value) (p : Pl) (v : Option Value) : Pl → Option Value := fun q => if q = p then v else M q

theorem MapIs.lt {w : World} {m N : Nat} {M : Pl → Option Value} (h : MapIs w m N M) : m < w.heap.size := by
  obtain ⟨D, ho, _⟩ := h
  exact ho.lt
theorem MapIs.keep {w w' : World} {m N : Nat} {M : Pl → Option Value} (h : MapIs w m N M) (hk : w'.heap[m]? = w.heap[m]?) : MapIs w' m N M := by
  obtain ⟨D, ⟨es, clock, hb, r⟩, h2⟩ := h
  exact ⟨D, ⟨es, clock, hk.trans hb, r⟩, h2⟩
theorem MapIs.new (w : World) : MapIs (w.alloc (.map #[] 0)) w.heap.size 0 (fun _ => none) :=
  ⟨_, World.ownsMap_made w _ _ _, rfl, fun p hp => ⟨rfl, fun z => rfl⟩⟩
theorem owns_size {w : World} {m n : Nat} {D : DataW Value} (h : w.ownsMap Try.prog 82 RV m n D) : w.ownsMap Try.prog 82 RV m (Maps.size D) D := by
  obtain ⟨es, clock, hb, F, hs, rfl⟩ := h
  exact ⟨es, clock, hb, F, by simp [Maps.size, length_sorted], rfl⟩

theorem look_run {w : World} {m N : Nat} {M : Pl → Option Value} (h : MapIs w m N M) (p : Pl) (hp : p.W) :
    (Instr.lookup 77 (.map (some m)) (pv p) true).run Try.prog w = .ok (.tuple #[(M p).getD zv, .bool (M p).isSome]) w := by
  obtain ⟨D, ho, _, h2⟩ := h
  obtain ⟨h3, h4⟩ := h2 p hp
  obtain ⟨v, ps, hrun, hv⟩ := ho.look_ok law Try.underlying77 (zeroE w) (show RV zv = some (.held zv, []) from rfl) (key_of p hp)
  rw [h4 zv] at hv
  simp [RV] at hv
  rw [hrun, h3, hv.1]
theorem drop_run {w : World} {m N : Nat} {M : Pl → Option Value} (h : MapIs w m N M) (p : Pl) (hp : p.W) (ty : TypeId) :
    ∃ w', (Builtin.delete_ #[77, 82] ty #[.map (some m), pv p]).run Try.prog w = .ok (.tuple #[]) w' ∧ MapIs w' m (if (M p).isSome then N - 1 else N) (upd M p none) ∧ w.mapTurned w' m := by
  obtain ⟨D, ho, hs, h2⟩ := h
  obtain ⟨w', hrun, ho', ht⟩ := ho.drop law Try.underlying77 (key_of p hp) ty
  have hsz := Maps.size_del (k := kl p) (ho.tidy law)
  rw [(h2 p hp).1, hs] at hsz
  have hs' : Maps.size (D.del (kl p)) = if (M p).isSome then N - 1 else N := by
    split at hsz
    · rw [if_pos (by assumption)]; omega
    · rw [if_neg (by assumption)]; omega
  refine ⟨w', hrun, ⟨_, hs' ▸ owns_size ho', hs', fun q hq => ?_⟩, ht⟩
  unfold upd
  by_cases e : q = p
  · subst e
    simp only [if_true]
    exact ⟨Maps.has_del_same, fun z => Maps.atKey_del_same _⟩
  · rw [if_neg e]
    have hne : kl q ≠ kl p := fun h => e (kl_inj hq hp h)
    exact ⟨(Maps.has_del_other hne).trans (h2 q hq).1, fun z => (Maps.atKey_del_other hne _).trans ((h2 q hq).2 z)⟩
theorem store_run {w : World} {m N : Nat} {M : Pl → Option Value} (h : MapIs w m N M) (p : Pl) (hp : p.W) (v : Value) (hN : N < maxLen) :
    ∃ w', (Instr.mapUpdate 77 (.map (some m)) (pv p) v).run Try.prog w = .ok () w' ∧ MapIs w' m (if (M p).isSome then N else N + 1) (upd M p (some v)) ∧ w.mapTurned w' m := by
  obtain ⟨D, ho, hs, h2⟩ := h
  obtain ⟨w', hrun, ho', ht⟩ := ho.store law Try.underlying77 hN (key_of p hp) (show RV v = some (.held v, []) from rfl)
  have hsz := Maps.size_put (k := kl p) (ho.tidy law) (.held v)
  rw [(h2 p hp).1, hs] at hsz
  refine ⟨w', hrun, ⟨_, hsz ▸ owns_size ho', hsz, fun q hq => ?_⟩, ht⟩
  have hk := law.key (key_of p hp)
  unfold upd
  by_cases e : q = p
  · subst e
    simp only [if_true]
    exact ⟨Maps.has_put_same ho.isMap hk _, fun z => Maps.atKey_put_same ho.isMap hk _ _⟩
  · rw [if_neg e]
    have hne : kl q ≠ kl p := fun h => e (kl_inj hq hp h)
    exact ⟨(Maps.has_put_other hne _).trans (h2 q hq).1, fun z => (Maps.atKey_put_other hne _ _).trans ((h2 q hq).2 z)⟩
end Go.Proofs.Ytgafdbamlmaifaa.S
