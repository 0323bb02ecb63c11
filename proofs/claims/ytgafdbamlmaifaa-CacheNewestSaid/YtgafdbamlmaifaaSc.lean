/-
  The order of a cache: a slice of places; one more place, and one place less at its head.
-/
import Derived.Test.YtgafdbamlmaifaaSb
import Derived.Deep.RegionLaw
namespace Go.Proofs.Ytgafdbamlmaifaa.S
open Go.RowKit Go.Maps
set_option linter.unusedVariables false
set_option maxRecDepth 20000

def p0 : Pl := ⟨0, ByteArray.empty⟩
def pc (p : Pl) : List Value := [.int .i64 p.g, kv p.k]
/-- block g has room for c places; the first n of them are F -/
def Row (w : World) (g c n : Nat) (F : Nat → Pl) : Prop :=
  ∃ cur : Array Value, w.heap[g]? = some (.cells cur 82 (0, 0)) ∧ cur.size = c * 2 ∧ n ≤ c ∧ c ≤ maxLen ∧ ∀ i, i < n → cur[i * 2]? = some (.int .i64 (F i).g) ∧ cur[i * 2 + 1]? = some (kv (F i).k)
/-- the order: these places -/
def Ord (B : Nat) (w : World) (v : Value) (os : List Pl) : Prop :=
  (v = .slice none 0 0 ∧ os = []) ∨ ∃ g c, v = .slice (some ⟨g, 0, none⟩) os.length c ∧ B ≤ g ∧ Row w g c os.length (fun i => os.getD i p0)

theorem Row.lt {w : World} {g c n : Nat} {F : Nat → Pl} (h : Row w g c n F) : g < w.heap.size := by
  obtain ⟨cur, h, _⟩ := h
  exact lt_of_heap h
theorem Row.keep {w w' : World} {g c n : Nat} {F : Nat → Pl} (h : Row w g c n F) (hk : w'.heap[g]? = w.heap[g]?) : Row w' g c n F := by
  obtain ⟨cur, h, r⟩ := h
  exact ⟨cur, hk.trans h, r⟩
theorem Row.congr {w : World} {g c n : Nat} {F G : Nat → Pl} (h : Row w g c n F) (e : ∀ i, i < n → F i = G i) : Row w g c n G := by
  obtain ⟨cur, h, h1, h2, h3, h4⟩ := h
  exact ⟨cur, h, h1, h2, h3, fun i hi => e i hi ▸ h4 i hi⟩
theorem Row.le {w : World} {g c n k : Nat} {F : Nat → Pl} (h : Row w g c n F) (hk : k ≤ n) : Row w g c k F := by
  obtain ⟨cur, h, h1, h2, h3, h4⟩ := h
  exact ⟨cur, h, h1, by omega, h3, fun i hi => h4 i (by omega)⟩
theorem Row.c0 {w : World} {g c n : Nat} {F : Nat → Pl} (h : Row w g c n F) (i : Nat) (hi : i < n) : w.cell? ⟨g, i * 2, none⟩ = some (.int .i64 (F i).g) := by
  obtain ⟨cur, h, h1, h2, h3, h4⟩ := h
  simp [World.cell?, h, (h4 i hi).1]
theorem Row.c1 {w : World} {g c n : Nat} {F : Nat → Pl} (h : Row w g c n F) (i : Nat) (hi : i < n) : w.cell? ⟨g, i * 2 + 1, none⟩ = some (kv (F i).k) := by
  obtain ⟨cur, h, h1, h2, h3, h4⟩ := h
  simp [World.cell?, h, (h4 i hi).2]
theorem Row.fz {w : World} {g c n : Nat} {F : Nat → Pl} (h : Row w g c n F) (i : Nat) : w.frozen? ⟨g, i, none⟩ = false := by
  obtain ⟨cur, h, h1, h2, h3, h4⟩ := h
  simp [World.frozen?, h]
theorem Row.cap {w : World} {g c n : Nat} {F : Nat → Pl} (h : Row w g c n F) : n ≤ c ∧ c ≤ maxLen := by
  obtain ⟨cur, h, h1, h2, h3, h4⟩ := h
  exact ⟨h2, h3⟩
theorem Ord.keep {B : Nat} {w w' : World} {v : Value} {os : List Pl} (h : Ord B w v os) (hk : ∀ k, v.ownBlock = some k → w'.heap[k]? = w.heap[k]?) : Ord B w' v os := by
  rcases h with h | ⟨g, c, rfl, hB, hr⟩
  · exact .inl h
  · exact .inr ⟨g, c, rfl, hB, hr.keep (hk g rfl)⟩
theorem Ord.lt {B : Nat} {w : World} {v : Value} {os : List Pl} (h : Ord B w v os) (k : Nat) (hk : v.ownBlock = some k) : B ≤ k ∧ k < w.heap.size := by
  rcases h with ⟨rfl, _⟩ | ⟨g, c, rfl, hB, hr⟩
  · cases hk
  · cases hk
    exact ⟨hB, hr.lt⟩

theorem heap_alloc_at (w : World) (o : Obj) : (w.alloc o).heap[w.heap.size]? = some o := by show (w.heap.push o)[w.heap.size]? = _; simp
theorem heap_alloc_past (w : World) (o : Obj) {k : Nat} (h : k < w.heap.size) : (w.alloc o).heap[k]? = w.heap[k]? := by show (w.heap.push o)[k]? = _; simp [Array.getElem?_push, Nat.ne_of_lt h]
theorem flat2 : ∀ (ls : List Pl) (k j : Nat) (hk : k < ls.length), j < 2 → (ls.flatMap pc)[k * 2 + j]? = (pc ls[k])[j]?
  | s :: r, 0, j, hk, hj => by
    simp only [List.flatMap_cons, Nat.zero_mul, Nat.zero_add, List.getElem_cons_zero]
    exact List.getElem?_append_left hj
  | s :: r, k + 1, j, hk, hj => by
    simp only [List.flatMap_cons, List.getElem_cons_succ]
    have h9 : (pc s).length = 2 := rfl
    rw [List.getElem?_append_right (by omega), h9, show (k + 1) * 2 + j - 2 = k * 2 + j by omega]
    exact flat2 r k j (by simpa using hk) hj
theorem len2 (ls : List Pl) : (ls.flatMap pc).length = ls.length * 2 := by
  induction ls with
  | nil => rfl
  | cons s r ih => simp only [List.flatMap_cons, List.length_append, ih, List.length_cons]; simp [pc]; omega
theorem Ord.row {B : Nat} {w : World} {v : Value} {os : List Pl} (h : Ord B w v os) : w.ownsRow B 82 2 v os.length (os.flatMap pc) := by
  refine ⟨len2 os, ?_⟩
  rcases h with ⟨rfl, rfl⟩ | ⟨g, c, rfl, hB, cur, h, h1, h2, h3, h4⟩
  · exact .inl ⟨rfl, rfl⟩
  · refine .inr ⟨g, c, cur, rfl, hB, h, h2, h3, h1, ?_⟩
    apply List.ext_getElem?
    intro i
    by_cases hi : i < os.length * 2
    · have e : i = i / 2 * 2 + i % 2 := by omega
      have hk : i / 2 < os.length := by omega
      rw [List.getElem?_take_of_lt hi, e, flat2 os (i / 2) (i % 2) hk (by omega)]
      obtain ⟨q0, q1⟩ := h4 (i / 2) hk
      simp only [List.getD, List.getElem?_eq_getElem hk, Option.getD_some] at q0 q1
      rcases (by omega : i % 2 = 0 ∨ i % 2 = 1) with e2 | e2
      · rw [e2]
        simpa [pc] using q0
      · rw [e2]
        simpa [pc] using q1
    · have hl := len2 os
      rw [List.getElem?_eq_none (by simp; omega), List.getElem?_eq_none (by omega)]
theorem ord_of_row {B : Nat} {w : World} {v : Value} {os : List Pl} (h : w.ownsRow B 82 2 v os.length (os.flatMap pc)) : Ord B w v os := by
  obtain ⟨_, ⟨rfl, h0⟩ | ⟨g, c, cur, rfl, hB, h, h2, h3, h1, h4⟩⟩ := h
  · exact .inl ⟨rfl, List.eq_nil_of_length_eq_zero h0⟩
  · refine .inr ⟨g, c, rfl, hB, cur, h, h1, h2, h3, fun i hi => ?_⟩
    have q : ∀ j, j < 2 → cur[i * 2 + j]? = (pc os[i])[j]? := fun j hj => by
      rw [← flat2 os i j hi hj, ← h4, List.getElem?_take_of_lt (by omega)]
      simp
    simp only [List.getD, List.getElem?_eq_getElem hi, Option.getD_some]
    exact ⟨q 0 (by omega), q 1 (by omega)⟩

theorem info68 : (Try.prog.info? 82).map (fun i => (i.zero, i.size)) = some (some (.agg (pc p0).toArray), 2) := by kernel_rfl
theorem bytes68 : (Try.prog.info? 82).map (fun i => decide (i.bytes ≤ 200)) = some true := by kernel_rfl
theorem info_parts68 : ∃ i, Try.prog.info? 82 = some i ∧ i.zero = some (.agg (pc p0).toArray) ∧ i.size = 2 ∧ i.bytes ≤ 200 := by
  have h := info68
  have h2 := bytes68
  cases hq : Try.prog.info? 82 with
  | none => rw [hq] at h; cases h
  | some i =>
    rw [hq] at h h2
    have e := Option.some.inj h
    exact ⟨i, rfl, congrArg Prod.fst e, congrArg Prod.snd e, by simpa using h2⟩

theorem Ord.push {B : Nat} {w : World} {v : Value} {os : List Pl} (h : Ord B w v os) (p : Pl) (hl : os.length < 100000) (hB : B ≤ w.heap.size) :
    ∃ v' w', (Builtin.append_ #[78, 78] 78 #[v, .slice (some ⟨w.heap.size, 0, none⟩) 1 1]).run Try.prog (w.alloc (.cells (pc p).toArray 82)) = .ok v' w' ∧ Ord B w' v' (os ++ [p]) ∧
      (w.alloc (.cells (pc p).toArray 82)).grownBy w' v.ownBlock ∧ (v'.ownBlock = v.ownBlock ∨ v'.ownBlock = some (w.heap.size + 1)) := by
  obtain ⟨i, hi, hz, hs, hby⟩ := info_parts68
  obtain ⟨v', w', hrun, h1, h2, _, h4⟩ := run_append_own_at (P := Try.prog) (w.alloc (.cells (pc p).toArray 82)) B 78 78 82 i _ 2 i.bytes Try.underlying78 hi hz hs rfl rfl (by decide) v os.length (os.flatMap pc) (h.row.alloc _) ⟨w.heap.size, 0, none⟩ 1 1 (pc p) rfl
    (fun j u hu => by
      have hq : (w.alloc (.cells (pc p).toArray 82)).cell? ⟨w.heap.size, j, none⟩ = some u := by
        simp only [World.cell?, heap_alloc_at]
        simpa using hu
      by_cases hj : j = 0
      · subst hj
        simpa [Addr.add] using hq
      · simpa [Addr.add, hj] using hq)
    (fun u hu => by simp [pc, kv] at hu; rcases hu with rfl | rfl <;> rfl) (by unfold maxLen; omega)
    (by
      have : (os.length + 1) * i.bytes ≤ 100000 * 200 := Nat.mul_le_mul (by omega) hby
      omega) (by simp; omega)
  have h1' : w'.ownsRow B 82 2 v' (os ++ [p]).length ((os ++ [p]).flatMap pc) := by
    rw [List.length_append, List.flatMap_append]
    simpa using h1
  exact ⟨v', w', hrun, ord_of_row h1', h2, by simpa using h4⟩

theorem setCells_heap (g : Nat) (t : TypeId) : ∀ (vs : List Value) (o : Nat) (w : World) (cur : Array Value), w.heap[g]? = some (.cells cur t (0, 0)) → o + vs.length ≤ cur.size →
    ∃ cur', (w.setCells g o vs).heap[g]? = some (.cells cur' t (0, 0)) ∧ cur'.size = cur.size ∧ (∀ i, cur'[i]? = if o ≤ i ∧ i < o + vs.length then vs[i - o]? else cur[i]?) ∧ w.grownBy (w.setCells g o vs) (some g)
  | [], o, w, cur, h, hl => ⟨cur, h, rfl, fun i => by rw [if_neg (by simp <;> omega)], ⟨rfl, rfl, rfl, Nat.le_refl _, fun k _ _ => rfl⟩⟩
  | v :: r, o, w, cur, h, hl => by
    have e := setCell_eq_setRow w g o cur t (0, 0) v h
    have h1 : (w.setRow g (cur.setIfInBounds o v)).heap[g]? = _ := setRow_heap w g cur _ t _ h
    obtain ⟨cur', q1, q2, q3, q4⟩ := setCells_heap g t r (o + 1) _ _ h1 (by simp at hl ⊢; omega)
    refine ⟨cur', ?_, ?_, fun i => ?_, ?_⟩
    · rw [World.setCells, e]
      exact q1
    · simpa using q2
    · rw [q3 i]
      simp only [List.length_cons] at hl ⊢
      by_cases h0 : i = o
      · subst h0
        rw [if_neg (by omega), if_pos (by omega)]
        simp [show i < cur.size by omega]
      · by_cases h2 : o ≤ i ∧ i < o + (r.length + 1)
        · rw [if_pos h2, if_pos (by omega)]
          obtain ⟨j, rfl⟩ : ∃ j, i = o + 1 + j := ⟨i - (o + 1), by omega⟩
          rw [show o + 1 + j - (o + 1) = j by omega, show o + 1 + j - o = j + 1 by omega]
          simp
        · rw [if_neg h2, if_neg (by omega)]
          rw [Array.getElem?_setIfInBounds_ne (Ne.symm h0)]
    · rw [World.setCells, e]
      exact ⟨q4.os, q4.tape, q4.output, by have := q4.size; simpa [World.setRow] using this, fun k hk hne => (q4.block k (by simpa [World.setRow] using hk) hne).trans (setRow_other w g k _ (fun e => hne (by rw [e])))⟩

theorem grown_trans {a b c : World} {r : Option Nat} (h : a.grownBy b r) (k : b.grownBy c r) : a.grownBy c r :=
  ⟨k.os.trans h.os, k.tape.trans h.tape, k.output.trans h.output, Nat.le_trans h.size k.size, fun i hi hr => (k.block i (Nat.lt_of_lt_of_le hi h.size) hr).trans (h.block i hi hr)⟩
theorem zero_list (n : Nat) : ∀ v ∈ (Builtin.zeroCells (pc p0).toArray n).toList, v.oneCell' = true := by
  intro v hv
  simp [Builtin.zeroCells, pc, kv, p0] at hv
  obtain ⟨i, _, rfl⟩ := hv
  rcases (by omega : i % 2 = 0 ∨ i % 2 = 1) with e | e <;> simp [e] <;> rfl
/-- clear of the places from off on -/
theorem clear_run {w : World} {g c n : Nat} {F : Nat → Pl} (h : Row w g c n F) (ty : TypeId) (off k cc : Nat) (ho : off ≤ n) (hk : 0 < k) (hfit : off + k ≤ c) :
    ∃ w', (Builtin.clear_ #[78] ty #[.slice (some ⟨g, off * 2, none⟩) k cc]).run Try.prog w = .ok (.tuple #[]) w' ∧ Row w' g c off F ∧ w.grownBy w' (some g) := by
  obtain ⟨cur, h, h1, h2, h3, h4⟩ := h
  obtain ⟨m, rfl⟩ : ∃ m, k = m + 1 := ⟨k - 1, by omega⟩
  have hz : (zeroValue 82).run Try.prog w = .ok (.agg (pc p0).toArray) w := by kernel_rfl
  have hone := zero_list (m + 1)
  have hlen : (Builtin.zeroCells (pc p0).toArray (m + 1)).toList.length = (m + 1) * 2 := by simp [Builtin.zeroCells, pc]
  have hst := run_storeCells_at Try.prog g (off * 2) 82 (Builtin.zeroCells (pc p0).toArray (m + 1)).toList 0 _ w h (by rw [hlen]; omega) hone
  obtain ⟨L, hL⟩ : ∃ L, L = (Builtin.zeroCells (pc p0).toArray (m + 1)).toList := ⟨_, rfl⟩
  rw [← hL] at hst hone hlen
  refine ⟨w.setRow g (cur.toList.take (off * 2 + 0) ++ L ++ cur.toList.drop (off * 2 + 0 + L.length)).toArray, ?_, ⟨_, setRow_heap w g _ _ 82 _ h, ?_, by omega, h3, fun i hi => ?_⟩, ⟨rfl, rfl, rfl, by simp [World.setRow], fun k hk hne => setRow_other w g k _ (fun e => hne (by rw [e]))⟩⟩
  · simp [Builtin.clear_, run_underlying Try.underlying78, hz, Value.cells]
    rw [← hL, hst]
    simp
  · simp [hlen]
    omega
  · obtain ⟨q0, q1⟩ := h4 i (by omega)
    simp only [Nat.add_zero, List.append_assoc]
    constructor
    · rw [List.getElem?_toArray, List.getElem?_append_left (by simp; omega), List.getElem?_take_of_lt (by omega)]
      simpa using q0
    · rw [List.getElem?_toArray, List.getElem?_append_left (by simp; omega), List.getElem?_take_of_lt (by omega)]
      simpa using q1

end Go.Proofs.Ytgafdbamlmaifaa.S
