/-
  Rows of requests, the program's and the document's: one more, one less, cells, copies.
-/
import Derived.Test.YtkadpmmielegfaaMem
import Derived.Maps.AppendAt
import Derived.Deep.RegionLaw
import Derived.BigRegion
namespace Go.Proofs.Ytkadpmmielegfaa
open Go.RowKit
set_option linter.unusedVariables false
set_option maxRecDepth 20000

/-- a request -/
structure Rq where
  i : Int
  w : Bool
  b : Int
  f : Int
deriving DecidableEq
def q0 : Rq := ⟨0, false, 0, 0⟩
def rc (p : Rq) : List Value := [.int .i64 p.i, .bool p.w, .int .i64 p.b, .int .i64 p.f]
def rv (p : Rq) : Value := .agg #[.int .i64 p.i, .bool p.w, .int .i64 p.b, .int .i64 p.f]
/-- the types of a request and of a slice of them: the program's, and the document's -/
def TS (T S : TypeId) : Prop := (T = 38 ∧ S = 64) ∨ (T = 44 ∧ S = 78)
theorem TS.u {T S : TypeId} (h : TS T S) : Try.prog.underlying S = some (.slice T) := by
  rcases h with ⟨rfl, rfl⟩ | ⟨rfl, rfl⟩
  · exact Try.underlying64
  · exact Try.underlying78
theorem TS.info {T S : TypeId} (h : TS T S) : ∃ i, Try.prog.info? T = some i ∧ i.zero = some (.agg (rc q0).toArray) ∧ i.size = 4 ∧ i.bytes ≤ 200 := by
  have h1 : (Try.prog.info? T).map (fun i => (i.zero, i.size)) = some (some (.agg (rc q0).toArray), 4) := by
    rcases h with ⟨rfl, rfl⟩ | ⟨rfl, rfl⟩ <;> kernel_rfl
  have h2 : (Try.prog.info? T).map (fun i => decide (i.bytes ≤ 200)) = some true := by
    rcases h with ⟨rfl, rfl⟩ | ⟨rfl, rfl⟩ <;> kernel_rfl
  cases hq : Try.prog.info? T with
  | none => rw [hq] at h1; cases h1
  | some i =>
    rw [hq] at h1 h2
    have e := Option.some.inj h1
    exact ⟨i, rfl, congrArg Prod.fst e, congrArg Prod.snd e, by simpa using h2⟩
theorem TS.zero {T S : TypeId} (h : TS T S) (w : World) : (zeroValue T).run Try.prog w = .ok (.agg (rc q0).toArray) w := by
  rcases h with ⟨rfl, rfl⟩ | ⟨rfl, rfl⟩ <;> kernel_rfl

/-- block g has room for c requests; the first n of them are F -/
def Row (T : TypeId) (w : World) (g c n : Nat) (F : Nat → Rq) : Prop :=
  ∃ cur : Array Value, w.heap[g]? = some (.cells cur T (0, 0)) ∧ cur.size = c * 4 ∧ n ≤ c ∧ c ≤ maxLen ∧ ∀ i, i < n → cur[i * 4]? = some (.int .i64 (F i).i) ∧ cur[i * 4 + 1]? = some (.bool (F i).w) ∧ cur[i * 4 + 2]? = some (.int .i64 (F i).b) ∧ cur[i * 4 + 3]? = some (.int .i64 (F i).f)
/-- what is pending: these requests -/
def Ord (T : TypeId) (B : Nat) (w : World) (v : Value) (os : List Rq) : Prop :=
  (v = .slice none 0 0 ∧ os = []) ∨ ∃ g c, v = .slice (some ⟨g, 0, none⟩) os.length c ∧ B ≤ g ∧ Row T w g c os.length (fun i => os.getD i q0)

theorem Row.lt {T : TypeId} {w : World} {g c n : Nat} {F : Nat → Rq} (h : Row T w g c n F) : g < w.heap.size := by
  obtain ⟨cur, h, _⟩ := h
  exact lt_of_heap h
theorem Row.keep {T : TypeId} {w w' : World} {g c n : Nat} {F : Nat → Rq} (h : Row T w g c n F) (hk : w'.heap[g]? = w.heap[g]?) : Row T w' g c n F := by
  obtain ⟨cur, h, r⟩ := h
  exact ⟨cur, hk.trans h, r⟩
theorem Row.congr {T : TypeId} {w : World} {g c n : Nat} {F G : Nat → Rq} (h : Row T w g c n F) (e : ∀ i, i < n → F i = G i) : Row T w g c n G := by
  obtain ⟨cur, h, h1, h2, h3, h4⟩ := h
  exact ⟨cur, h, h1, h2, h3, fun i hi => e i hi ▸ h4 i hi⟩
theorem Row.cap {T : TypeId} {w : World} {g c n : Nat} {F : Nat → Rq} (h : Row T w g c n F) : n ≤ c ∧ c ≤ maxLen := by
  obtain ⟨cur, h, h1, h2, h3, h4⟩ := h
  exact ⟨h2, h3⟩
theorem Row.fz {T : TypeId} {w : World} {g c n : Nat} {F : Nat → Rq} (h : Row T w g c n F) (i : Nat) : w.frozen? ⟨g, i, none⟩ = false := by
  obtain ⟨cur, h, h1, h2, h3, h4⟩ := h
  simp [World.frozen?, h]
theorem Row.c {T : TypeId} {w : World} {g c n : Nat} {F : Nat → Rq} (h : Row T w g c n F) (i : Nat) (hi : i < n) :
    w.cell? ⟨g, i * 4, none⟩ = some (.int .i64 (F i).i) ∧ w.cell? ⟨g, i * 4 + 1, none⟩ = some (.bool (F i).w) ∧ w.cell? ⟨g, i * 4 + 2, none⟩ = some (.int .i64 (F i).b) ∧ w.cell? ⟨g, i * 4 + 3, none⟩ = some (.int .i64 (F i).f) := by
  obtain ⟨cur, h, h1, h2, h3, h4⟩ := h
  obtain ⟨a, b, c, d⟩ := h4 i hi
  refine ⟨?_, ?_, ?_, ?_⟩ <;> simp [World.cell?, h, a, b, c, d]
theorem Ord.keep {T : TypeId} {B : Nat} {w w' : World} {v : Value} {os : List Rq} (h : Ord T B w v os) (hk : ∀ k, v.ownBlock = some k → w'.heap[k]? = w.heap[k]?) : Ord T B w' v os := by
  rcases h with h | ⟨g, c, rfl, hB, hr⟩
  · exact .inl h
  · exact .inr ⟨g, c, rfl, hB, hr.keep (hk g rfl)⟩
theorem Ord.lt {T : TypeId} {B : Nat} {w : World} {v : Value} {os : List Rq} (h : Ord T B w v os) (k : Nat) (hk : v.ownBlock = some k) : B ≤ k ∧ k < w.heap.size := by
  rcases h with ⟨rfl, _⟩ | ⟨g, c, rfl, hB, hr⟩
  · cases hk
  · cases hk
    exact ⟨hB, hr.lt⟩
/-- its block is a row of requests -/
theorem Ord.typ {T : TypeId} {B : Nat} {w : World} {v : Value} {os : List Rq} (h : Ord T B w v os) (k : Nat) (hk : v.ownBlock = some k) : ∃ cur, w.heap[k]? = some (.cells cur T (0, 0)) := by
  rcases h with ⟨rfl, _⟩ | ⟨g, c, rfl, hB, cur, hr, _⟩
  · cases hk
  · cases hk
    exact ⟨cur, hr⟩
theorem Ord.form {T : TypeId} {B : Nat} {w : World} {v : Value} {os : List Rq} (h : Ord T B w v os) : ∃ a c, v = .slice a os.length c ∧ os.length ≤ c ∧ c ≤ maxLen := by
  rcases h with ⟨rfl, rfl⟩ | ⟨g, c, rfl, hB, hr⟩
  · exact ⟨none, 0, rfl, Nat.le_refl _, by decide⟩
  · exact ⟨_, c, rfl, hr.cap.1, hr.cap.2⟩

theorem flat4 : ∀ (ls : List Rq) (k j : Nat) (hk : k < ls.length), j < 4 → (ls.flatMap rc)[k * 4 + j]? = (rc ls[k])[j]?
  | s :: r, 0, j, hk, hj => by
    simp only [List.flatMap_cons, Nat.zero_mul, Nat.zero_add, List.getElem_cons_zero]
    exact List.getElem?_append_left hj
  | s :: r, k + 1, j, hk, hj => by
    simp only [List.flatMap_cons, List.getElem_cons_succ]
    have h9 : (rc s).length = 4 := rfl
    rw [List.getElem?_append_right (by omega), h9, show (k + 1) * 4 + j - 4 = k * 4 + j by omega]
    exact flat4 r k j (by simpa using hk) hj
theorem len4 (ls : List Rq) : (ls.flatMap rc).length = ls.length * 4 := by
  induction ls with
  | nil => rfl
  | cons s r ih => simp only [List.flatMap_cons, List.length_append, ih, List.length_cons]; simp [rc]; omega
theorem one4 (ls : List Rq) : ∀ u ∈ ls.flatMap rc, u.oneCell' = true := fun u hu => by
  obtain ⟨p, _, hp⟩ := List.mem_flatMap.1 hu
  simp [rc] at hp
  rcases hp with rfl | rfl | rfl | rfl <;> rfl
theorem Ord.row {T : TypeId} {B : Nat} {w : World} {v : Value} {os : List Rq} (h : Ord T B w v os) : w.ownsRow B T 4 v os.length (os.flatMap rc) := by
  refine ⟨len4 os, ?_⟩
  rcases h with ⟨rfl, rfl⟩ | ⟨g, c, rfl, hB, cur, h, h1, h2, h3, h4⟩
  · exact .inl ⟨rfl, rfl⟩
  · refine .inr ⟨g, c, cur, rfl, hB, h, h2, h3, h1, ?_⟩
    apply List.ext_getElem?
    intro i
    by_cases hi : i < os.length * 4
    · have e : i = i / 4 * 4 + i % 4 := by omega
      have hk : i / 4 < os.length := by omega
      rw [List.getElem?_take_of_lt hi, e, flat4 os (i / 4) (i % 4) hk (by omega)]
      obtain ⟨q0, q1, q2, q3⟩ := h4 (i / 4) hk
      simp only [List.getD, List.getElem?_eq_getElem hk, Option.getD_some] at q0 q1 q2 q3
      rcases (by omega : i % 4 = 0 ∨ i % 4 = 1 ∨ i % 4 = 2 ∨ i % 4 = 3) with e2 | e2 | e2 | e2
      · rw [e2]; simpa [rc] using q0
      · rw [e2]; simpa [rc] using q1
      · rw [e2]; simpa [rc] using q2
      · rw [e2]; simpa [rc] using q3
    · have hl := len4 os
      rw [List.getElem?_eq_none (by simp; omega), List.getElem?_eq_none (by omega)]
theorem ord_of_row {T : TypeId} {B : Nat} {w : World} {v : Value} {os : List Rq} (h : w.ownsRow B T 4 v os.length (os.flatMap rc)) : Ord T B w v os := by
  obtain ⟨_, ⟨rfl, h0⟩ | ⟨g, c, cur, rfl, hB, h, h2, h3, h1, h4⟩⟩ := h
  · exact .inl ⟨rfl, List.eq_nil_of_length_eq_zero h0⟩
  · refine .inr ⟨g, c, rfl, hB, cur, h, h1, h2, h3, fun i hi => ?_⟩
    have q : ∀ j, j < 4 → cur[i * 4 + j]? = (rc os[i])[j]? := fun j hj => by
      rw [← flat4 os i j hi hj, ← h4, List.getElem?_take_of_lt (by omega)]
      simp
    simp only [List.getD, List.getElem?_eq_getElem hi, Option.getD_some]
    exact ⟨q 0 (by omega), q 1 (by omega), q 2 (by omega), q 3 (by omega)⟩
/-- the cells of requests from place k on -/
theorem Row.cells {T : TypeId} {w : World} {g c : Nat} {is : List Rq} (h : Row T w g c is.length (fun i => is.getD i q0)) (k n : Nat) (hk : k + n ≤ is.length) (j : Nat) (u : Value) (hu : (((is.drop k).take n).flatMap rc)[j]? = some u) :
    w.cell? ⟨g, k * 4 + j, none⟩ = some u := by
  have hl : ((is.drop k).take n).length = n := by simp; omega
  have hj : j < n * 4 := by
    have := (List.getElem?_eq_some_iff.1 hu).1
    rw [len4, hl] at this
    exact this
  have e : j = j / 4 * 4 + j % 4 := by omega
  have hkj : j / 4 < ((is.drop k).take n).length := by omega
  rw [e, flat4 _ (j / 4) (j % 4) hkj (by omega)] at hu
  have hx : k + j / 4 < is.length := by omega
  obtain ⟨q0, q1, q2, q3⟩ := h.c (k + j / 4) hx
  simp only [List.getD, List.getElem?_eq_getElem hx, Option.getD_some] at q0 q1 q2 q3
  simp only [List.getElem_take, List.getElem_drop] at hu
  rcases (by omega : j % 4 = 0 ∨ j % 4 = 1 ∨ j % 4 = 2 ∨ j % 4 = 3) with e2 | e2 | e2 | e2
  · rw [show k * 4 + j = (k + j / 4) * 4 by omega, q0]; rw [e2] at hu; simpa [rc] using hu
  · rw [show k * 4 + j = (k + j / 4) * 4 + 1 by omega, q1]; rw [e2] at hu; simpa [rc] using hu
  · rw [show k * 4 + j = (k + j / 4) * 4 + 2 by omega, q2]; rw [e2] at hu; simpa [rc] using hu
  · rw [show k * 4 + j = (k + j / 4) * 4 + 3 by omega, q3]; rw [e2] at hu; simpa [rc] using hu
theorem add_at (b o j : Nat) : (⟨b, o, none⟩ : Addr).add j = ⟨b, o + j, none⟩ := by unfold Addr.add; split <;> simp_all

theorem Ord.push {T S : TypeId} (hT : TS T S) {B : Nat} {w : World} {v : Value} {os : List Rq} (h : Ord T B w v os) (p : Rq) (hl : os.length < 100000) (hB : B ≤ w.heap.size) :
    ∃ v' w', (Builtin.append_ #[S, S] S #[v, .slice (some ⟨w.heap.size, 0, none⟩) 1 1]).run Try.prog (w.alloc (.cells (rc p).toArray T)) = .ok v' w' ∧ Ord T B w' v' (os ++ [p]) ∧
      (w.alloc (.cells (rc p).toArray T)).grownBy w' v.ownBlock ∧ (v'.ownBlock = v.ownBlock ∨ v'.ownBlock = some (w.heap.size + 1)) := by
  obtain ⟨i, hi, hz, hs, hby⟩ := hT.info
  obtain ⟨v', w', hrun, h1, h2, _, h4⟩ := run_append_own_at (P := Try.prog) (w.alloc (.cells (rc p).toArray T)) B S S T i _ 4 i.bytes hT.u hi hz hs rfl rfl (by decide) v os.length (os.flatMap rc) (h.row.alloc _) ⟨w.heap.size, 0, none⟩ 1 1 (rc p) rfl
    (fun j u hu => by
      rw [add_at]
      simp only [World.cell?, heap_alloc_at, Nat.zero_add]
      simpa using hu)
    (fun u hu => by simp [rc] at hu; rcases hu with rfl | rfl | rfl | rfl <;> rfl) (by unfold maxLen; omega)
    (by
      have : (os.length + 1) * i.bytes ≤ 100000 * 200 := Nat.mul_le_mul (by omega) hby
      omega) (by simp; omega)
  have h1' : w'.ownsRow B T 4 v' (os ++ [p]).length ((os ++ [p]).flatMap rc) := by
    rw [List.length_append, List.flatMap_append]
    simpa using h1
  exact ⟨v', w', hrun, ord_of_row h1', h2, by simpa using h4⟩

theorem setCells_heap (g : Nat) (t : TypeId) : ∀ (vs : List Value) (o : Nat) (w : World) (cur : Array Value), w.heap[g]? = some (.cells cur t (0, 0)) → o + vs.length ≤ cur.size →
    ∃ cur', (w.setCells g o vs).heap[g]? = some (.cells cur' t (0, 0)) ∧ cur'.size = cur.size ∧ (∀ i, cur'[i]? = if o ≤ i ∧ i < o + vs.length then vs[i - o]? else cur[i]?) ∧ w.grownBy (w.setCells g o vs) (some g)
  | [], o, w, cur, h, hl => ⟨cur, h, rfl, fun i => by rw [if_neg (by simp <;> omega)], ⟨rfl, rfl, rfl, Nat.le_refl _, fun k _ _ => rfl⟩⟩
  | v :: r, o, w, cur, h, hl => by
    have e := setCell_eq_setRow w g o cur t (0, 0) v h
    have h1 : (w.setRow g (cur.setIfInBounds o v)).heap[g]? = _ := setRow_heap w g cur _ t _ h
    obtain ⟨cur', q1, q2, q3, q4⟩ := setCells_heap g t r (o + 1) _ _ h1 (by simp at hl ⊢; omega)
    refine ⟨cur', ?_, ?_, fun i => ?_, ?_⟩
    · rw [World.setCells, e]
      exact q1
    · simpa using q2
    · rw [q3 i]
      simp only [List.length_cons] at hl ⊢
      by_cases h0 : i = o
      · subst h0
        rw [if_neg (by omega), if_pos (by omega)]
        simp [show i < cur.size by omega]
      · by_cases h2 : o ≤ i ∧ i < o + (r.length + 1)
        · rw [if_pos h2, if_pos (by omega)]
          obtain ⟨j, rfl⟩ : ∃ j, i = o + 1 + j := ⟨i - (o + 1), by omega⟩
          rw [show o + 1 + j - (o + 1) = j by omega, show o + 1 + j - o = j + 1 by omega]
          simp
        · rw [if_neg h2, if_neg (by omega)]
          rw [Array.getElem?_setIfInBounds_ne (Ne.symm h0)]
    · rw [World.setCells, e]
      exact ⟨q4.os, q4.tape, q4.output, by have := q4.size; simpa [World.setRow] using this, fun k hk hne => (q4.block k (by simpa [World.setRow] using hk) hne).trans (setRow_other w g k _ (fun e => hne (by rw [e])))⟩

theorem zero_list (n : Nat) : ∀ v ∈ (Builtin.zeroCells (rc q0).toArray n).toList, v.oneCell' = true := by
  intro v hv
  simp [Builtin.zeroCells, rc, q0] at hv
  obtain ⟨i, _, rfl⟩ := hv
  rcases (by omega : i % 4 = 0 ∨ i % 4 = 1 ∨ i % 4 = 2 ∨ i % 4 = 3) with e | e | e | e <;> simp [e] <;> rfl
/-- clear of the requests from off on -/
theorem clear_run {T S : TypeId} (hT : TS T S) {w : World} {g c n : Nat} {F : Nat → Rq} (h : Row T w g c n F) (ty : TypeId) (off k cc : Nat) (ho : off ≤ n) (hk : 0 < k) (hfit : off + k ≤ c) :
    ∃ w', (Builtin.clear_ #[S] ty #[.slice (some ⟨g, off * 4, none⟩) k cc]).run Try.prog w = .ok (.tuple #[]) w' ∧ Row T w' g c off F ∧ w.grownBy w' (some g) := by
  obtain ⟨cur, h, h1, h2, h3, h4⟩ := h
  obtain ⟨m, rfl⟩ : ∃ m, k = m + 1 := ⟨k - 1, by omega⟩
  have hz := hT.zero w
  have hone := zero_list (m + 1)
  have hlen : (Builtin.zeroCells (rc q0).toArray (m + 1)).toList.length = (m + 1) * 4 := by simp [Builtin.zeroCells, rc]
  have hst := run_storeCells_at Try.prog g (off * 4) T (Builtin.zeroCells (rc q0).toArray (m + 1)).toList 0 _ w h (by rw [hlen]; omega) hone
  obtain ⟨L, hL⟩ : ∃ L, L = (Builtin.zeroCells (rc q0).toArray (m + 1)).toList := ⟨_, rfl⟩
  rw [← hL] at hst hone hlen
  refine ⟨w.setRow g (cur.toList.take (off * 4 + 0) ++ L ++ cur.toList.drop (off * 4 + 0 + L.length)).toArray, ?_, ⟨_, setRow_heap w g _ _ T _ h, ?_, by omega, h3, fun i hi => ?_⟩, ⟨rfl, rfl, rfl, by simp [World.setRow], fun k hk hne => setRow_other w g k _ (fun e => hne (by rw [e]))⟩⟩
  · simp [Builtin.clear_, run_underlying hT.u, hz, Value.cells]
    rw [← hL, hst]
    simp
  · simp [hlen]
    omega
  · obtain ⟨q0, q1, q2, q3⟩ := h4 i (by omega)
    simp only [Nat.add_zero, List.append_assoc]
    refine ⟨?_, ?_, ?_, ?_⟩
    · rw [List.getElem?_toArray, List.getElem?_append_left (by simp; omega), List.getElem?_take_of_lt (by omega)]
      simpa using q0
    · rw [List.getElem?_toArray, List.getElem?_append_left (by simp; omega), List.getElem?_take_of_lt (by omega)]
      simpa using q1
    · rw [List.getElem?_toArray, List.getElem?_append_left (by simp; omega), List.getElem?_take_of_lt (by omega)]
      simpa using q2
    · rw [List.getElem?_toArray, List.getElem?_append_left (by simp; omega), List.getElem?_take_of_lt (by omega)]
      simpa using q3
/-- a store of a request in its row -/
theorem Row.set {T : TypeId} {w : World} {g c n : Nat} {F : Nat → Rq} (h : Row T w g c n F) (i : Nat) (hi : i < n) (p : Rq) :
    Row T (w.setCells g (i * 4) (rc p)) g c n (fun k => if k = i then p else F k) ∧ w.grownBy (w.setCells g (i * 4) (rc p)) (some g) := by
  obtain ⟨cur, h0, h1, h2, h3, h4⟩ := h
  obtain ⟨cur', r1, r2, r3, r4⟩ := setCells_heap g T (rc p) (i * 4) w cur h0 (by simp [rc]; omega)
  have hl : (rc p).length = 4 := rfl
  refine ⟨⟨cur', r1, by omega, h2, h3, fun k hk => ?_⟩, r4⟩
  by_cases hki : k = i
  · subst hki
    rw [r3, r3, r3, r3, if_pos (by omega), if_pos (by omega), if_pos (by omega), if_pos (by omega)]
    simp [rc]
  · rw [r3, r3, r3, r3, if_neg (by omega), if_neg (by omega), if_neg (by omega), if_neg (by omega)]
    simp only [hki, if_false]
    exact h4 k hk
theorem set4 (w : World) (g o : Nat) (p : Rq) : w.setCells g o (rc p) = (((w.setCell ⟨g, o, none⟩ (.int .i64 p.i)).setCell ⟨g, o + 1, none⟩ (.bool p.w)).setCell ⟨g, o + 2, none⟩ (.int .i64 p.b)).setCell ⟨g, o + 3, none⟩ (.int .i64 p.f) := rfl

/-- what has turned between two worlds: blocks of S, and new ones -/
structure Trn (S : Nat → Prop) (w w' : World) : Prop where
  os : w'.os = w.os
  tape : w'.tape = w.tape
  output : w'.output = w.output
  size : w.heap.size ≤ w'.heap.size
  block : ∀ k, k < w.heap.size → ¬ S k → w'.heap[k]? = w.heap[k]?
theorem Trn.refl (S : Nat → Prop) (w : World) : Trn S w w := ⟨rfl, rfl, rfl, Nat.le_refl _, fun _ _ _ => rfl⟩
theorem Trn.trans {S : Nat → Prop} {a b c : World} (h : Trn S a b) (k : Trn S b c) : Trn S a c :=
  ⟨k.os.trans h.os, k.tape.trans h.tape, k.output.trans h.output, Nat.le_trans h.size k.size, fun i hi hr => (k.block i (Nat.lt_of_lt_of_le hi h.size) hr).trans (h.block i hi hr)⟩
theorem Trn.of_grown {S : Nat → Prop} {a b : World} {m : Nat} (h : a.grownBy b (some m)) (hm : S m) : Trn S a b :=
  ⟨h.os, h.tape, h.output, h.size, fun k hk hs => h.block k hk (fun e => hs (by cases e; exact hm))⟩
theorem Trn.of_below {S : Nat → Prop} {a b : World} (h : Below a.heap.size a b) : Trn S a b :=
  ⟨h.os, h.tape, h.output, h.size, fun k hk hs => h.block k hk⟩
theorem Trn.mono {S S' : Nat → Prop} {a b : World} (h : Trn S a b) (hs : ∀ k, k < a.heap.size → S k → S' k) : Trn S' a b :=
  ⟨h.os, h.tape, h.output, h.size, fun k hk hn => h.block k hk (fun e => hn (hs k hk e))⟩
theorem gr_keep {w w' : World} {m : Nat} (h : w.grownBy w' (some m)) {k : Nat} (hk : k < w.heap.size) (hm : k ≠ m) : w'.heap[k]? = w.heap[k]? :=
  h.block k hk (fun e => hm (by cases e; rfl))
end Go.Proofs.Ytkadpmmielegfaa
