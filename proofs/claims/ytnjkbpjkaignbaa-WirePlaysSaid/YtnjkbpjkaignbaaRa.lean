/-
  The document's wire in the heap.
-/
import Derived.Test.YtnjkbpjkaignbaaSn
import Derived.Maps.AppendAt
namespace Go.Proofs.Ytnjkbpjkaignbaa
open Go.RowKit
set_option linter.unusedVariables false
set_option maxRecDepth 20000

/-- the two cells of a message of the document's -/
def rc (m : Int × List Int) : List Value := [.int .i64 m.1, .string (strOfNums m.2)]
/-- block g: from place o on there is room for c messages; the first are q -/
def Row (w : World) (g o c : Nat) (q : List (Int × List Int)) : Prop :=
  ∃ cur : Array Value, w.heap[g]? = some (.cells cur 46 (0, 0)) ∧ o + c * 2 ≤ cur.size ∧ q.length ≤ c ∧ c ≤ maxLen ∧ ∀ i, i < q.length → ∀ j, j < 2 → cur[o + i * 2 + j]? = (rc (q.getD i (0, [])))[j]?
/-- a slice of messages -/
def Qs (B : Nat) (w : World) (v : Value) (q : List (Int × List Int)) : Prop :=
  (v = .slice none 0 0 ∧ q = []) ∨ ∃ g o c, v = .slice (some ⟨g, o, none⟩) q.length c ∧ B ≤ g ∧ Row w g o c q
section
variable {B : Nat} {w w' : World} {g o c : Nat} {q : List (Int × List Int)} {v : Value}
theorem Row.lt (h : Row w g o c q) : g < w.heap.size := by
  obtain ⟨cur, h, _⟩ := h
  exact lt_of_heap h
theorem Row.keep (h : Row w g o c q) (hk : w'.heap[g]? = w.heap[g]?) : Row w' g o c q := by
  obtain ⟨cur, h, r⟩ := h
  exact ⟨cur, hk.trans h, r⟩
theorem Qs.keep (h : Qs B w v q) (hk : ∀ k, v.ownBlock = some k → w'.heap[k]? = w.heap[k]?) : Qs B w' v q := by
  rcases h with h | ⟨g, o, c, rfl, hB, hr⟩
  · exact .inl h
  · exact .inr ⟨g, o, c, rfl, hB, hr.keep (hk g rfl)⟩
theorem Qs.lt (h : Qs B w v q) (k : Nat) (hk : v.ownBlock = some k) : B ≤ k ∧ k < w.heap.size := by
  rcases h with ⟨rfl, _⟩ | ⟨g, o, c, rfl, hB, hr⟩
  · cases hk
  · cases hk
    exact ⟨hB, hr.lt⟩
theorem Qs.blk (h : Qs B w v q) (k : Nat) (hk : v.ownBlock = some k) : ∃ cur, w.heap[k]? = some (.cells cur 46 (0, 0)) := by
  rcases h with ⟨rfl, _⟩ | ⟨g, o, c, rfl, hB, hr⟩
  · cases hk
  · cases hk
    obtain ⟨cur, h, _⟩ := hr
    exact ⟨cur, h⟩
theorem Qs.form (h : Qs B w v q) : ∃ a c, v = .slice a q.length c := by
  rcases h with ⟨rfl, rfl⟩ | ⟨g, o, c, rfl, _⟩
  · exact ⟨_, _, rfl⟩
  · exact ⟨_, _, rfl⟩
end
theorem flat2 : ∀ (ls : List (Int × List Int)) (k j : Nat), k < ls.length → j < 2 → (ls.flatMap rc)[k * 2 + j]? = (rc (ls.getD k (0, [])))[j]?
  | [], k, j, hk, hj => by simp at hk
  | x :: ls, 0, j, hk, hj => by
    rw [List.flatMap_cons, List.getElem?_append_left (by simp [rc]; omega)]
    simp
  | x :: ls, k + 1, j, hk, hj => by
    rw [List.flatMap_cons, List.getElem?_append_right (by simp [rc]; omega)]
    have := flat2 ls k j (by simp at hk; omega) hj
    simp only [rc, List.length_cons, List.length_nil] at this ⊢
    rw [show (k + 1) * 2 + j - (0 + 1 + 1) = k * 2 + j by omega]
    simpa using this
theorem len2 (ls : List (Int × List Int)) : (ls.flatMap rc).length = ls.length * 2 := by
  induction ls with
  | nil => rfl
  | cons x ls ih => rw [List.flatMap_cons, List.length_append, ih]; simp [rc]; omega
theorem one2 (ls : List (Int × List Int)) : ∀ u ∈ ls.flatMap rc, u.oneCell' = true := fun u hu => by
  obtain ⟨x, _, hx⟩ := List.mem_flatMap.1 hu
  simp [rc] at hx
  rcases hx with rfl | rfl <;> rfl
theorem info46 : ∃ i, Try.prog.info? 46 = some i ∧ i.zero = some (.agg #[.int .i64 0, .string ByteArray.empty]) ∧ i.size = 2 ∧ i.bytes = 24 := by
  have h : (Try.prog.info? 46).map (fun i => (i.zero, i.size, i.bytes)) = some (some (.agg #[.int .i64 0, .string ByteArray.empty]), 2, 24) := by kernel_rfl
  obtain ⟨i, hi, hb⟩ := Option.map_eq_some_iff.1 h
  simp only [Prod.mk.injEq] at hb
  exact ⟨i, hi, hb.1, hb.2.1, hb.2.2⟩
theorem add_at (b o j : Nat) : (⟨b, o, none⟩ : Addr).add j = ⟨b, o + j, none⟩ := by unfold Addr.add; split <;> simp_all
/-- a row of the call's own -/
theorem qs_of_row {B : Nat} {w : World} {v : Value} {q : List (Int × List Int)} (h : w.ownsRow B 46 2 v q.length (q.flatMap rc)) : Qs B w v q := by
  obtain ⟨_, ⟨rfl, h0⟩ | ⟨g, c, cur, rfl, hB, h, h2, h3, h1, h4⟩⟩ := h
  · exact .inl ⟨rfl, List.eq_nil_of_length_eq_zero h0⟩
  · refine .inr ⟨g, 0, c, by simp, hB, cur, h, by simp at h1 ⊢; omega, h2, h3, fun i hi j hj => ?_⟩
    have e : (cur.toList.take (q.length * 2))[i * 2 + j]? = (q.flatMap rc)[i * 2 + j]? := by rw [h4]
    rw [List.getElem?_take_of_lt (by omega), flat2 q i j hi hj] at e
    rw [Nat.zero_add, ← Array.getElem?_toList]
    exact e
theorem setCells_two (w : World) (g o : Nat) (a b : Value) : w.setCells g o [a, b] = (w.setCell ⟨g, o, none⟩ a).setCell ⟨g, o + 1, none⟩ b := rfl
theorem Qs.push {B : Nat} {w : World} {v : Value} {q : List (Int × List Int)} (h : Qs B w v q) (x : Int × List Int) (hl : q.length ≤ 16) (hB : B ≤ w.heap.size) :
    ∃ v' w', (Builtin.append_ #[52, 52] 52 #[v, .slice (some ⟨w.heap.size, 0, none⟩) 1 1]).run Try.prog (w.alloc (.cells (rc x).toArray 46)) = .ok v' w' ∧ Qs B w' v' (q ++ [x]) ∧
      (w.alloc (.cells (rc x).toArray 46)).grownBy w' v.ownBlock ∧ ∀ k, v'.ownBlock = some k → v.ownBlock = some k ∨ w.heap.size ≤ k := by
  obtain ⟨i, hi, hz, hs, hby⟩ := info46
  have hnew : ∀ j u, (rc x)[j]? = some u → (w.alloc (.cells (rc x).toArray 46)).cell? ((⟨w.heap.size, 0, none⟩ : Addr).add j) = some u := fun j u hu => by
    rw [add_at]
    simp only [World.cell?, heap_alloc_at, Nat.zero_add]
    simpa using hu
  have hone : ∀ u ∈ rc x, u.oneCell' = true := fun u hu => by simp [rc] at hu; rcases hu with rfl | rfl <;> rfl
  have hbytes : (q.length + 1) * i.bytes ≤ 140737488355328 := by rw [hby]; omega
  have hml : (17 : Nat) ≤ maxLen := by decide
  rcases h with ⟨rfl, rfl⟩ | ⟨g, o, c, rfl, hgB, hrow⟩
  · obtain ⟨v', w', hrun, h1, h2, _, h4⟩ := run_append_own_at (P := Try.prog) (w.alloc (.cells (rc x).toArray 46)) B 52 52 46 i _ 2 i.bytes Try.underlying52 hi hz hs rfl rfl (by decide) (.slice none 0 0) 0 [] (World.ownsRow_nil _ _ _ _) ⟨w.heap.size, 0, none⟩ 1 1 (rc x) rfl hnew hone (by unfold maxLen; omega) (by simpa using hbytes) (by simp; omega)
    refine ⟨v', w', hrun, qs_of_row (by simpa using h1), h2, fun k hk => ?_⟩
    rcases h4 with h4 | h4
    · rw [h4] at hk; cases hk
    · rw [h4] at hk
      cases hk
      right; simp
  · have hgl := hrow.lt
    have hrow1 : Row (w.alloc (.cells (rc x).toArray 46)) g o c q := hrow.keep (heap_alloc_past w _ hgl)
    obtain ⟨cur, r1, r2, r3, r4, r5⟩ := hrow1
    by_cases hroom : q.length + 1 ≤ c
    · have hrun := run_append_room_cells (P := Try.prog) (w.alloc (.cells (rc x).toArray 46)) 52 52 46 i Try.underlying52 hi g o q.length c ⟨w.heap.size, 0, none⟩ 1 1 (rc x) (by rw [hs]; rfl) hnew hone hroom
        (fun j hj => by rw [hs]; simp [rc] at hj; simp [World.cell?, r1]; omega) (fun j hj => by simp [World.frozen?, r1])
      rw [hs] at hrun
      rw [show rc x = [.int .i64 x.1, .string (strOfNums x.2)] from rfl, setCells_two] at hrun
      rw [← show rc x = [.int .i64 x.1, .string (strOfNums x.2)] from rfl] at hrun
      have h1 := setRow_heap (w.alloc (.cells (rc x).toArray 46)) g cur (cur.setIfInBounds (o + q.length * 2) (.int .i64 x.1)) 46 _ r1
      rw [← setCell_eq_setRow _ g (o + q.length * 2) cur 46 (0, 0) (.int .i64 x.1) r1] at h1
      have h2 := setRow_heap _ g _ ((cur.setIfInBounds (o + q.length * 2) (.int .i64 x.1)).setIfInBounds (o + q.length * 2 + 1) (.string (strOfNums x.2))) 46 _ h1
      rw [← setCell_eq_setRow _ g (o + q.length * 2 + 1) _ 46 (0, 0) (.string (strOfNums x.2)) h1] at h2
      have tt := (trn_setCell (fun k => k = g) r1 rfl (o + q.length * 2) (.int .i64 x.1)).trans (trn_setCell (fun k => k = g) h1 rfl (o + q.length * 2 + 1) (.string (strOfNums x.2)))
      refine ⟨_, _, hrun, .inr ⟨g, o, c, by simp, hgB, _, h2, by simpa using r2, by simpa using hroom, r4, fun j hj k hk => ?_⟩, ⟨tt.os, tt.tape, tt.output, tt.size, fun k hk hne => tt.block k hk (fun e => hne (by rw [e]; rfl))⟩, fun k hk => .inl hk⟩
      simp only [List.length_append, List.length_singleton] at hj
      rw [Array.getElem?_setIfInBounds, Array.getElem?_setIfInBounds]
      by_cases hjl : j < q.length
      · rw [if_neg (by omega), if_neg (by omega), r5 j hjl k hk]
        simp [List.getElem?_append_left hjl]
      · obtain rfl : j = q.length := by omega
        obtain rfl | rfl : k = 0 ∨ k = 1 := by omega
        · rw [if_neg (by omega), if_pos (by omega), if_pos (by omega)]
          simp [rc]
        · rw [if_pos (by omega), if_pos (by simp; omega)]
          simp [rc]
    · obtain ⟨v', w', hrun, h1, h2⟩ := run_append_arg_grows (P := Try.prog) (w.alloc (.cells (rc x).toArray 46)) 52 52 46 i _ 2 i.bytes Try.underlying52 hi hz hs rfl rfl (by decide) ⟨g, o, none⟩ q.length c (q.flatMap rc) (len2 q)
        (fun j u hu => by
          have hj : j < q.length * 2 := by have := (List.getElem?_eq_some_iff.1 hu).1; rw [len2] at this; exact this
          have e := flat2 q (j / 2) (j % 2) (by omega) (by omega)
          have e2 := r5 (j / 2) (by omega) (j % 2) (by omega)
          rw [show j / 2 * 2 + j % 2 = j by omega] at e
          rw [show o + j / 2 * 2 + j % 2 = o + j by omega] at e2
          rw [add_at, cell_at r1, e2, ← e, hu]) ⟨w.heap.size, 0, none⟩ 1 1 (rc x) rfl hnew (by omega) (by unfold maxLen; omega) hbytes
      have h1' : w'.ownsRow (w.heap.size + 1) 46 2 v' (q ++ [x]).length ((q ++ [x]).flatMap rc) := by
        rw [List.length_append, List.flatMap_append]
        simpa using h1
      have hI := qs_of_row h1'
      refine ⟨v', w', hrun, ?_, ⟨h2.os, h2.tape, h2.output, h2.size, fun k hk _ => h2.block k hk (by simp)⟩, fun k hk => ?_⟩
      · rcases hI with h' | ⟨g', o', c', e, hB', hr'⟩
        · exact .inl h'
        · exact .inr ⟨g', o', c', e, by omega, hr'⟩
      · right
        have := (hI.lt k hk).1
        omega
/-- the document's wire: block r, its groups' block g, its slices' block d, the slices V -/
structure RW (B : Nat) (w : World) (r g d n gc : Nat) (V : Nat → Value) (Gr : Nat → Int) (A : Nat → List (Int × List Int)) : Prop where
  ob : w.heap[r]? = some (.cells #[.slice (some ⟨g, 0, none⟩) n gc, .slice (some ⟨d, 0, none⟩) n n] 55 (0, 0))
  gs : ∃ cur : Array Value, w.heap[g]? = some (.cells cur 3 (0, 0)) ∧ n ≤ cur.size ∧ ∀ i, i < n → cur[i]? = some (.int .i64 (Gr i))
  ds : ∃ cur : Array Value, w.heap[d]? = some (.cells cur 52 (0, 0)) ∧ cur.size = n ∧ ∀ i, i < n → cur[i]? = some (V i)
  qs : ∀ i, i < n → Qs B w (V i) (A i)
  inj : ∀ i j k, i < n → j < n → (V i).ownBlock = some k → (V j).ownBlock = some k → i = j
  n1 : 1 ≤ n
  n32 : n ≤ 32
  len : ∀ i, i < n → (A i).length ≤ 16
  lo : B ≤ r ∧ B ≤ g ∧ B ≤ d
/-- the blocks that calls on the document's wire may turn -/
def RS (g d n : Nat) (V : Nat → Value) (k : Nat) : Prop := k = g ∨ k = d ∨ ∃ i, i < n ∧ (V i).ownBlock = some k
section
variable {B : Nat} {w w' : World} {r g d n gc : Nat} {V : Nat → Value} {Gr : Nat → Int} {A : Nat → List (Int × List Int)}
theorem RW.lt (h : RW B w r g d n gc V Gr A) : r < w.heap.size := lt_of_heap h.ob
theorem RW.glt (h : RW B w r g d n gc V Gr A) : g < w.heap.size := by
  obtain ⟨cur, h, _⟩ := h.gs
  exact lt_of_heap h
theorem RW.dlt (h : RW B w r g d n gc V Gr A) : d < w.heap.size := by
  obtain ⟨cur, h, _⟩ := h.ds
  exact lt_of_heap h
theorem RW.ne (h : RW B w r g d n gc V Gr A) : r ≠ g ∧ r ≠ d ∧ g ≠ d := by
  obtain ⟨cur, h1, _⟩ := h.gs
  obtain ⟨cur2, h2, _⟩ := h.ds
  exact ⟨ne_typ h.ob h1 (by decide), ne_typ h.ob h2 (by decide), ne_typ h1 h2 (by decide)⟩
theorem RW.one (h : RW B w r g d n gc V Gr A) {i k : Nat} (hi : i < n) (hk : (V i).ownBlock = some k) : k ≠ r ∧ k ≠ g ∧ k ≠ d := by
  obtain ⟨cu, hc⟩ := (h.qs i hi).blk k hk
  obtain ⟨cur, h1, _⟩ := h.gs
  obtain ⟨cur2, h2, _⟩ := h.ds
  exact ⟨ne_typ hc h.ob (by decide), ne_typ hc h1 (by decide), ne_typ hc h2 (by decide)⟩
theorem RW.keep (h : RW B w r g d n gc V Gr A) (hk : ∀ k, k < w.heap.size → (k = r ∨ RS g d n V k) → w'.heap[k]? = w.heap[k]?) : RW B w' r g d n gc V Gr A := by
  obtain ⟨cur, h1, h2⟩ := h.gs
  obtain ⟨cur2, h3, h4⟩ := h.ds
  exact ⟨(hk r h.lt (.inl rfl)).trans h.ob, ⟨cur, (hk g h.glt (.inr (.inl rfl))).trans h1, h2⟩, ⟨cur2, (hk d h.dlt (.inr (.inr (.inl rfl)))).trans h3, h4⟩, fun i hi => (h.qs i hi).keep fun k hv => hk k ((h.qs i hi).lt k hv).2 (.inr (.inr (.inr ⟨i, hi, hv⟩))), h.inj, h.n1, h.n32, h.len, h.lo⟩
theorem RW.below (h : RW B w r g d n gc V Gr A) (hk : Below w.heap.size w w') : RW B w' r g d n gc V Gr A := h.keep fun k hlt _ => hk.block k hlt
theorem RW.cc (h : RW B w r g d n gc V Gr A) : w.cell? ⟨r, 0, none⟩ = some (.slice (some ⟨g, 0, none⟩) n gc) ∧ w.cell? ⟨r, 1, none⟩ = some (.slice (some ⟨d, 0, none⟩) n n) := by simp [World.cell?, h.ob]
theorem RW.gi (h : RW B w r g d n gc V Gr A) {i : Nat} (hi : i < n) : w.cell? ⟨g, i, none⟩ = some (.int .i64 (Gr i)) := by
  obtain ⟨cur, h1, h2, h3⟩ := h.gs
  rw [cell_at h1]
  exact h3 i hi
theorem RW.di (h : RW B w r g d n gc V Gr A) {i : Nat} (hi : i < n) : w.cell? ⟨d, i, none⟩ = some (V i) := by
  obtain ⟨cur, h1, h2, h3⟩ := h.ds
  rw [cell_at h1]
  exact h3 i hi
theorem RW.f (h : RW B w r g d n gc V Gr A) (o : Nat) : w.frozen? ⟨d, o, none⟩ = false ∧ w.frozen? ⟨g, o, none⟩ = false := by
  obtain ⟨cur, h1, h2, h3⟩ := h.ds
  obtain ⟨cur2, h4, h5, h6⟩ := h.gs
  simp [World.frozen?, h1, h4]
theorem RW.rsB (h : RW B w r g d n gc V Gr A) : ∀ k, RS g d n V k → B ≤ k := by
  rintro k (rfl | rfl | ⟨i, hi, hk⟩)
  · exact h.lo.2.1
  · exact h.lo.2.2
  · exact ((h.qs i hi).lt k hk).1
theorem RW.bw (h : RW B w r g d n gc V Gr A) : B ≤ w.heap.size := by have := h.lo.1; have := h.lt; omega
theorem RW.to (h : RW B w r g d n gc V Gr A) (k : Trn (RS g d n V) w w') : Below B w w' := k.below h.rsB h.bw
/-- the blocks of the document's wire are cells of these types -/
theorem RW.typ (h : RW B w r g d n gc V Gr A) {k : Nat} (hk : RS g d n V k) : ∃ cs t, w.heap[k]? = some (.cells cs t (0, 0)) ∧ (t = 3 ∨ t = 52 ∨ t = 46) := by
  obtain ⟨cur, h1, _⟩ := h.gs
  obtain ⟨cur2, h3, _⟩ := h.ds
  rcases hk with rfl | rfl | ⟨i, hi, hk⟩
  · exact ⟨_, _, h1, .inl rfl⟩
  · exact ⟨_, _, h3, .inr (.inl rfl)⟩
  · obtain ⟨c, hc⟩ := (h.qs i hi).blk k hk
    exact ⟨_, _, hc, .inr (.inr rfl)⟩
/-- the group of port i is written -/
theorem RW.setg (h : RW B w r g d n gc V Gr A) {i : Nat} (hi : i < n) (x : Int) :
    RW B (w.setCell ⟨g, i, none⟩ (.int .i64 x)) r g d n gc V (upd Gr i x) A ∧ Trn (RS g d n V) w (w.setCell ⟨g, i, none⟩ (.int .i64 x)) := by
  obtain ⟨cur, r1, r2, r3⟩ := h.gs
  obtain ⟨cur2, r4, r5⟩ := h.ds
  have ht := trn_setCell (RS g d n V) r1 (.inl rfl) i (.int .i64 x)
  refine ⟨?_, ht⟩
  have ht' := trn_setCell (fun k => k = g) r1 rfl i (.int .i64 x)
  have e := setCell_eq_setRow w g i cur 3 (0, 0) (.int .i64 x) r1
  have hh : (w.setRow g (cur.setIfInBounds i (.int .i64 x))).heap[g]? = _ := setRow_heap w g cur _ 3 _ r1
  rw [← e] at hh
  refine ⟨(ht'.block r h.lt h.ne.1).trans h.ob, ⟨_, hh, by simpa using r2, fun k hk => ?_⟩, ⟨cur2, (ht'.block d h.dlt h.ne.2.2.symm).trans r4, r5⟩, fun k hk => (h.qs k hk).keep fun b hb => ht'.block b ((h.qs k hk).lt b hb).2 (h.one hk hb).2.1, h.inj, h.n1, h.n32, h.len, h.lo⟩
  rw [Array.getElem?_setIfInBounds]
  by_cases hki : k = i
  · subst hki
    rw [upd_self, if_pos rfl, if_pos (by omega)]
  · rw [upd_other _ _ _ hki, if_neg (by omega)]
    exact r3 k hk
/-- the slice of port i is written, its block in a world that keeps the others -/
theorem RW.setv (h : RW B w r g d n gc V Gr A) {i : Nat} (hi : i < n) (v : Value) (q : List (Int × List Int)) (hq : q.length ≤ 16) (hv : Qs B w' v q) (hown : ∀ k, v.ownBlock = some k → (V i).ownBlock = some k ∨ w.heap.size ≤ k)
    (ht : Trn (fun k => (V i).ownBlock = some k) w w') :
    RW B (w'.setCell ⟨d, i, none⟩ v) r g d n gc (upd V i v) Gr (upd A i q) ∧ Trn (RS g d n V) w (w'.setCell ⟨d, i, none⟩ v) := by
  obtain ⟨gcur, g1, g2⟩ := h.gs
  obtain ⟨cur, r1, r2, r3⟩ := h.ds
  have nod : ∀ {k}, (V i).ownBlock = some k → k ≠ d := fun hk => (h.one hi hk).2.2
  have r1' : w'.heap[d]? = some (.cells cur 52 (0, 0)) := (ht.block d h.dlt (fun e => nod e rfl)).trans r1
  have tt := trn_setCell (fun k => k = d) r1' rfl i v
  have e := setCell_eq_setRow w' d i cur 52 (0, 0) v r1'
  have hh : (w'.setRow d (cur.setIfInBounds i v)).heap[d]? = _ := setRow_heap w' d cur _ 52 _ r1'
  rw [← e] at hh
  have hs := ht.size
  have hvd : ∀ k, v.ownBlock = some k → k ≠ d := fun k hk e => by
    rcases hown k hk with h' | h'
    · exact nod h' e
    · have := h.dlt; omega
  refine ⟨⟨?_, ⟨gcur, ?_, g2⟩, ⟨_, hh, by simpa using r2, fun k hk => ?_⟩, fun k hk => ?_, fun a b k ha hb h1 h2 => ?_, h.n1, h.n32, fun k hk => ?_, h.lo⟩, ?_⟩
  · rw [tt.block r (Nat.lt_of_lt_of_le h.lt hs) h.ne.2.1, ht.block r h.lt (fun e => (h.one hi e).1 rfl)]
    exact h.ob
  · rw [tt.block g (Nat.lt_of_lt_of_le h.glt hs) h.ne.2.2, ht.block g h.glt (fun e => (h.one hi e).2.1 rfl)]
    exact g1
  · rw [Array.getElem?_setIfInBounds]
    by_cases hki : k = i
    · subst hki
      rw [upd_self, if_pos rfl, if_pos (by omega)]
    · rw [upd_other _ _ _ hki, if_neg (by omega)]
      exact r3 k hk
  · by_cases hki : k = i
    · subst hki
      rw [upd_self, upd_self]
      exact hv.keep fun b hb => tt.block b (hv.lt b hb).2 (hvd b hb)
    · rw [upd_other _ _ _ hki, upd_other _ _ _ hki]
      refine (h.qs k hk).keep fun b hb => ?_
      have hbl := ((h.qs k hk).lt b hb).2
      rw [tt.block b (Nat.lt_of_lt_of_le hbl hs) (h.one hk hb).2.2]
      exact ht.block b hbl (fun e => hki (h.inj k i b hk hi hb e))
  · by_cases ea : a = i
    · by_cases eb : b = i
      · omega
      · rw [ea, upd_self] at h1
        rw [upd_other _ _ _ eb] at h2
        rcases hown k h1 with h' | h'
        · exact absurd (h.inj b i k hb hi h2 h') eb
        · have := ((h.qs b hb).lt k h2).2; omega
    · by_cases eb : b = i
      · rw [eb, upd_self] at h2
        rw [upd_other _ _ _ ea] at h1
        rcases hown k h2 with h' | h'
        · exact absurd (h.inj a i k ha hi h1 h') ea
        · have := ((h.qs a ha).lt k h1).2; omega
      · rw [upd_other _ _ _ ea] at h1
        rw [upd_other _ _ _ eb] at h2
        exact h.inj a b k ha hb h1 h2
  · by_cases hki : k = i
    · subst hki; rw [upd_self]; exact hq
    · rw [upd_other _ _ _ hki]; exact h.len k hk
  · refine ⟨tt.os.trans ht.os, tt.tape.trans ht.tape, tt.output.trans ht.output, Nat.le_trans hs tt.size, fun k hk hn => ?_⟩
    rw [tt.block k (Nat.lt_of_lt_of_le hk hs) (fun e => hn (.inr (.inl e)))]
    exact ht.block k hk (fun e => hn (.inr (.inr ⟨i, hi, e⟩)))
end
end Go.Proofs.Ytnjkbpjkaignbaa
