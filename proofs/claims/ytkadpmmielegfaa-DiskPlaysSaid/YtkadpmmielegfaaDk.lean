/-
  A disk in the heap: its map of blocks, what is pending; what its small functions do.
-/
import Derived.Test.YtkadpmmielegfaaFn
import Derived.Maps.OwnSet
namespace Go.Proofs.Ytkadpmmielegfaa
open Go.RowKit Go.Maps
set_option linter.unusedVariables false
set_option maxRecDepth 20000

theorem law : Keyed Try.prog 3 := int_keyed Try.underlying3
theorem wf_nat (n : Nat) (h : n < 65536) : (Lit.int .i64 (n : Int)).wf = true := by
  have h1 : IntKind.i64.min ≤ (n : Int) := by have : IntKind.i64.min = -9223372036854775808 := by decide
                                              omega
  have h2 : (n : Int) ≤ IntKind.i64.max := by have : IntKind.i64.max = 9223372036854775807 := by decide
                                              omega
  simp [Lit.wf, h1]
  omega
theorem key_of (n : Nat) (h : n < 65536) : keyOf Try.prog 3 (.int .i64 (n : Int)) = some (.int .i64 n) := keyOf_int_mk Try.underlying3 (wf_nat n h)
/-- the zero value of what is kept -/
def zv : Value := .slice none 0 0
theorem zeroE (w : World) : (zeroValue 39).run Try.prog w = .ok zv w := by kernel_rfl
/-- an element reads as itself -/
def RV (v : Value) : Option (DataW Value × List MemPlace) := some (.held v, [])
/-- block m is a map of N entries, that keeps M -/
def MapIs (w : World) (m N : Nat) (M : Nat → Option Value) : Prop :=
  ∃ D, w.ownsMap Try.prog 3 RV m N D ∧ Maps.size D = N ∧ ∀ n : Nat, n < 65536 → Maps.has D (.int .i64 n) = (M n).isSome ∧ ∀ z, D.atKey (.int .i64 n) (.held z) = .held ((M n).getD z)
def upd (M : Nat → Option Value) (p : Nat) (v : Option Value) : Nat → Option Value := fun q => if q = p then v else M q
theorem MapIs.lt {w : World} {m N : Nat} {M : Nat → Option Value} (h : MapIs w m N M) : m < w.heap.size := by
  obtain ⟨D, ho, _⟩ := h
  exact ho.lt
theorem MapIs.typ {w : World} {m N : Nat} {M : Nat → Option Value} (h : MapIs w m N M) : ∃ es clock, w.heap[m]? = some (.map es clock) := by
  obtain ⟨D, ⟨es, clock, hb, r⟩, h2⟩ := h
  exact ⟨es, clock, hb⟩
theorem MapIs.keep {w w' : World} {m N : Nat} {M : Nat → Option Value} (h : MapIs w m N M) (hk : w'.heap[m]? = w.heap[m]?) : MapIs w' m N M := by
  obtain ⟨D, ⟨es, clock, hb, r⟩, h2⟩ := h
  exact ⟨D, ⟨es, clock, hk.trans hb, r⟩, h2⟩
theorem MapIs.new (w : World) : MapIs (w.alloc (.map #[] 0)) w.heap.size 0 (fun _ => none) :=
  ⟨_, World.ownsMap_made w _ _ _, rfl, fun p hp => ⟨rfl, fun z => rfl⟩⟩
theorem owns_size {w : World} {m n : Nat} {D : DataW Value} (h : w.ownsMap Try.prog 3 RV m n D) : w.ownsMap Try.prog 3 RV m (Maps.size D) D := by
  obtain ⟨es, clock, hb, F, hs, rfl⟩ := h
  exact ⟨es, clock, hb, F, by simp [Maps.size, length_sorted], rfl⟩
theorem look_run {w : World} {m N : Nat} {M : Nat → Option Value} (h : MapIs w m N M) (p : Nat) (hp : p < 65536) :
    (Instr.lookup 63 (.map (some m)) (.int .i64 p) false).run Try.prog w = .ok ((M p).getD zv) w := by
  obtain ⟨D, ho, _, h2⟩ := h
  obtain ⟨h3, h4⟩ := h2 p hp
  obtain ⟨v, ps, hrun, hv⟩ := ho.lookup law Try.underlying63 (zeroE w) (show RV zv = some (.held zv, []) from rfl) (key_of p hp)
  rw [h4 zv] at hv
  simp [RV] at hv
  rw [hrun, hv.1]
theorem kl_ne {p q : Nat} (h : ¬ q = p) : Lit.int .i64 (q : Int) ≠ Lit.int .i64 (p : Int) := fun e => h (by cases e; rfl)
theorem drop_run {w : World} {m N : Nat} {M : Nat → Option Value} (h : MapIs w m N M) (p : Nat) (hp : p < 65536) (ty : TypeId) :
    ∃ w', (Builtin.delete_ #[63, 3] ty #[.map (some m), .int .i64 p]).run Try.prog w = .ok (.tuple #[]) w' ∧ MapIs w' m (if (M p).isSome then N - 1 else N) (upd M p none) ∧ w.mapTurned w' m := by
  obtain ⟨D, ho, hs, h2⟩ := h
  obtain ⟨w', hrun, ho', ht⟩ := ho.drop law Try.underlying63 (key_of p hp) ty
  have hsz := Maps.size_del (k := .int .i64 p) (ho.tidy law)
  rw [(h2 p hp).1, hs] at hsz
  have hs' : Maps.size (D.del (.int .i64 p)) = if (M p).isSome then N - 1 else N := by
    split at hsz
    · rw [if_pos (by assumption)]; omega
    · rw [if_neg (by assumption)]; omega
  refine ⟨w', hrun, ⟨_, hs' ▸ owns_size ho', hs', fun q hq => ?_⟩, ht⟩
  unfold upd
  by_cases e : q = p
  · subst e
    simp only [if_true]
    exact ⟨Maps.has_del_same, fun z => Maps.atKey_del_same _⟩
  · rw [if_neg e]
    exact ⟨(Maps.has_del_other (kl_ne e)).trans (h2 q hq).1, fun z => (Maps.atKey_del_other (kl_ne e) _).trans ((h2 q hq).2 z)⟩
theorem store_run {w : World} {m N : Nat} {M : Nat → Option Value} (h : MapIs w m N M) (p : Nat) (hp : p < 65536) (v : Value) (hN : N < maxLen) :
    ∃ w', (Instr.mapUpdate 63 (.map (some m)) (.int .i64 p) v).run Try.prog w = .ok () w' ∧ MapIs w' m (if (M p).isSome then N else N + 1) (upd M p (some v)) ∧ w.mapTurned w' m := by
  obtain ⟨D, ho, hs, h2⟩ := h
  obtain ⟨w', hrun, ho', ht⟩ := ho.store law Try.underlying63 hN (key_of p hp) (show RV v = some (.held v, []) from rfl)
  have hsz := Maps.size_put (k := .int .i64 p) (ho.tidy law) (.held v)
  rw [(h2 p hp).1, hs] at hsz
  refine ⟨w', hrun, ⟨_, hsz ▸ owns_size ho', hsz, fun q hq => ?_⟩, ht⟩
  have hk := law.key (key_of p hp)
  unfold upd
  by_cases e : q = p
  · subst e
    simp only [if_true]
    exact ⟨Maps.has_put_same ho.isMap hk _, fun z => Maps.atKey_put_same ho.isMap hk _ _⟩
  · rw [if_neg e]
    exact ⟨(Maps.has_put_other (kl_ne e) _).trans (h2 q hq).1, fun z => (Maps.atKey_put_other (kl_ne e) _ _).trans ((h2 q hq).2 z)⟩

theorem owns_uniq {w : World} {m n n' : Nat} {D D' : DataW Value} (h : w.ownsMap Try.prog 3 RV m n D) (h' : w.ownsMap Try.prog 3 RV m n' D') : D = D' := by
  obtain ⟨es, clock, hb, F, hs, rfl⟩ := h
  obtain ⟨es', clock', hb', F', hs', rfl⟩ := h'
  rw [hb] at hb'
  cases hb'
  rfl
theorem MapIs.uniq {w : World} {m N N' : Nat} {M M' : Nat → Option Value} (h : MapIs w m N M) (h' : MapIs w m N' M') (n : Nat) (hn : n < 65536) : M n = M' n := by
  obtain ⟨D, ho, _, h2⟩ := h
  obtain ⟨D', ho', _, h2'⟩ := h'
  have e := owns_uniq ho ho'
  subst e
  have a := (h2 n hn).1.symm.trans (h2' n hn).1
  have b := (h2 n hn).2 zv
  rw [(h2' n hn).2 zv] at b
  cases h1 : M n <;> cases h3 : M' n <;> simp [h1, h3] at a b ⊢
  exact b.symm
/-- block X is no row of the map's -/
def Safe (w : World) (m B X : Nat) : Prop := ∀ N M, MapIs w m N M → ∀ n, n < B → M n ≠ some (.slice (some ⟨X, 0, none⟩) 256 256)
theorem Safe.keep {w w' : World} {m B X : Nat} (h : Safe w m B X) (hk : w'.heap[m]? = w.heap[m]?) : Safe w' m B X := fun N M hM n hn => h N M (hM.keep hk.symm) n hn
/-- how many blocks stand in the map -/
def cnt (B : Nat) (M : Nat → Option Value) : Nat := (List.range B).countP (fun n => (M n).isSome)
theorem cnt_succ (B : Nat) (M : Nat → Option Value) : cnt (B + 1) M = cnt B M + if (M B).isSome then 1 else 0 := by
  simp [cnt, List.range_succ, List.countP_append, List.countP_cons]
theorem cnt_le (B : Nat) (M : Nat → Option Value) : cnt B M ≤ B := by
  have := List.countP_le_length (p := fun n => (M n).isSome) (l := List.range B)
  simpa [cnt] using this
theorem cnt_out : ∀ (B : Nat) (M : Nat → Option Value) (p : Nat) (v : Option Value), B ≤ p → cnt B (upd M p v) = cnt B M
  | 0, _, _, _, _ => rfl
  | B + 1, M, p, v, h => by
    rw [cnt_succ, cnt_succ, cnt_out B M p v (by omega)]
    simp [upd, show B ≠ p by omega]
theorem cnt_upd : ∀ (B : Nat) (M : Nat → Option Value) (p : Nat) (v : Option Value), p < B → cnt B (upd M p v) + (if (M p).isSome then 1 else 0) = cnt B M + if v.isSome then 1 else 0
  | B + 1, M, p, v, h => by
    rw [cnt_succ, cnt_succ]
    by_cases e : p = B
    · subst e
      rw [cnt_out p M p v (Nat.le_refl _)]
      simp [upd]
      omega
    · have := cnt_upd B M p v (by omega)
      simp only [upd, show B ≠ p by omega, if_false] at this ⊢
      omega
theorem cnt_some (B : Nat) (M : Nat → Option Value) (p : Nat) (v : Value) (h : p < B) : cnt B (upd M p (some v)) = if (M p).isSome then cnt B M else cnt B M + 1 := by
  have := cnt_upd B M p (some v) h
  cases hm : (M p).isSome <;> simp [hm] at this ⊢ <;> omega
theorem cnt_none (B : Nat) (M : Nat → Option Value) (p : Nat) (h : p < B) : cnt B (upd M p none) = if (M p).isSome then cnt B M - 1 else cnt B M := by
  have := cnt_upd B M p none h
  cases hm : (M p).isSome <;> simp [hm] at this ⊢ <;> omega
theorem cnt_zero (B : Nat) : cnt B (fun _ => none) = 0 := by simp [cnt]

/-- a block's bytes -/
def piece (zs : List Int) (n : Nat) : List Int := (zs.drop (n * 256)).take 256
/-- 256 bytes 0 -/
def z256 : List Int := List.replicate 256 0
/-- what the map keeps of a block -/
def Blk (N0 : Nat) (w : World) (o : Option Value) (ys : List Int) : Prop :=
  (o = none ∧ ys = z256) ∨ ∃ r, o = some (.slice (some ⟨r, 0, none⟩) 256 256) ∧ N0 ≤ r ∧ w.heap[r]? = some (.cells (ys.map (Value.int .u8)).toArray 5 (0, 0))
/-- a disk that New made -/
structure DK (N0 : Nat) (w : World) (D m B : Nat) (v : Value) (ps : List Rq) (zs : List Int) : Prop where
  cell : w.heap[D]? = some (.cells #[.int .i64 B, .map (some m), v] 66 (0, 0))
  map : ∃ M, MapIs w m (cnt B M) M ∧ ∀ n, n < B → Blk N0 w (M n) (piece zs n)
  ord : Ord 38 N0 w v ps
  b1 : 1 ≤ B
  b2 : B ≤ 65536
  len : zs.length = B * 256
  bytes : Bytes zs
  pn : ps.length ≤ 8
  ids : ps.Pairwise (fun a b => a.i ≠ b.i)
  bs : ∀ r ∈ ps, 0 ≤ r.b ∧ r.b < B

theorem DK.lt {N0 : Nat} {w : World} {D m B : Nat} {v : Value} {ps : List Rq} {zs : List Int} (h : DK N0 w D m B v ps zs) : D < w.heap.size := lt_of_heap h.cell
theorem DK.c0 {N0 : Nat} {w : World} {D m B : Nat} {v : Value} {ps : List Rq} {zs : List Int} (h : DK N0 w D m B v ps zs) : w.cell? ⟨D, 0, none⟩ = some (.int .i64 B) := by simp [World.cell?, h.cell]
theorem DK.c1 {N0 : Nat} {w : World} {D m B : Nat} {v : Value} {ps : List Rq} {zs : List Int} (h : DK N0 w D m B v ps zs) : w.cell? ⟨D, 1, none⟩ = some (.map (some m)) := by simp [World.cell?, h.cell]
theorem DK.c2 {N0 : Nat} {w : World} {D m B : Nat} {v : Value} {ps : List Rq} {zs : List Int} (h : DK N0 w D m B v ps zs) : w.cell? ⟨D, 2, none⟩ = some v := by simp [World.cell?, h.cell]
theorem DK.mlt {N0 : Nat} {w : World} {D m B : Nat} {v : Value} {ps : List Rq} {zs : List Int} (h : DK N0 w D m B v ps zs) : m < w.heap.size := by
  obtain ⟨M, hM, _⟩ := h.map
  exact hM.lt
theorem DK.mtyp {N0 : Nat} {w : World} {D m B : Nat} {v : Value} {ps : List Rq} {zs : List Int} (h : DK N0 w D m B v ps zs) : ∃ es clock, w.heap[m]? = some (.map es clock) := by
  obtain ⟨M, hM, _⟩ := h.map
  exact hM.typ
/-- blocks of two types are two -/
theorem ne_typ {w : World} {a b : Nat} {x y : Array Value} {s t : TypeId} {f g : Nat × Nat} (ha : w.heap[a]? = some (.cells x s f)) (hb : w.heap[b]? = some (.cells y t g)) (h : s ≠ t) : a ≠ b := by
  rintro rfl
  rw [ha] at hb
  cases hb
  exact h rfl
theorem ne_map {w : World} {a b : Nat} {x : Array Value} {s : TypeId} {f : Nat × Nat} {es : Array MapEntry} {cl : Nat} (ha : w.heap[a]? = some (.cells x s f)) (hb : w.heap[b]? = some (.map es cl)) : a ≠ b := by
  rintro rfl
  rw [ha] at hb
  cases hb
theorem DK.keep {N0 : Nat} {w w' : World} {D m B : Nat} {v : Value} {ps : List Rq} {zs : List Int} (h : DK N0 w D m B v ps zs) {S : Nat → Prop} (t : Trn S w w')
    (hD : ¬ S D) (hm : ¬ S m) (hg : ∀ k, v.ownBlock = some k → ¬ S k) (hr : ∀ k ys, N0 ≤ k → w.heap[k]? = some (.cells ys 5 (0, 0)) → ¬ S k) : DK N0 w' D m B v ps zs := by
  obtain ⟨M, hM, hB⟩ := h.map
  refine ⟨(t.block D h.lt hD).trans h.cell, ⟨M, hM.keep (t.block m hM.lt hm), fun n hn => ?_⟩, h.ord.keep (fun k hk => t.block k (h.ord.lt k hk).2 (hg k hk)), h.b1, h.b2, h.len, h.bytes, h.pn, h.ids, h.bs⟩
  rcases hB n hn with h0 | ⟨r, h1, h2, h3⟩
  · exact .inl h0
  · exact .inr ⟨r, h1, h2, (t.block r (lt_of_heap h3) (hr r _ h2 h3)).trans h3⟩
theorem DK.below {N0 : Nat} {w w' : World} {D m B : Nat} {v : Value} {ps : List Rq} {zs : List Int} (h : DK N0 w D m B v ps zs) (hb : Below w.heap.size w w') : DK N0 w' D m B v ps zs :=
  h.keep (S := fun _ => False) (Trn.of_below hb) id id (fun _ _ => id) (fun _ _ _ _ => id)
theorem DK.drew {N0 : Nat} {w : World} {D m B : Nat} {v : Value} {ps : List Rq} {zs : List Int} (h : DK N0 w D m B v ps zs) : DK N0 w.drew D m B v ps zs := h.below (Below.refl _ _).drew
/-- a write into a block of bytes that is elder than all of the disk's -/
theorem DK.bytesTurned {N0 : Nat} {w w' : World} {D m B : Nat} {v : Value} {ps : List Rq} {zs : List Int} (h : DK N0 w D m B v ps zs) {g : Nat} {ys : Array Value} (hg : w.heap[g]? = some (.cells ys 5 (0, 0))) (hlt : g < N0) (t : w.grownBy w' (some g)) : DK N0 w' D m B v ps zs := by
  obtain ⟨es, cl, hm⟩ := h.mtyp
  refine h.keep (S := fun k => k = g) (Trn.of_grown t rfl) (ne_typ h.cell hg (by decide)) (fun e => ne_map hg hm e.symm) (fun k hk e => ?_) (fun k ys hk _ e => by omega)
  obtain ⟨cur, hc⟩ := h.ord.typ k hk
  exact ne_typ hc hg (by decide) e

theorem Safe.of_lt {N0 : Nat} {w : World} {D m B X : Nat} {v : Value} {ps : List Rq} {zs : List Int} (h : DK N0 w D m B v ps zs) (hX : w.heap.size ≤ X) : Safe w m B X := by
  intro N M hM n hn e
  obtain ⟨M', hM', hB⟩ := h.map
  rw [hM.uniq hM' n (by have := h.b2; omega)] at e
  rcases hB n hn with ⟨h0, _⟩ | ⟨r, h1, _, h3⟩
  · rw [h0] at e; cases e
  · rw [h1] at e
    cases e
    have := lt_of_heap h3
    omega
/-- a write into a block of bytes that is no row of the disk's -/
theorem DK.safeTurned {N0 : Nat} {w w' : World} {D m B X : Nat} {v : Value} {ps : List Rq} {zs : List Int} (h : DK N0 w D m B v ps zs) {ys : Array Value} (hX : w.heap[X]? = some (.cells ys 5 (0, 0))) (hs : Safe w m B X) (t : w.grownBy w' (some X)) : DK N0 w' D m B v ps zs := by
  obtain ⟨M, hM, hB⟩ := h.map
  obtain ⟨es, cl, hm⟩ := hM.typ
  have tt : Trn (fun k => k = X) w w' := Trn.of_grown t rfl
  refine ⟨(tt.block D h.lt (ne_typ h.cell hX (by decide))).trans h.cell, ⟨M, hM.keep (tt.block m hM.lt (fun e => ne_map hX hm e.symm)), fun n hn => ?_⟩, h.ord.keep (fun k hk => tt.block k (h.ord.lt k hk).2 (fun e => ?_)), h.b1, h.b2, h.len, h.bytes, h.pn, h.ids, h.bs⟩
  · rcases hB n hn with h0 | ⟨r, h1, h2, h3⟩
    · exact .inl h0
    · refine .inr ⟨r, h1, h2, (tt.block r (lt_of_heap h3) (fun e => ?_)).trans h3⟩
      subst e
      exact hs _ M hM n hn h1
  · obtain ⟨cur, hc⟩ := h.ord.typ k hk
    exact ne_typ hc hX (by decide) e

/-- a disk that no call made: nil, or one without blocks -/
def UD (w : World) (p : Value) : Prop := p = .pointer none ∨ ∃ b, p = .pointer (some ⟨b, 0, none⟩) ∧ b < w.heap.size ∧ w.cell? ⟨b, 0, none⟩ = some (.int .i64 0)
theorem UD.below {w w' : World} {p : Value} (h : UD w p) (hk : Below w.heap.size w w') : UD w' p := by
  rcases h with h | ⟨b, rfl, hlt, hc⟩
  · exact .inl h
  · exact .inr ⟨b, rfl, Nat.lt_of_lt_of_le hlt hk.size, ((bcell hk).1 b 0 hlt).trans hc⟩
theorem dmade_un (p : Value) (w : World) (h : UD w p) : Calls Try.prog 29 #[p] w fun e w' => e = .returned (.bool false) ∧ w' = w := by
  rcases h with rfl | ⟨b, rfl, hlt, hc⟩
  all_goals
    go_enter Try.func29, Try.ntmps29
    go_wp2
    go_ret
    exact ⟨rfl, rfl⟩
theorem dmade_dk (N0 D m B : Nat) (v : Value) (ps : List Rq) (zs : List Int) (w : World) (h : DK N0 w D m B v ps zs) : Calls Try.prog 29 #[.pointer (some ⟨D, 0, none⟩)] w fun e w' => e = .returned (.bool true) ∧ w' = w := by
  have c0 := h.c0
  have hl := h.lt
  have b1 := h.b1
  have hb : decide (0 < (B : Int)) = true := decide_eq_true (by omega)
  clear h
  go_enter Try.func29, Try.ntmps29
  go_wp2
  go_ret
  first
    | exact ⟨rfl, rfl⟩
    | exact ⟨ret_bool (by simp; omega), rfl⟩
/-- has: the error of a block's number -/
def hasE (B : Nat) (n : Int) : Int := if 0 ≤ n ∧ n < B then 0 else 12
theorem has_dk (N0 D m B : Nat) (v : Value) (ps : List Rq) (zs : List Int) (n : Int) (w : World) (h : DK N0 w D m B v ps zs) : Calls Try.prog 26 #[.pointer (some ⟨D, 0, none⟩), .int .i64 n] w fun e w' => e = .returned (.int .i64 (hasE B n)) ∧ w' = w := by
  have c0 := h.c0
  have hl := h.lt
  have C := dmade_dk N0 D m B v ps zs w h
  clear h
  by_cases h0 : n < 0
  · rw [show hasE B n = 12 by simp [hasE]; omega]
    go_enter Try.func26, Try.ntmps26
    go_wp2_with fail
    refine C.mono ?_
    rintro e w ⟨rfl, rfl⟩
    go_wp2_with fail
    go_ret
    exact ⟨rfl, rfl⟩
  · by_cases h1 : n < B
    · rw [show hasE B n = 0 by simp [hasE]; omega]
      go_enter Try.func26, Try.ntmps26
      go_wp2_with fail
      refine C.mono ?_
      rintro e w ⟨rfl, rfl⟩
      go_wp2_with fail
      go_ret
      exact ⟨rfl, rfl⟩
    · have h1' : (B : Int) ≤ n := by omega
      rw [show hasE B n = 12 by simp [hasE]; omega]
      go_enter Try.func26, Try.ntmps26
      go_wp2_with fail
      refine C.mono ?_
      rintro e w ⟨rfl, rfl⟩
      go_wp2_with fail
      go_ret
      exact ⟨rfl, rfl⟩
theorem has_un (p : Value) (n : Int) (w : World) (h : UD w p) : Calls Try.prog 26 #[p, .int .i64 n] w fun e w' => e = .returned (.int .i64 1) ∧ w' = w := by
  go_enter Try.func26, Try.ntmps26
  go_wp2_with fail
  refine (dmade_un _ _ h).mono ?_
  rintro e w1 ⟨rfl, rfl⟩
  go_wp2_with fail
  go_ret
  exact ⟨rfl, rfl⟩
theorem blocks_dk (N0 D m B : Nat) (v : Value) (ps : List Rq) (zs : List Int) (w : World) (h : DK N0 w D m B v ps zs) : Calls Try.prog 24 #[.pointer (some ⟨D, 0, none⟩)] w fun e w' => e = .returned (.int .i64 B) ∧ w' = w := by
  have c0 := h.c0
  have hl := h.lt
  have C := dmade_dk N0 D m B v ps zs w h
  clear h
  go_enter Try.func24, Try.ntmps24
  go_wp2_with fail
  refine C.mono ?_
  rintro e w ⟨rfl, rfl⟩
  go_wp2_with fail
  go_ret
  exact ⟨rfl, rfl⟩
theorem blocks_un (p : Value) (w : World) (h : UD w p) : Calls Try.prog 24 #[p] w fun e w' => e = .returned (.int .i64 0) ∧ w' = w := by
  go_enter Try.func24, Try.ntmps24
  go_wp2_with fail
  refine (dmade_un _ _ h).mono ?_
  rintro e w1 ⟨rfl, rfl⟩
  go_wp2_with fail
  go_ret
  exact ⟨rfl, rfl⟩
theorem dnew_no (f : Int) (w : World) (h : ¬ (1 ≤ f ∧ f ≤ 65536)) :
    Calls Try.prog 7 #[.int .i64 f] w fun e w' => e = .returned (.tuple #[.pointer none, .int .i64 2]) ∧ w' = w := by
  by_cases h1 : f < 1
  · go_enter Try.func7, Try.ntmps7
    go_wp2
    go_ret2
    exact ⟨rfl, rfl⟩
  · have h2 : 65536 < f := by omega
    go_enter Try.func7, Try.ntmps7
    go_wp2
    go_ret2
    exact ⟨rfl, rfl⟩
theorem piece_zeros (B n : Nat) (h : n < B) : piece (List.replicate (B * 256) 0) n = z256 := by
  unfold piece z256
  rw [List.drop_replicate, List.take_replicate, show min 256 (B * 256 - n * 256) = 256 by omega]
theorem dnew_yes (B : Nat) (w : World) (h1 : 1 ≤ B) (h2 : B ≤ 65536) :
    Calls Try.prog 7 #[.int .i64 B] w fun e w' => ∃ D m, e = .returned (.tuple #[.pointer (some ⟨D, 0, none⟩), .int .i64 0]) ∧ (∀ N0, DK N0 w' D m B (.slice none 0 0) [] (List.replicate (B * 256) 0)) ∧ w.heap.size ≤ D ∧ w.heap.size ≤ m ∧ Below w.heap.size w w' := by
  have hmm : ∀ w : World, (Instr.makeMap 63 none).run Try.prog w = .ok (.map (some w.heap.size)) (w.alloc (.map #[] 0)) := fun w => by kernel_rfl
  go_enter Try.func7, Try.ntmps7
  go_wp2
  go_ret2
  refine ⟨_, w.heap.size, rfl, fun N0 => ⟨(by have := heap_alloc_at (w.alloc (.map #[] 0)) (.cells #[.int .i64 B, .map (some w.heap.size), .slice none 0 0] 66); simpa using this), ⟨fun _ => none, ?_, fun n hn => .inl ⟨rfl, piece_zeros B n hn⟩⟩, .inl ⟨rfl, rfl⟩, h1, h2, by simp, bytes_zeros _, by simp, List.Pairwise.nil, by simp⟩, ?_, ?_, ?_⟩
  · rw [cnt_zero]
    exact (MapIs.new w).keep (heap_alloc_past _ _ (by simp))
  · simp
  · simp
  · exact ((Below.refl _ _).alloc (Nat.le_refl _) _).alloc (by simp) _
end Go.Proofs.Ytkadpmmielegfaa
