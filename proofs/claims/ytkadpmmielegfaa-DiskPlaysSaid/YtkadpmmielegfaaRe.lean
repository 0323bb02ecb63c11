/-
  What Complete of the document's disk does: who is done goes.
-/
import Derived.Test.YtkadpmmielegfaaRc
namespace Go.Proofs.Ytkadpmmielegfaa
open Go.RowKit Go.Maps
set_option linter.unusedVariables false
set_option maxRecDepth 20000

theorem rdcomplete_none (N0 R rb B : Nat) (v : Value) (ps : List Rq) (zs : List Int) (x : Value) (k : Int) (w : World) (h : RD N0 w R rb B v ps zs) (hk : ¬ (0 ≤ k ∧ k < ps.length)) :
    Calls Try.prog 15 #[.pointer (some ⟨R, 0, none⟩), x, .int .i64 k] w fun e w' => e = .returned (.tuple #[rv q0, .int .i64 14]) ∧ Below w.heap.size w w' := by
  have b1 : Below w.heap.size w (w.alloc (.cells #[.int .i64 0, .bool false, .int .i64 0, .int .i64 0] 44)) := (Below.refl _ _).alloc (Nat.le_refl _) _
  have hl := h.lt
  have c1 := h.c1
  have pn := h.pn
  obtain ⟨a, c, hv, hc1, hc2⟩ := h.ord.form
  rw [hv] at c1
  clear h hc1
  generalize ps.length = n at *
  by_cases h0 : k < 0
  · go_enter Try.func15, Try.ntmps15
    go_wp2_with fail
    exact bodyPost_ret (v := .tuple #[rv q0, .int .i64 14]) (by simp [results, Try.results15, go_sem, rv, q0]) rfl ⟨rfl, b1⟩
  · have h1 : (n : Int) ≤ k := by omega
    go_enter Try.func15, Try.ntmps15
    go_wp2_with fail
    exact bodyPost_ret (v := .tuple #[rv q0, .int .i64 14]) (by simp [results, Try.results15, go_sem, rv, q0]) rfl ⟨rfl, b1⟩

/-- the two appends of Complete -/
theorem erase_runs {N0 R rb B : Nat} {ps : List Rq} {zs : List Int} {w : World} {gg c i : Nat} (h : RD N0 w R rb B (.slice (some ⟨gg, 0, none⟩) ps.length c) ps zs) (hi : i < ps.length) (hrow : Row 44 w gg c ps.length (fun i => ps.getD i q0)) :
    ∃ v1 w1 v2 w2, (Builtin.append_ #[78, 78] 78 #[.slice (some ⟨w.heap.size, 0, none⟩) 0 0, .slice (some ⟨gg, 0, none⟩) i c]).run Try.prog (w.drew.alloc (.cells #[] 44)) = .ok v1 w1 ∧
      (Builtin.append_ #[78, 78] 78 #[v1, .slice (some (if c = i + 1 then ⟨gg, 0, none⟩ else ⟨gg, (i + 1) * 4, none⟩)) (ps.length - (i + 1)) (c - (i + 1))]).run Try.prog w1 = .ok v2 w2 ∧
      w1.heap[R]? = w.heap[R]? ∧ w2.heap[R]? = w.heap[R]? ∧ Ord 44 w.heap.size w2 v2 (ps.eraseIdx i) ∧ w.grownBy w2 none ∧ w.heap.size < w1.heap.size ∧ w.heap.size < w2.heap.size := by
  obtain ⟨inf, hinf, hz, hs, hby⟩ := TS.info (T := 44) (S := 78) (.inr ⟨rfl, rfl⟩)
  have hrl := h.lt
  have hlen := h.pn
  have hgl := hrow.lt
  have hcap := hrow.cap
  have hcells := hrow.cells
  have h0 : (w.drew.alloc (.cells #[] 44)).ownsRow w.heap.size 44 4 (.slice (some ⟨w.heap.size, 0, none⟩) 0 0) 0 [] :=
    ⟨rfl, .inr ⟨w.heap.size, 0, #[], rfl, Nat.le_refl _, heap_alloc_at w.drew _, by omega, by unfold maxLen; omega, rfl, rfl⟩⟩
  have hl1 : ((ps.take i).flatMap rc).length = i * 4 := by rw [len4]; simp; omega
  have hk0 : ∀ j, j < w.heap.size → (w.drew.alloc (.cells #[] 44)).heap[j]? = w.heap[j]? := fun j hj => heap_alloc_past w.drew _ hj
  obtain ⟨v1, w1, hrun1, hw1, hg1, _, hb1⟩ := run_append_own_at (P := Try.prog) (w.drew.alloc (.cells #[] 44)) w.heap.size 78 78 44 inf _ 4 inf.bytes Try.underlying78 hinf hz hs rfl rfl (by decide) (.slice (some ⟨w.heap.size, 0, none⟩) 0 0) 0 [] h0 ⟨gg, 0, none⟩ i c ((ps.take i).flatMap rc) hl1
    (fun j u hu => by
      rw [add_at, Nat.zero_add]
      have := hcells 0 i (by omega) j u (by simpa using hu)
      rw [World.cell?_of_block (a := ⟨gg, j, none⟩) (hk0 gg hgl)]
      simpa using this) (one4 _) (by unfold maxLen; omega) (by
      have : (0 + i) * inf.bytes ≤ 100000 * 200 := Nat.mul_le_mul (by omega) hby
      omega) (by simp)
  have hs1 : w.heap.size + 1 ≤ w1.heap.size := by have := hg1.size; simp at this; omega
  have old1 : ∀ j, j < w.heap.size → w1.heap[j]? = w.heap[j]? := fun j hj => (hg1.block j (by simp; omega) (fun e => by simp [Value.ownBlock] at e; omega)).trans (hk0 j hj)
  have hl2 : ((ps.drop (i + 1)).flatMap rc).length = (ps.length - (i + 1)) * 4 := by rw [len4]; simp
  obtain ⟨v2, w2, hrun2, hw2, hg2, _, hb2⟩ := run_append_own_at (P := Try.prog) w1 w.heap.size 78 78 44 inf _ 4 inf.bytes Try.underlying78 hinf hz hs rfl rfl (by decide) v1 (0 + i) _ hw1 (if c = i + 1 then ⟨gg, 0, none⟩ else ⟨gg, (i + 1) * 4, none⟩) (ps.length - (i + 1)) (c - (i + 1)) ((ps.drop (i + 1)).flatMap rc) hl2
    (fun j u hu => by
      have hj := (List.getElem?_eq_some_iff.1 hu).1
      rw [hl2] at hj
      rw [if_neg (by omega), add_at]
      have := hcells (i + 1) (ps.length - (i + 1)) (by omega) j u (by rw [List.take_of_length_le (by simp)]; exact hu)
      rw [World.cell?_of_block (a := ⟨gg, (i + 1) * 4 + j, none⟩) (old1 gg hgl)]
      exact this) (one4 _) (by unfold maxLen; omega) (by
      have : (0 + i + (ps.length - (i + 1))) * inf.bytes ≤ 100000 * 200 := Nat.mul_le_mul (by omega) hby
      omega) (by omega)
  have old2 : ∀ j, j < w.heap.size → w2.heap[j]? = w.heap[j]? := fun j hj => (hg2.block j (by omega) (fun e => by
    have := (hw1.lt j e.symm).1
    omega)).trans (old1 j hj)
  have her : ps.eraseIdx i = ps.take i ++ ps.drop (i + 1) := List.eraseIdx_eq_take_drop_succ ps i
  have hs2 : w.heap.size < w2.heap.size := by have := hg2.size; omega
  refine ⟨v1, w1, v2, w2, hrun1, hrun2, old1 R hrl, old2 R hrl, ord_of_row ?_, ⟨hg2.os.trans hg1.os, hg2.tape.trans hg1.tape, hg2.output.trans hg1.output, by omega, fun j hj _ => old2 j hj⟩, by omega, hs2⟩
  rw [her]
  have hlen2 : (ps.take i ++ ps.drop (i + 1)).length = 0 + i + (ps.length - (i + 1)) := by simp; omega
  rw [hlen2, List.flatMap_append]
  simpa using hw2

/-- behind the two appends: who is done is gone, the request lies in block q, the result's block is r6 -/
structure RE (N0 : Nat) (w x : World) (R rb B b g q6 q8 : Nat) (v v2 : Value) (ps : List Rq) (zs ms : List Int) (r : Rq) : Prop where
  rd : RD N0 x R rb B v2 ps zs
  rm : RM x b g ms
  c6 : x.heap[q6]? = some (.cells #[.int .i64 0, .bool false, .int .i64 0, .int .i64 0] 44 (0, 0))
  c8 : x.heap[q8]? = some (.cells #[.int .i64 r.i, .bool r.w, .int .i64 r.b, .int .i64 r.f] 44 (0, 0))
  t : Trn (SD R v) w x
  n6 : w.heap.size ≤ q6
  n8 : w.heap.size ≤ q8
  o6 : v2.ownBlock ≠ some q6
theorem RE.cells {N0 : Nat} {w x : World} {R rb B b g q6 q8 : Nat} {v v2 : Value} {ps : List Rq} {zs ms : List Int} {r : Rq} (h : RE N0 w x R rb B b g q6 q8 v v2 ps zs ms r) :
    x.cell? ⟨q8, 0, none⟩ = some (.int .i64 r.i) ∧ x.cell? ⟨q8, 1, none⟩ = some (.bool r.w) ∧ x.cell? ⟨q8, 2, none⟩ = some (.int .i64 r.b) ∧ x.cell? ⟨q8, 3, none⟩ = some (.int .i64 r.f) ∧ q8 < x.heap.size :=
  ⟨cell_of h.c8 rfl, cell_of h.c8 rfl, cell_of h.c8 rfl, cell_of h.c8 rfl, lt_of_heap h.c8⟩
theorem RE.result {N0 : Nat} {w x : World} {R rb B b g q6 q8 : Nat} {v v2 : Value} {ps : List Rq} {zs ms : List Int} {r : Rq} (h : RE N0 w x R rb B b g q6 q8 v v2 ps zs ms r) :
    x.cell? ⟨q6, 0, none⟩ = some (.int .i64 0) ∧ x.cell? ⟨q6, 1, none⟩ = some (.bool false) ∧ x.cell? ⟨q6, 2, none⟩ = some (.int .i64 0) ∧ x.cell? ⟨q6, 3, none⟩ = some (.int .i64 0) ∧ q6 < x.heap.size ∧ ∀ j, x.frozen? ⟨q6, j, none⟩ = false :=
  ⟨cell_of h.c6 rfl, cell_of h.c6 rfl, cell_of h.c6 rfl, cell_of h.c6 rfl, lt_of_heap h.c6, fun j => by simp [World.frozen?, h.c6]⟩
theorem RE.drew {N0 : Nat} {w x : World} {R rb B b g q6 q8 : Nat} {v v2 : Value} {ps : List Rq} {zs ms : List Int} {r : Rq} (h : RE N0 w x R rb B b g q6 q8 v v2 ps zs ms r) (n : Nat) : RE N0 w (x.drewN n) R rb B b g q6 q8 v v2 ps zs ms r := by
  have hb := below_drewN (Below.refl x.heap.size x) n
  exact ⟨h.rd.below hb, h.rm.below hb, (hb.block q6 (lt_of_heap h.c6)).trans h.c6, (hb.block q8 (lt_of_heap h.c8)).trans h.c8, h.t.trans (Trn.of_below hb), h.n6, h.n8, h.o6⟩
/-- the end: the request is told -/
theorem RE.fin {N0 : Nat} {w x x' : World} {R rb B b g q6 q8 : Nat} {v v2 : Value} {ps : List Rq} {zs ms zs' ms' : List Int} {r : Rq} (h : RE N0 w x R rb B b g q6 q8 v v2 ps zs ms r)
    (rd : RD N0 x' R rb B v2 ps zs') (rm : RM x' b g ms') (t : Trn (SM rb g) x x') :
    RD N0 (x'.setCells q6 0 (rc r)) R rb B v2 ps zs' ∧ RM (x'.setCells q6 0 (rc r)) b g ms' ∧ Trn (SC R rb g v) w (x'.setCells q6 0 (rc r)) := by
  have n6 : ¬ SM rb g q6 := by
    rintro (e | e)
    · exact ne_typ h.c6 h.rd.row (by decide) e
    · exact ne_typ h.c6 h.rm.row (by decide) e
  have c6 := (t.block q6 (lt_of_heap h.c6) n6).trans h.c6
  obtain ⟨cur', r1, r2, r3, r4⟩ := setCells_heap q6 44 (rc r) 0 x' _ c6 (by simp [rc])
  have hR : R ≠ q6 := ne_typ rd.cell c6 (by decide)
  have hrb : rb ≠ q6 := ne_typ rd.row c6 (by decide)
  refine ⟨rd.keep (S := fun k => k = q6) (Trn.of_grown r4 rfl) hR hrb (fun k hk e => h.o6 (by rw [← e]; exact hk)), rm.kept r4 (fun e => ne_typ rm.cell c6 (by decide) (Option.some.inj e)) (fun e => ne_typ rm.row c6 (by decide) (Option.some.inj e)), ?_⟩
  refine ⟨r4.os.trans (t.os.trans h.t.os), r4.tape.trans (t.tape.trans h.t.tape), r4.output.trans (t.output.trans h.t.output), Nat.le_trans h.t.size (Nat.le_trans t.size r4.size), fun k hk hs => ?_⟩
  have z1 := h.t.size
  have z2 := t.size
  have z3 := h.n6
  rw [gr_keep r4 (by omega) (by omega), t.block k (by omega) (fun e => hs (by rcases e with e | e; exact .inr (.inr (.inl e)); exact .inr (.inr (.inr e))))]
  exact h.t.block k hk (fun e => hs (by rcases e with e | e; exact .inl e; exact .inr (.inl e)))
end Go.Proofs.Ytkadpmmielegfaa
