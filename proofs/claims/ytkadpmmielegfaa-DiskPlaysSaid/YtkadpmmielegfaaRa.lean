/-
  The document's disk in the heap; what its New, has and Submit do.
-/
import Derived.Test.YtkadpmmielegfaaNobodyWalk
namespace Go.Proofs.Ytkadpmmielegfaa
open Go.RowKit Go.Maps
set_option linter.unusedVariables false
set_option maxRecDepth 20000

/-- the document's disk: its block R, the row rb of its bytes, what is pending -/
structure RD (N0 : Nat) (w : World) (R rb B : Nat) (v : Value) (ps : List Rq) (zs : List Int) : Prop where
  cell : w.heap[R]? = some (.cells #[.slice (some ⟨rb, 0, none⟩) zs.length zs.length, v] 80 (0, 0))
  row : w.heap[rb]? = some (.cells (zs.map (Value.int .u8)).toArray 5 (0, 0))
  ord : Ord 44 N0 w v ps
  b1 : 1 ≤ B
  b2 : B ≤ 65536
  len : zs.length = B * 256
  bytes : Bytes zs
  pn : ps.length ≤ 8
  bs : ∀ r ∈ ps, 0 ≤ r.b ∧ r.b < B
section
variable {N0 : Nat} {w w' : World} {R rb B : Nat} {v : Value} {ps : List Rq} {zs : List Int}
theorem RD.lt (h : RD N0 w R rb B v ps zs) : R < w.heap.size := lt_of_heap h.cell
theorem RD.rlt (h : RD N0 w R rb B v ps zs) : rb < w.heap.size := lt_of_heap h.row
theorem RD.c0 (h : RD N0 w R rb B v ps zs) : w.cell? ⟨R, 0, none⟩ = some (.slice (some ⟨rb, 0, none⟩) zs.length zs.length) := by simp [World.cell?, h.cell]
theorem RD.c1 (h : RD N0 w R rb B v ps zs) : w.cell? ⟨R, 1, none⟩ = some v := by simp [World.cell?, h.cell]
theorem RD.keep (h : RD N0 w R rb B v ps zs) {S : Nat → Prop} (t : Trn S w w') (hR : ¬ S R) (hb : ¬ S rb) (hg : ∀ k, v.ownBlock = some k → ¬ S k) : RD N0 w' R rb B v ps zs :=
  ⟨(t.block R h.lt hR).trans h.cell, (t.block rb h.rlt hb).trans h.row, h.ord.keep (fun k hk => t.block k (h.ord.lt k hk).2 (hg k hk)), h.b1, h.b2, h.len, h.bytes, h.pn, h.bs⟩
theorem RD.below (h : RD N0 w R rb B v ps zs) (hb : Below w.heap.size w w') : RD N0 w' R rb B v ps zs := h.keep (S := fun _ => False) (Trn.of_below hb) id id (fun _ _ => id)
theorem RD.drew (h : RD N0 w R rb B v ps zs) : RD N0 w.drew R rb B v ps zs := h.below (Below.refl _ _).drew
theorem RD.rowAt (h : RD N0 w R rb B v ps zs) (i : Nat) (hi : i < zs.length) : w.cell? ⟨rb, i, none⟩ = some (.int .u8 (zs.getD i 0)) := by
  simp [World.cell?, h.row, List.getElem?_eq_getElem hi]
theorem RD.sl (h : RD N0 w R rb B v ps zs) (o n : Nat) (hn : o + n ≤ zs.length) : SL w (some ⟨rb, o, none⟩) n ((zs.drop o).take n) := by
  refine ⟨by simp; omega, bytes_mid h.bytes o n, .inr ⟨rb, o, rfl, h.rlt, fun i hi => ?_⟩⟩
  rw [h.rowAt (o + i) (by omega)]
  simp [List.getD, hi, List.getElem?_drop]
/-- a new slice of what is pending -/
theorem RD.stored {w2 : World} {v' : Value} {qs : List Rq} (h : RD N0 w R rb B v ps zs) (t : Trn (SD R v) w w2) (hc : w2.heap[R]? = w.heap[R]?) (ho : Ord 44 N0 w2 v' qs) (pn : qs.length ≤ 8) (bs : ∀ r ∈ qs, 0 ≤ r.b ∧ r.b < B) :
    RD N0 (w2.setCell ⟨R, 1, none⟩ v') R rb B v' qs zs ∧ Trn (SD R v) w (w2.setCell ⟨R, 1, none⟩ v') := by
  have hb : w2.heap[R]? = _ := hc.trans h.cell
  have e := setCell_eq_setRow w2 R 1 _ 80 (0, 0) v' hb
  have h1 : (w2.setRow R (#[.slice (some ⟨rb, 0, none⟩) zs.length zs.length, v].setIfInBounds 1 v')).heap[R]? = _ := setRow_heap w2 R _ _ 80 _ hb
  rw [e]
  have g2 : w2.grownBy (w2.setRow R (#[.slice (some ⟨rb, 0, none⟩) zs.length zs.length, v].setIfInBounds 1 v')) (some R) := ⟨rfl, rfl, rfl, by simp [World.setRow], fun k hk hne => setRow_other w2 R k _ (fun e => hne (by rw [e]))⟩
  have tt : Trn (SD R v) w (w2.setRow R (#[.slice (some ⟨rb, 0, none⟩) zs.length zs.length, v].setIfInBounds 1 v')) := t.trans (Trn.of_grown g2 (.inl rfl))
  refine ⟨⟨h1, (tt.block rb h.rlt ?_).trans h.row, ho.keep (fun k hk => gr_keep g2 (ho.lt k hk).2 (fun e => ?_)), h.b1, h.b2, h.len, h.bytes, pn, bs⟩, tt⟩
  · rintro (e | e)
    · exact ne_typ h.cell h.row (by decide) e.symm
    · obtain ⟨cur, hh⟩ := h.ord.typ rb e
      exact ne_typ hh h.row (by decide) rfl
  · subst e
    obtain ⟨cur, hh⟩ := ho.typ k hk
    exact ne_typ hh hb (by decide) rfl
/-- its bytes turned -/
theorem RD.wrote {ys : List Int} (h : RD N0 w R rb B v ps zs) (hl : ys.length = zs.length) (hB : Bytes ys) (hr : w'.heap[rb]? = some (.cells (ys.map (Value.int .u8)).toArray 5 (0, 0))) (hk : w.grownBy w' (some rb)) : RD N0 w' R rb B v ps ys := by
  refine ⟨?_, hr, h.ord.keep (fun k hk' => gr_keep hk (h.ord.lt k hk').2 (fun e => ?_)), h.b1, h.b2, hl.trans h.len, hB, h.pn, h.bs⟩
  · rw [gr_keep hk h.lt (ne_typ h.cell h.row (by decide)), hl]
    exact h.cell
  · obtain ⟨cur, hh⟩ := h.ord.typ k hk'
    exact ne_typ hh h.row (by decide) e
/-- a store of one byte -/
theorem RD.set (h : RD N0 w R rb B v ps zs) (i : Nat) (z : Int) (hi : i < zs.length) (h0 : 0 ≤ z) (h1 : z ≤ 255) :
    RD N0 (w.setCell ⟨rb, i, none⟩ (.int .u8 z)) R rb B v ps (zs.set i z) ∧ w.grownBy (w.setCell ⟨rb, i, none⟩ (.int .u8 z)) (some rb) := by
  have e := setCell_eq_setRow w rb i _ 5 (0, 0) (.int .u8 z) h.row
  rw [e]
  have hk : w.grownBy (w.setRow rb ((zs.map (Value.int .u8)).toArray.setIfInBounds i (.int .u8 z))) (some rb) := ⟨rfl, rfl, rfl, by simp [World.setRow], fun k hk hne => setRow_other w rb k _ (fun e => hne (by rw [e]))⟩
  refine ⟨h.wrote (by simp) (fun k => ?_) ?_ hk, hk⟩
  · rw [set_getD _ _ _ _ hi]
    split
    · exact ⟨h0, h1⟩
    · exact h.bytes k
  · rw [setRow_heap w rb _ _ 5 _ h.row]
    congr 2
    simp
end

theorem rdnew_no (f : Int) (w : World) (h : ¬ (1 ≤ f ∧ f ≤ 65536)) :
    Calls Try.prog 8 #[.int .i64 f] w fun e w' => e = .returned (.tuple #[.pointer none, .int .i64 2]) ∧ w' = w := by
  by_cases h1 : f < 1
  · go_enter Try.func8, Try.ntmps8
    go_wp2
    go_ret2
    exact ⟨rfl, rfl⟩
  · have h2 : 65536 < f := by omega
    go_enter Try.func8, Try.ntmps8
    go_wp2
    go_ret2
    exact ⟨rfl, rfl⟩
theorem rdnew_yes (B : Nat) (w : World) (h1 : 1 ≤ B) (h2 : B ≤ 65536) :
    Calls Try.prog 8 #[.int .i64 B] w fun e w' => ∃ R rb, e = .returned (.tuple #[.pointer (some ⟨R, 0, none⟩), .int .i64 0]) ∧ (∀ N0, RD N0 w' R rb B (.slice none 0 0) [] (List.replicate (B * 256) 0)) ∧ w.heap.size ≤ R ∧ w.heap.size ≤ rb ∧ Below w.heap.size w w' := by
  have hmk := run_make_bytes (B * 256) (by omega) w
  rw [show ((B * 256 : Nat) : Int) = (B : Int) * 256 by omega] at hmk
  have b1 : Below w.heap.size w (w.alloc (.cells ((List.replicate (B * 256) (0 : Int)).map (Value.int .u8)).toArray 5)) := (Below.refl _ _).alloc (Nat.le_refl _) _
  have hr := heap_alloc_at w (.cells ((List.replicate (B * 256) (0 : Int)).map (Value.int .u8)).toArray 5)
  obtain ⟨w1, hw1⟩ : ∃ w1, w1 = w.alloc (.cells ((List.replicate (B * 256) (0 : Int)).map (Value.int .u8)).toArray 5) := ⟨_, rfl⟩
  rw [← hw1] at hmk b1 hr
  have HF : Hid (∀ N0, RD N0 (w1.alloc (.cells #[.slice (some ⟨w.heap.size, 0, none⟩) (B * 256) (B * 256), .slice none 0 0] 80)) w1.heap.size w.heap.size B (.slice none 0 0) [] (List.replicate (B * 256) 0)) := fun N0 =>
    ⟨by rw [List.length_replicate]; exact heap_alloc_at _ _, (heap_alloc_past _ _ (lt_of_heap hr)).trans hr, .inl ⟨rfl, rfl⟩, h1, h2, by simp, bytes_zeros _, by simp, by simp⟩
  have hz := b1.size
  clear hw1 hr
  go_enter Try.func8, Try.ntmps8
  go_wp2_with fail
  go_ret2
  exact ⟨w1.heap.size, w.heap.size, rfl, HF.out, hz, Nat.le_refl _, b1.alloc hz _⟩
theorem rdhas_any (N0 R rb B : Nat) (v : Value) (ps : List Rq) (zs : List Int) (n : Int) (w : World) (h : RD N0 w R rb B v ps zs) :
    Calls Try.prog 28 #[.pointer (some ⟨R, 0, none⟩), .int .i64 n] w fun e w' => e = .returned (.bool (decide (0 ≤ n ∧ n < B))) ∧ w' = w := by
  have c0 := h.c0
  have hl := h.lt
  have hz := h.len
  rw [hz] at c0
  have b2 := h.b2
  clear h hz
  have e : ((B * 256 : Nat) : Int) / 256 = B := by omega
  by_cases h0 : 0 ≤ n
  · go_enter Try.func28, Try.ntmps28
    go_wp2
    go_ret
    exact ⟨ret_bool (by simp; omega), rfl⟩
  · have h0' : n < 0 := by omega
    go_enter Try.func28, Try.ntmps28
    go_wp2
    go_ret
    exact ⟨ret_bool (by simp; omega), rfl⟩
end Go.Proofs.Ytkadpmmielegfaa
