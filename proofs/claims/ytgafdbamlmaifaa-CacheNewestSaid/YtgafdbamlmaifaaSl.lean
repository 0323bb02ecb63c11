/-
  What Put keeps: its contract.
-/
import Derived.Test.YtgafdbamlmaifaaSk
namespace Go.Proofs.Ytgafdbamlmaifaa.S
open Go.RowKit Go.Maps
set_option linter.unusedVariables false
set_option maxRecDepth 20000

/-- the places behind Put of a new one -/
def evO (room : Nat) (os : List Pl) : List Pl := if os.length < room then os else os.drop 1
def evM (room : Nat) (os : List Pl) (M : Pl → Option Value) : Pl → Option Value := if os.length < room then M else upd M (os.getD 0 p0) none

theorem join_any (B b room m : Nat) (v : Value) (os : List Pl) (M : Pl → Option Value) (p : Pl) (w : World) (h : CC B w b room m v os M) (hB : B ≤ w.heap.size) :
    Calls Try.prog 38 #[.pointer (some ⟨b, 0, none⟩), pv p] w fun e w' => e = .returned (.tuple #[]) ∧ ∃ v', JC B w w' b room m v v' (evO room os ++ [p]) (evO room os).length (evM room os M) := by
  unfold evO evM
  by_cases hl : os.length < room
  · rw [if_pos hl, if_pos hl]
    exact join_room B b room m os.length v os M p w h.ob h.mp h.ord hB hl h.room2 h.bm h.gb h.gm
  · rw [if_neg hl, if_neg hl]
    have h1 := h.room1
    have h2 := h.room2
    have h3 := h.len
    match os, h, hl with
    | [], h, hl => simp at hl; omega
    | o :: r, h, hl =>
      rcases h.ord with ⟨_, e⟩ | ⟨g, c, rfl, hgB, hrow⟩
      · cases e
      · have := join_full B b room m (r.length + 1) g c o r M p (h.ps o (by simp)) ((h.inn o (h.ps o (by simp))).2 (by simp)) w h.ob h.mp hrow hgB hB (by simp at hl; omega) (by simp at h3; omega) h.bm (fun e => h.gb (by rw [← e]; rfl)) (fun e => h.gm (by rw [← e]; rfl))
        simpa using this

theorem upd_some {M : Pl → Option Value} {p q : Pl} {x : Value} : (upd M p (some x) q).isSome = (decide (q = p) || (M q).isSome) := by
  unfold upd
  by_cases e : q = p
  · simp [e]
  · simp [e]

/-- Put of a place that is kept -/
theorem CC.same {B : Nat} {w w' : World} {b room m : Nat} {v : Value} {os : List Pl} {M : Pl → Option Value} (h : CC B w b room m v os M) (p : Pl) (hp : p ∈ os) (x : Value) (hob : Ob w' b room m v) (hmp : MapIs w' m os.length (upd M p (some x))) (hord : Ord B w' v os) :
    CC B w' b room m v os (upd M p (some x)) := by
  refine ⟨hob, hmp, hord, h.bB, h.mB, h.bm, h.gb, h.gm, h.ps, h.nd, fun q hq => ?_, h.room1, h.room2, h.len⟩
  rw [upd_some]
  by_cases e : q = p
  · subst e; simp [hp]
  · simp [e, h.inn q hq]
/-- Put of a new one -/
theorem CC.more {B : Nat} {w w' : World} {b room m : Nat} {v v' : Value} {os : List Pl} {M : Pl → Option Value} (h : CC B w b room m v os M) (p : Pl) (hW : p.W) (hp : p ∉ os) (x : Value) (hob : Ob w' b room m v') (hmp : MapIs w' m ((evO room os).length + 1) (upd (evM room os M) p (some x))) (hord : Ord B w' v' (evO room os ++ [p]))
    (gb : v'.ownBlock ≠ some b) (gm : v'.ownBlock ≠ some m) : CC B w' b room m v' (evO room os ++ [p]) (upd (evM room os M) p (some x)) := by
  have hsub : ∀ q ∈ evO room os, q ∈ os := fun q hq => by
    unfold evO at hq
    split at hq
    · exact hq
    · exact List.mem_of_mem_drop hq
  have hnd : (evO room os).Nodup := by
    unfold evO
    split
    · exact h.nd
    · exact h.nd.sublist (List.drop_sublist _ _)
  refine ⟨hob, by simpa using hmp, hord, h.bB, h.mB, h.bm, gb, gm, fun q hq => ?_, ?_, fun q hq => ?_, h.room1, h.room2, ?_⟩
  · rcases List.mem_append.1 hq with hq | hq
    · exact h.ps q (hsub q hq)
    · obtain rfl : q = p := by simpa using hq
      exact hW
  · rw [List.nodup_append]
    refine ⟨hnd, by simp, fun a ha b hb => ?_⟩
    obtain rfl : b = p := by simpa using hb
    exact fun e => hp (e ▸ hsub a ha)
  · rw [upd_some]
    by_cases e : q = p
    · subst e; simp
    · simp only [e, decide_false, Bool.false_or, List.mem_append, List.mem_singleton, or_false]
      unfold evM evO
      split
      · exact h.inn q hq
      · rename_i hl
        match os, h, hl with
        | [], h, hl => exact absurd h.room1 (by simp at hl; omega)
        | o :: r, h, hl =>
          have hnd := List.nodup_cons.1 h.nd
          simp only [List.getD_cons_zero, List.drop_succ_cons, List.drop_zero]
          unfold upd
          by_cases e2 : q = o
          · subst e2; simp [hnd.1]
          · simp [e2, h.inn q hq]
  · have h1 := h.room1
    have h3 := h.len
    unfold evO
    split
    · simp; omega
    · simp; omega

theorem heap_two (w : World) (o1 o2 : Obj) : ((w.alloc o1).alloc o2).heap[w.heap.size + 1]? = some o2 := by
  have := heap_alloc_at (w.alloc o1) o2
  rwa [World.size_alloc] at this
/-- a value: two numbers -/
def pair (x1 x2 : Int) : Value := .agg #[.int .i64 x1, .int .i64 x2]
/-- what is kept are pairs -/
def Vals (M : Pl → Option Value) : Prop := ∀ p, ∃ x1 x2, (M p).getD zv = pair x1 x2

set_option maxHeartbeats 1600000 in
theorem put_was (B b room m : Nat) (v : Value) (os : List Pl) (M : Pl → Option Value) (p : Pl) (x1 x2 : Int) (hV : Vals M) (hp : p.W) (w : World) (h : CC B w b room m v os M) (hin : p ∈ os) :
    Calls Try.prog 20 #[.pointer (some ⟨b, 0, none⟩), .int .i64 p.g, kv p.k, pair x1 x2] w fun e w' => e = .returned (.int .i64 0) ∧ ∃ v', CC B w' b room m v' os (upd M p (some (pair x1 x2))) ∧ Turn w w' b m v v' := by
  have hbx : Below w.heap.size w (w.alloc (.cells #[.int .i64 x1, .int .i64 x2] 54)) := (Below.refl _ _).alloc (Nat.le_refl _) _
  have hb0 : Below w.heap.size w ((w.alloc (.cells #[.int .i64 x1, .int .i64 x2] 54)).alloc (.cells #[.int .i64 p.g, kv p.k] 82)) := hbx.alloc hbx.size _
  have h1 := h.below hb0
  have C0 := made_ob b room m v _ (h.below hbx).ob
  obtain ⟨y1, y2, hy⟩ := hV p
  have C1 := find_any b room m os.length v M p hp y1 y2 hy _ h1.ob h1.mp
  have hsome := (h.inn p hp).2 hin
  rw [hsome, hy] at C1
  have hbl := h.ob.lt
  have HX : Hid (CC B w b room m v os M ∧ Below w.heap.size w ((w.alloc (.cells #[.int .i64 x1, .int .i64 x2] 54)).alloc (.cells #[.int .i64 p.g, kv p.k] 82))) := ⟨h, hb0⟩
  clear h hb0 h1 hbx hy
  unfold pv at *
  unfold kv pair at *
  go_enter Try.func20, Try.ntmps20
  go_wp2_with fail
  refine C0.mono ?_
  rintro e w1 ⟨rfl, rfl⟩
  go_wp2_with fail
  refine C1.mono ?_
  rintro e w2 ⟨rfl, hb2⟩
  obtain ⟨h, hb0⟩ := HX.out
  have hb2' : Below w.heap.size w w2 := hb0.trans (hb2.mono hb0.size)
  have hs2 : w.heap.size + 1 < w2.heap.size := by have := hb2.size; simp at this; omega
  have hs2' : w.heap.size + 1 < w2.heap.size + 1 := by omega
  have hs1 : w.heap.size < w2.heap.size := by omega
  have hs1' : w.heap.size < w2.heap.size + 1 := by omega
  have a1 : w2.heap[w.heap.size + 1]? = some (.cells #[.int .i64 p.g, kv p.k] 82 (0, 0)) := (hb2.block (w.heap.size + 1) (by simp)).trans (heap_two w _ _)
  have a0 : w2.heap[w.heap.size]? = some (.cells #[.int .i64 x1, .int .i64 x2] 54 (0, 0)) := (hb2.block w.heap.size (by simp; omega)).trans ((heap_alloc_past (w.alloc _) _ (k := w.heap.size) (by simp)).trans (heap_alloc_at w _))
  have k0 : w2.cell? ⟨w.heap.size + 1, 0, none⟩ = some (.int .i64 p.g) := by rw [cell_at a1]; rfl
  have k1 : w2.cell? ⟨w.heap.size + 1, 1, none⟩ = some (kv p.k) := by rw [cell_at a1]; rfl
  have j0 : w2.cell? ⟨w.heap.size, 0, none⟩ = some (.int .i64 x1) := by rw [cell_at a0]; rfl
  have j1 : w2.cell? ⟨w.heap.size, 1, none⟩ = some (.int .i64 x2) := by rw [cell_at a0]; rfl
  have hb3 : Below w.heap.size w ((w2.alloc (.cells #[.int .i64 y1, .int .i64 y2] 54)).alloc (.cells #[.int .i64 p.g, kv p.k] 82)) := (hb2'.alloc hb2'.size _).alloc (by have := hb2'.size; simp; omega) _
  have h3 := h.below hb3
  obtain ⟨w4, hr4, hm4, ht4⟩ := store_run (w := ((w2.alloc (.cells #[.int .i64 y1, .int .i64 y2] 54)).alloc (.cells #[.int .i64 p.g, kv p.k] 82)).drew) (h3.mp.keep rfl) p hp (pair x1 x2) (by have := h.len; have := h.room2; unfold maxLen; omega)
  rw [hsome, if_pos rfl] at hm4
  have hg4 : ((w2.alloc (.cells #[.int .i64 y1, .int .i64 y2] 54)).alloc (.cells #[.int .i64 p.g, kv p.k] 82)).grownBy w4 (some m) := ⟨ht4.grown.os, ht4.grown.tape, ht4.grown.output, ht4.grown.size, ht4.grown.block⟩
  have HF : Hid (CC B w4 b room m v os (upd M p (some (pair x1 x2))) ∧ Turn w w4 b m v v) := by
    refine ⟨h.same p hin _ (h3.ob.keep (gr_keep hg4 h3.ob.lt h.bm)) hm4 (h3.ord.keep (fun k hk => gr_keep hg4 (h3.ord.lt k hk).2 (fun e => h.gm (by rw [← e]; exact hk)))), (Turn.of_below hb3).trans ⟨Trn.of_grown hg4 (.inr (.inl rfl)), fun k hk => .inl hk⟩⟩
  have c1 : w2.cell? ⟨b, 1, none⟩ = some (.map (some m)) := ((bel_cell hb2' hbl).1 1).trans h.ob.c1
  have hbl2 : b < w2.heap.size := by omega
  have hbl2' : b < w2.heap.size + 1 := by omega
  unfold pv kv pair at hr4
  unfold kv at k1
  clear h hb0 hb2 hb2' hb3 h3 hm4 ht4 hg4 C0 C1 HX a0 a1
  go_wp2_with fail
  go_region
  all_goals
    go_wp2_with fail
    go_ret
    exact ⟨rfl, _, HF.out⟩

set_option maxHeartbeats 1600000 in
theorem put_new (B b room m : Nat) (v : Value) (os : List Pl) (M : Pl → Option Value) (p : Pl) (x1 x2 : Int) (hV : Vals M) (hp : p.W) (w : World) (h : CC B w b room m v os M) (hB : B ≤ w.heap.size) (hin : p ∉ os) :
    Calls Try.prog 20 #[.pointer (some ⟨b, 0, none⟩), .int .i64 p.g, kv p.k, pair x1 x2] w fun e w' => e = .returned (.int .i64 0) ∧ ∃ v', CC B w' b room m v' (evO room os ++ [p]) (upd (evM room os M) p (some (pair x1 x2))) ∧ Turn w w' b m v v' := by
  have hbx : Below w.heap.size w (w.alloc (.cells #[.int .i64 x1, .int .i64 x2] 54)) := (Below.refl _ _).alloc (Nat.le_refl _) _
  have hb0 : Below w.heap.size w ((w.alloc (.cells #[.int .i64 x1, .int .i64 x2] 54)).alloc (.cells #[.int .i64 p.g, kv p.k] 82)) := hbx.alloc hbx.size _
  have h1 := h.below hb0
  have C0 := made_ob b room m v _ (h.below hbx).ob
  obtain ⟨y1, y2, hy⟩ := hV p
  have C1 := find_any b room m os.length v M p hp y1 y2 hy _ h1.ob h1.mp
  have hsome : (M p).isSome = false := by
    cases e : (M p).isSome
    · rfl
    · exact absurd ((h.inn p hp).1 e) hin
  rw [hsome, hy] at C1
  have hbl := h.ob.lt
  have HX : Hid (CC B w b room m v os M ∧ Below w.heap.size w ((w.alloc (.cells #[.int .i64 x1, .int .i64 x2] 54)).alloc (.cells #[.int .i64 p.g, kv p.k] 82))) := ⟨h, hb0⟩
  clear h hb0 h1 hbx hy
  have HJ : Hid (∀ w2, CC B w2 b room m v os M → B ≤ w2.heap.size → Calls Try.prog 38 #[.pointer (some ⟨b, 0, none⟩), pv p] w2 fun e w' => e = .returned (.tuple #[]) ∧ ∃ v', JC B w2 w' b room m v v' (evO room os ++ [p]) (evO room os).length (evM room os M)) := fun w2 hC hB => join_any B b room m v os M p w2 hC hB
  unfold pv at *
  unfold kv pair at *
  go_enter Try.func20, Try.ntmps20
  go_wp2_with fail
  refine C0.mono ?_
  rintro e w1 ⟨rfl, rfl⟩
  go_wp2_with fail
  refine C1.mono ?_
  rintro e w2 ⟨rfl, hb2⟩
  obtain ⟨h, hb0⟩ := HX.out
  have hb2' : Below w.heap.size w w2 := hb0.trans (hb2.mono hb0.size)
  have hs2 : w.heap.size + 1 < w2.heap.size := by have := hb2.size; simp at this; omega
  have hb3 : Below w.heap.size w (w2.alloc (.cells #[.int .i64 y1, .int .i64 y2] 54)) := hb2'.alloc hb2'.size _
  have a1 : w2.heap[w.heap.size + 1]? = some (.cells #[.int .i64 p.g, kv p.k] 82 (0, 0)) := (hb2.block (w.heap.size + 1) (by simp)).trans (heap_two w _ _)
  have a0 : w2.heap[w.heap.size]? = some (.cells #[.int .i64 x1, .int .i64 x2] 54 (0, 0)) := (hb2.block w.heap.size (by simp; omega)).trans ((heap_alloc_past (w.alloc _) _ (k := w.heap.size) (by simp)).trans (heap_alloc_at w _))
  have k0 : w2.cell? ⟨w.heap.size + 1, 0, none⟩ = some (.int .i64 p.g) := by rw [cell_at a1]; rfl
  have k1 : w2.cell? ⟨w.heap.size + 1, 1, none⟩ = some (kv p.k) := by rw [cell_at a1]; rfl
  have C2 := HJ.out _ (h.below hb3) (by have := hb3.size; omega)
  unfold kv at k1
  have HX2 : Hid (CC B w b room m v os M ∧ Below w.heap.size w (w2.alloc (.cells #[.int .i64 y1, .int .i64 y2] 54)) ∧ (w2.alloc (.cells #[.int .i64 y1, .int .i64 y2] 54)).heap[w.heap.size + 1]? = some (.cells #[.int .i64 p.g, kv p.k] 82 (0, 0)) ∧ (w2.alloc (.cells #[.int .i64 y1, .int .i64 y2] 54)).heap[w.heap.size]? = some (.cells #[.int .i64 x1, .int .i64 x2] 54 (0, 0))) := ⟨h, hb3, (heap_alloc_past w2 _ hs2).trans a1, (heap_alloc_past w2 _ (by omega)).trans a0⟩
  clear h hb0 hb2 hb2' hb3 a1 a0 C0 C1 HX HJ
  go_wp2_with fail
  refine C2.mono ?_
  rintro e w3 ⟨rfl, v', J⟩
  obtain ⟨h, hb3, a1, a0⟩ := HX2.out
  have hne : ∀ A, w.heap.size ≤ A → ¬ (A = b ∨ A = m ∨ v.ownBlock = some A) := by
    rintro A hA (e | e | e)
    · omega
    · have := h.mp.lt; omega
    · have := (h.ord.lt _ e).2; omega
  have a3 : w3.heap[w.heap.size + 1]? = some (.cells #[.int .i64 p.g, kv p.k] 82 (0, 0)) := (J.turn.trn.block _ (lt_of_heap a1) (hne _ (by omega))).trans a1
  have a4 : w3.heap[w.heap.size]? = some (.cells #[.int .i64 x1, .int .i64 x2] 54 (0, 0)) := (J.turn.trn.block _ (lt_of_heap a0) (hne _ (by omega))).trans a0
  have d0 : w3.cell? ⟨w.heap.size + 1, 0, none⟩ = some (.int .i64 p.g) := by rw [cell_at a3]; rfl
  have d1 : w3.cell? ⟨w.heap.size + 1, 1, none⟩ = some (kv p.k) := by rw [cell_at a3]; rfl
  have i0 : w3.cell? ⟨w.heap.size, 0, none⟩ = some (.int .i64 x1) := by rw [cell_at a4]; rfl
  have i1 : w3.cell? ⟨w.heap.size, 1, none⟩ = some (.int .i64 x2) := by rw [cell_at a4]; rfl
  have hs3 : w.heap.size + 1 < w3.heap.size := lt_of_heap a3
  have hs4 : w.heap.size < w3.heap.size := lt_of_heap a4
  have hb4 : Below w3.heap.size w3 (w3.alloc (.cells #[.int .i64 p.g, kv p.k] 82)) := (Below.refl _ _).alloc (Nat.le_refl _) _
  have hlen : (evO room os).length < maxLen := by
    have h5 := h.len
    have h6 := h.room2
    have : (evO room os).length ≤ os.length := by unfold evO; split <;> simp
    unfold maxLen; omega
  obtain ⟨w4, hr4, hm4, ht4⟩ := store_run (w := (w3.alloc (.cells #[.int .i64 p.g, kv p.k] 82)).drew) (J.mp.keep (hb4.block m J.mp.lt)) p hp (pair x1 x2) hlen
  have hno : (evM room os M p).isSome = false := by
    unfold evM
    split
    · exact hsome
    · show (if p = _ then none else M p).isSome = false
      split
      · rfl
      · exact hsome
  rw [hno] at hm4
  simp only [Bool.false_eq_true, if_false] at hm4
  have hg4 : (w3.alloc (.cells #[.int .i64 p.g, kv p.k] 82)).grownBy w4 (some m) := ⟨ht4.grown.os, ht4.grown.tape, ht4.grown.output, ht4.grown.size, ht4.grown.block⟩
  have HF : Hid (CC B w4 b room m v' (evO room os ++ [p]) (upd (evM room os M) p (some (pair x1 x2))) ∧ Turn w w4 b m v v') := by
    have ob4 : Ob w4 b room m v' := (J.ob.keep (hb4.block b J.ob.lt)).keep (gr_keep hg4 (by have := J.ob.lt; simp; omega) h.bm)
    have or4 : Ord B w4 v' (evO room os ++ [p]) := (J.ord.keep (fun k hk => hb4.block k (J.ord.lt k hk).2)).keep (fun k hk => gr_keep hg4 (by have := (J.ord.lt k hk).2; simp; omega) (fun e => J.gm (by rw [← e]; exact hk)))
    exact ⟨h.more p hp hin _ ob4 hm4 or4 J.gb J.gm, ((Turn.of_below hb3).trans J.turn).trans ((Turn.of_below hb4).trans ⟨Trn.of_grown hg4 (.inr (.inl rfl)), fun k hk => .inl hk⟩)⟩
  have c1 := J.ob.c1
  have hbl3 := J.ob.lt
  unfold pv kv pair at hr4
  unfold kv at d1
  clear h hb3 a1 a0 a3 a4 J hb4 hm4 ht4 hg4 HX2 C2 hne
  go_wp2_with fail
  go_region
  all_goals
    go_wp2_with fail
    go_ret
    exact ⟨rfl, _, HF.out⟩
end Go.Proofs.Ytgafdbamlmaifaa.S
