/-
  What join does: the oldest goes where there is no room, and one more comes.
-/
import Derived.Test.YtgafdbamlmaifaaSh
import Derived.Test.YtgafdbamlmaifaaSd
import Derived.BigRegion
import Derived.Deep.DeepCutAuto
namespace Go.Proofs.Ytgafdbamlmaifaa.S
open Go.RowKit Go.Maps
set_option linter.unusedVariables false
set_option maxRecDepth 20000

theorem below_drewN {B : Nat} {W w : World} (h : Below B W w) : ∀ n, Below B W (w.drewN n) := fun n => ⟨h.os, h.tape, h.output, h.size, h.block⟩
/-- an append in a region, by what it comes to -/
theorem step_append_run {P : Program} {ops : Array Oper} {o : Oper} {a : Act} {w : World} {K : Act → World → Prop} {Q : Exit → Act → World → Prop} {E : Prop}
    (hg : o.guard = none) (s x : Operand) (t : TypeId) (hop : o.op = Op.call { callee := Callee.builtin Builtin.append, args := #[s, x], argTypes := #[t, t] })
    (vs vx v' : Value) (w' : World) (hs : a.eval s = vs) (hx : a.eval x = vx) (hrun : (Builtin.append_ #[t, t] o.type #[vs, vx]).run P w = .ok v' w') (hK : K (a.put o.dst v') w') :
    if Region.wanted o (yielded ops a.tmps) = true then Oper.wp P o a w K Q else E := by
  have hw : Region.wanted o (yielded ops a.tmps) = true := by simp [Region.wanted, hg]
  rw [if_pos hw]
  unfold Oper.wp
  simp [execOp, hop, resolve, invoke, builtin, hs, hx, hrun, Result.andThen]
  exact hK

/-- behind join: the order has one more, the map not yet -/
structure JC (B : Nat) (w0 w : World) (b room m : Nat) (v v' : Value) (os : List Pl) (N : Nat) (M : Pl → Option Value) : Prop where
  ob : Ob w b room m v'
  mp : MapIs w m N M
  ord : Ord B w v' os
  turn : Turn w0 w b m v v'
  gb : v'.ownBlock ≠ some b
  gm : v'.ownBlock ≠ some m

theorem ord_form {B : Nat} {w : World} {v : Value} {os : List Pl} (h : Ord B w v os) : ∃ a n c, v = .slice a n c := by
  rcases h with ⟨rfl, rfl⟩ | ⟨g, c, rfl, _⟩
  · exact ⟨_, _, _, rfl⟩
  · exact ⟨_, _, _, rfl⟩
theorem push_fin {B : Nat} {x : World} {b room m N : Nat} {v : Value} {os : List Pl} {M : Pl → Option Value} (ho : Ob x b room m v) (hm : MapIs x m N M) (hord : Ord B x v os) (hB : B ≤ x.heap.size) (hl : os.length < 100000)
    (bm : b ≠ m) (gb : v.ownBlock ≠ some b) (gm : v.ownBlock ≠ some m) (p : Pl) :
    ∃ v' w', (Builtin.append_ #[78, 78] 78 #[v, .slice (some ⟨x.heap.size, 0, none⟩) 1 1]).run Try.prog (x.alloc (.cells (pc p).toArray 82)) = .ok v' w' ∧ Ob w' b room m v ∧ JC B x (w'.setCell ⟨b, 2, none⟩ v') b room m v v' (os ++ [p]) N M := by
  obtain ⟨v', w', hrun, h1, h2, h3⟩ := hord.push p hl hB
  have hbl := ho.lt
  have hml := hm.lt
  have old : ∀ k, k < x.heap.size → v.ownBlock ≠ some k → w'.heap[k]? = x.heap[k]? := fun k hk hv => (h2.block k (by simp; omega) (fun e => hv e.symm)).trans (heap_alloc_past x _ hk)
  have ob1 : Ob w' b room m v := ho.keep (old b hbl gb)
  have mp1 : MapIs w' m N M := hm.keep (old m hml gm)
  obtain ⟨o1, o2⟩ := ob1.set v'
  have gb' : v'.ownBlock ≠ some b := by
    rcases h3 with h3 | h3
    · rw [h3]; exact gb
    · rw [h3]; intro e; cases e; omega
  have gm' : v'.ownBlock ≠ some m := by
    rcases h3 with h3 | h3
    · rw [h3]; exact gm
    · rw [h3]; intro e; cases e; omega
  have hsz : x.heap.size ≤ w'.heap.size := by have := h2.size; simp at this; omega
  refine ⟨v', w', hrun, ob1, ⟨o1, mp1.keep (gr_keep o2 mp1.lt (fun e => bm e.symm)), h1.keep (fun k hk => gr_keep o2 (h1.lt k hk).2 (fun e => gb' (by rw [← e]; exact hk))), ⟨⟨o2.os.trans h2.os, o2.tape.trans h2.tape, o2.output.trans h2.output, Nat.le_trans hsz o2.size, fun k hk hn => ?_⟩, fun k hk => ?_⟩, gb', gm'⟩⟩
  · exact (gr_keep o2 (by omega) (fun e => hn (.inl e))).trans (old k hk (fun e => hn (.inr (.inr e))))
  · rcases h3 with h3 | h3
    · left; rw [← h3]; exact hk
    · right; rw [h3] at hk; cases hk; omega

set_option maxHeartbeats 1600000 in
/-- there is room -/
theorem join_room (B b room m N : Nat) (v : Value) (os : List Pl) (M : Pl → Option Value) (p : Pl) (w : World) (ho : Ob w b room m v) (hm : MapIs w m N M) (hord : Ord B w v os) (hB : B ≤ w.heap.size) (hn : os.length < room) (hr : room ≤ 1024)
    (bm : b ≠ m) (gb : v.ownBlock ≠ some b) (gm : v.ownBlock ≠ some m) :
    Calls Try.prog 38 #[.pointer (some ⟨b, 0, none⟩), pv p] w fun e w' => e = .returned (.tuple #[]) ∧ ∃ v', JC B w w' b room m v v' (os ++ [p]) N M := by
  have c0 := ho.c0
  have c2 := ho.c2
  have hbl := ho.lt
  have hn' : ¬ ((room : Int) ≤ (os.length : Int)) := by omega
  have hb0 : Below w.heap.size w (w.alloc (.cells #[.int .i64 p.g, kv p.k] 82)) := (Below.refl _ _).alloc (Nat.le_refl _) _
  have PF : ∀ k, ∃ v' w', (Builtin.append_ #[78, 78] 78 #[v, .slice (some ⟨w.heap.size + 1, 0, none⟩) 1 1]).run Try.prog (((w.alloc (.cells #[.int .i64 p.g, kv p.k] 82)).drewN k).alloc (.cells #[.int .i64 p.g, kv p.k] 82)) = .ok v' w' ∧ Ob w' b room m v ∧ Hid (JC B w (w'.setCell ⟨b, 2, none⟩ v') b room m v v' (os ++ [p]) N M) := fun k => by
    obtain ⟨v', w', h1, h2, h3⟩ := push_fin (B := B) (x := (w.alloc (.cells #[.int .i64 p.g, kv p.k] 82)).drewN k) (ho.keep (hb0.block b hbl)) (hm.keep (hb0.block m hm.lt)) (hord.keep (fun j hj => hb0.block j (hord.lt j hj).2)) (by simp [World.drewN]; omega) (by omega) bm gb gm p
    refine ⟨v', w', ?_, h2, h3.ob, h3.mp, h3.ord, ?_, h3.gb, h3.gm⟩
    · simpa [World.drewN, pc] using h1
    · exact (Turn.of_below (v := v) (below_drewN hb0 k)).trans h3.turn
  obtain ⟨a, n, c, rfl, hnl⟩ : ∃ a n c, v = .slice a n c ∧ n = os.length := by
    rcases hord with ⟨rfl, rfl⟩ | ⟨g, c, rfl, _⟩
    · exact ⟨_, _, _, rfl, rfl⟩
    · exact ⟨_, _, _, rfl, rfl⟩
  rw [← hnl] at hn'
  have hn2 : n ≤ 1024 := by omega
  clear hb0 ho hm hord gb gm hnl hn
  unfold pv
  unfold kv at *
  go_enter Try.func38, Try.ntmps38
  go_wp2_with fail
  go_quiet (fail)
  obtain ⟨v', w1, hrun, ho1, HF⟩ := PF (nq + 1)
  obtain ⟨a', n', c', rfl⟩ := ord_form HF.out.ord
  have d2 := ho1.c2
  have df := ho1.f 2
  have dl := ho1.lt
  clear PF ho1
  go_wp2_with fail
  go_region_law (refine step_append_run rfl (.tmp 36) (.tmp 38) 78 rfl _ _ _ w1 (by rfl) (by rfl) hrun ?_)
  all_goals
    exact bodyPost_end (v := .tuple #[]) (by simp [results, Try.results38]) rfl ⟨rfl, _, HF.out⟩

set_option maxHeartbeats 1600000 in
/-- there is none: the oldest goes -/
theorem join_full (B b room m N g c : Nat) (o : Pl) (r : List Pl) (M : Pl → Option Value) (p : Pl) (hoW : o.W) (hin : (M o).isSome = true) (w : World) (ho : Ob w b room m (.slice (some ⟨g, 0, none⟩) (r.length + 1) c)) (hm : MapIs w m N M)
    (hrow : Row w g c (r.length + 1) (fun i => (o :: r).getD i p0)) (hgB : B ≤ g) (hB : B ≤ w.heap.size) (hn : room ≤ r.length + 1) (hr : r.length + 1 ≤ 1024)
    (bm : b ≠ m) (gb : g ≠ b) (gm : g ≠ m) :
    Calls Try.prog 38 #[.pointer (some ⟨b, 0, none⟩), pv p] w fun e w' => e = .returned (.tuple #[]) ∧ ∃ v', JC B w w' b room m (.slice (some ⟨g, 0, none⟩) (r.length + 1) c) v' (r ++ [p]) (N - 1) (upd M o none) := by
  have c0 := ho.c0
  have c1 := ho.c1
  have c2 := ho.c2
  have hbl := ho.lt
  have hgl := hrow.lt
  have g0 := hrow.c0 0 (by omega)
  have g1 := hrow.c1 0 (by omega)
  simp only [List.getD_cons_zero, Nat.zero_mul, Nat.zero_add] at g0 g1
  have hn' : (room : Int) ≤ (r.length : Int) + 1 := by omega
  have hb0 : Below w.heap.size w (w.alloc (.cells #[.int .i64 p.g, kv p.k] 82)) := (Below.refl _ _).alloc (Nat.le_refl _) _
  have DR : ∀ k, ∃ w2, (Builtin.delete_ #[77, 82] 0 #[.map (some m), pv o]).run Try.prog ((w.alloc (.cells #[.int .i64 p.g, kv p.k] 82)).drewN k) = .ok (.tuple #[]) w2 ∧ Hid (MapIs w2 m (N - 1) (upd M o none) ∧ (w.alloc (.cells #[.int .i64 p.g, kv p.k] 82)).grownBy w2 (some m)) := fun k => by
    obtain ⟨w2, h1, h2, h3⟩ := drop_run (w := (w.alloc (.cells #[.int .i64 p.g, kv p.k] 82)).drewN k) (hm.keep (hb0.block m hm.lt)) o hoW 0
    rw [if_pos hin] at h2
    exact ⟨w2, h1, h2, ⟨h3.grown.os, h3.grown.tape, h3.grown.output, h3.grown.size, h3.grown.block⟩⟩
  have HX : Hid (Ob w b room m (.slice (some ⟨g, 0, none⟩) (r.length + 1) c) ∧ Row w g c (r.length + 1) (fun i => (o :: r).getD i p0) ∧ Below w.heap.size w (w.alloc (.cells #[.int .i64 p.g, kv p.k] 82)) ∧ m < w.heap.size) := ⟨ho, hrow, hb0, hm.lt⟩
  clear hb0 ho hm hrow
  unfold pv at *
  unfold kv at *
  go_enter Try.func38, Try.ntmps38
  go_wp2_with fail
  go_quiet (fail)
  obtain ⟨w2, hd, H2⟩ := DR (nq + 1)
  clear DR
  go_wp2_with fail
  go_region
  obtain ⟨ho, hrow, hb0, hml⟩ := HX.out
  obtain ⟨hm2, hg2⟩ := H2.out
  have ho2 : Ob w2 b room m (.slice (some ⟨g, 0, none⟩) (r.length + 1) c) := (ho.keep (hb0.block b hbl)).keep (gr_keep hg2 (by simp; omega) bm)
  have hr2 : Row w2 g c (r.length + 1) (fun i => (o :: r).getD i p0) := (hrow.keep (hb0.block g hgl)).keep (gr_keep hg2 (by simp; omega) gm)
  have hp2 : w2.heap[w.heap.size]? = some (.cells #[.int .i64 p.g, kv p.k] 82 (0, 0)) := (gr_keep hg2 (k := w.heap.size) (by simp) (by omega)).trans (heap_alloc_at w _)
  have hs2 : w.heap.size < w2.heap.size := by have := hg2.size; simp at this; omega
  have ht2 : Turn w w2 b m (.slice (some ⟨g, 0, none⟩) (r.length + 1) c) (.slice (some ⟨g, 0, none⟩) (r.length + 1) c) := (Turn.of_below hb0).trans ⟨Trn.of_grown hg2 (.inr (.inl rfl)), fun k hk => .inl hk⟩
  have C := delete_one g c r.length _ w2 hr2
  have k2 := ho2.c2
  have hbl2 := ho2.lt
  have HX2 : Hid (Ob w2 b room m (.slice (some ⟨g, 0, none⟩) (r.length + 1) c) ∧ MapIs w2 m (N - 1) (upd M o none) ∧ w2.heap[w.heap.size]? = some (.cells #[.int .i64 p.g, kv p.k] 82 (0, 0)) ∧ Turn w w2 b m (.slice (some ⟨g, 0, none⟩) (r.length + 1) c) (.slice (some ⟨g, 0, none⟩) (r.length + 1) c)) := ⟨ho2, hm2, hp2, ht2⟩
  clear ho hrow hb0 hml hm2 hg2 ho2 hr2 hp2 ht2 H2 HX hd c0 c1 c2 g0 g1
  go_wp2_with fail
  refine C.mono ?_
  rintro e w3 ⟨rfl, hr3, hg3⟩
  obtain ⟨ho2, hm2, hp2, ht2⟩ := HX2.out
  have ho3 := ho2.keep (gr_keep hg3 hbl2 (fun e => gb e.symm))
  obtain ⟨o1, o2⟩ := ho3.set (.slice (some ⟨g, 0, none⟩) r.length c)
  have hgl3 := hr3.lt
  have hs3 : w2.heap.size ≤ w3.heap.size := hg3.size
  have hm4 : MapIs (w3.setCell ⟨b, 2, none⟩ (.slice (some ⟨g, 0, none⟩) r.length c)) m (N - 1) (upd M o none) := (hm2.keep (gr_keep hg3 hm2.lt (fun e => gm e.symm))).keep (gr_keep o2 (by have := hm2.lt; omega) (fun e => bm e.symm))
  have hr4 : Row (w3.setCell ⟨b, 2, none⟩ (.slice (some ⟨g, 0, none⟩) r.length c)) g c r.length (fun i => r.getD i p0) := (hr3.keep (gr_keep o2 hgl3 gb)).congr (fun i hi => by simp)
  have hp4 : (w3.setCell ⟨b, 2, none⟩ (.slice (some ⟨g, 0, none⟩) r.length c)).heap[w.heap.size]? = some (.cells #[.int .i64 p.g, kv p.k] 82 (0, 0)) := (gr_keep o2 (by omega) (by omega)).trans ((gr_keep hg3 hs2 (by omega)).trans hp2)
  have ht4 : Turn w (w3.setCell ⟨b, 2, none⟩ (.slice (some ⟨g, 0, none⟩) r.length c)) b m (.slice (some ⟨g, 0, none⟩) (r.length + 1) c) (.slice (some ⟨g, 0, none⟩) r.length c) :=
    ht2.trans ⟨(Trn.of_grown hg3 (.inr (.inr rfl))).trans (Trn.of_grown o2 (.inl rfl)), fun k hk => .inl hk⟩
  obtain ⟨v', w5, hrun, ho5, h5⟩ := push_fin (B := B) (x := (w3.setCell ⟨b, 2, none⟩ (.slice (some ⟨g, 0, none⟩) r.length c)).drew) (o1.keep rfl) (hm4.keep rfl) (os := r) (.inr ⟨g, c, rfl, hgB, hr4.keep rfl⟩) (by simp; omega) (by omega) bm (fun e => gb (by cases e; rfl)) (fun e => gm (by cases e; rfl)) p
  obtain ⟨a', n', c', rfl⟩ := ord_form h5.ord
  have HF : Hid (JC B w (w5.setCell ⟨b, 2, none⟩ (.slice a' n' c')) b room m (.slice (some ⟨g, 0, none⟩) (r.length + 1) c) (.slice a' n' c') (r ++ [p]) (N - 1) (upd M o none)) := ⟨h5.ob, h5.mp, h5.ord, ht4.trans ⟨⟨h5.turn.trn.os, h5.turn.trn.tape, h5.turn.trn.output, h5.turn.trn.size, h5.turn.trn.block⟩, h5.turn.own⟩, h5.gb, h5.gm⟩
  have d2 := ho5.c2
  have df := ho5.f 2
  have dl := ho5.lt
  have e2 := ho3.c2
  have ef := ho3.f 2
  have el := ho3.lt
  have q2 := o1.c2
  have q0 : (w3.setCell ⟨b, 2, none⟩ (.slice (some ⟨g, 0, none⟩) r.length c)).cell? ⟨w.heap.size, 0, none⟩ = some (.int .i64 p.g) := by rw [cell_at hp4]; rfl
  have q1 : (w3.setCell ⟨b, 2, none⟩ (.slice (some ⟨g, 0, none⟩) r.length c)).cell? ⟨w.heap.size, 1, none⟩ = some (kv p.k) := by rw [cell_at hp4]; rfl
  simp only [World.drew, World.size_setCell] at hrun
  unfold pc kv at hrun
  unfold kv at q1
  clear C HX2 ho2 hm2 hp2 ht2 ho3 o1 o2 hm4 hr4 hp4 ht4 h5 ho5 hr3 hg3
  go_wp2_with fail
  go_region_law (refine step_append_run rfl (.tmp 36) (.tmp 38) 78 rfl _ _ _ w5 (by rfl) (by rfl) hrun ?_)
  all_goals
    exact bodyPost_end (v := .tuple #[]) (by simp [results, Try.results38]) rfl ⟨rfl, _, HF.out⟩
end Go.Proofs.Ytgafdbamlmaifaa.S
