/-
  A whole cache; the closure with which leave asks and drops.
-/
import Derived.Test.YtgafdbamlmaifaaSf
namespace Go.Proofs.Ytgafdbamlmaifaa.S
open Go.RowKit Go.Maps
set_option linter.unusedVariables false
set_option maxRecDepth 20000

/-- a cache: its block b, its map m, its order v; the places os, the oldest first, and what it keeps at each -/
structure CC (B : Nat) (w : World) (b room m : Nat) (v : Value) (os : List Pl) (M : Pl → Option Value) : Prop where
  ob : Ob w b room m v
  mp : MapIs w m os.length M
  ord : Ord B w v os
  bB : B ≤ b
  mB : B ≤ m
  bm : b ≠ m
  gb : v.ownBlock ≠ some b
  gm : v.ownBlock ≠ some m
  ps : ∀ p ∈ os, p.W
  nd : os.Nodup
  inn : ∀ p : Pl, p.W → ((M p).isSome = true ↔ p ∈ os)
  room1 : 1 ≤ room
  room2 : room ≤ 1024
  len : os.length ≤ room
/-- what a call on a cache turns: its own blocks, and new ones -/
structure Turn (w w' : World) (b m : Nat) (v v' : Value) : Prop where
  trn : Trn (fun k => k = b ∨ k = m ∨ v.ownBlock = some k) w w'
  own : ∀ k, v'.ownBlock = some k → v.ownBlock = some k ∨ w.heap.size ≤ k
theorem Turn.of_below {w w' : World} {b m : Nat} {v : Value} (h : Below w.heap.size w w') : Turn w w' b m v v := ⟨Trn.of_below h, fun k hk => .inl hk⟩
theorem Turn.trans {w w' w'' : World} {b m : Nat} {v v' v'' : Value} (h : Turn w w' b m v v') (k : Turn w' w'' b m v' v'') : Turn w w'' b m v v'' := by
  refine ⟨⟨k.trn.os.trans h.trn.os, k.trn.tape.trans h.trn.tape, k.trn.output.trans h.trn.output, Nat.le_trans h.trn.size k.trn.size, fun i hi hn => ?_⟩, fun i hi => ?_⟩
  · refine (k.trn.block i (Nat.lt_of_lt_of_le hi h.trn.size) (fun hs => hn ?_)).trans (h.trn.block i hi hn)
    rcases hs with hs | hs | hs
    · exact .inl hs
    · exact .inr (.inl hs)
    · rcases h.own i hs with h' | h'
      · exact .inr (.inr h')
      · omega
  · rcases k.own i hi with h' | h'
    · exact h.own i h'
    · exact .inr (Nat.le_trans h.trn.size h')
theorem CC.keep {B : Nat} {w w' : World} {b room m : Nat} {v : Value} {os : List Pl} {M : Pl → Option Value} (h : CC B w b room m v os M) (hb : w'.heap[b]? = w.heap[b]?) (hm : w'.heap[m]? = w.heap[m]?)
    (hg : ∀ k, v.ownBlock = some k → w'.heap[k]? = w.heap[k]?) : CC B w' b room m v os M :=
  ⟨h.ob.keep hb, h.mp.keep hm, h.ord.keep hg, h.bB, h.mB, h.bm, h.gb, h.gm, h.ps, h.nd, h.inn, h.room1, h.room2, h.len⟩
theorem CC.below {B : Nat} {w w' : World} {b room m : Nat} {v : Value} {os : List Pl} {M : Pl → Option Value} (h : CC B w b room m v os M) (hk : Below w.heap.size w w') : CC B w' b room m v os M :=
  h.keep (hk.block b h.ob.lt) (hk.block m h.mp.lt) (fun k hv => hk.block k (h.ord.lt k hv).2)
/-- outside of the cache's blocks nothing has turned -/
theorem Turn.below {B : Nat} {w w' : World} {b room m : Nat} {v v' : Value} {os : List Pl} {M : Pl → Option Value} (h : Turn w w' b m v v') (hC : CC B w b room m v os M) (hB : B ≤ w.heap.size) : Below B w w' :=
  ⟨h.trn.os, h.trn.tape, h.trn.output, h.trn.size, fun k hk => h.trn.block k (by omega) (fun hs => by
    rcases hs with hs | hs | hs
    · have := hC.bB; omega
    · have := hC.mB; omega
    · have := (hC.ord.lt k hs).1; omega)⟩

/-- a closure that tells P of a place -/
structure Means (f : FuncId) (caps : Array Value) (cb : Nat) (obj : Obj) (P : Pl → Bool) : Prop where
  enter : ∀ (args : Array Value) (w : World), (callFunc f args).run Try.prog w = .ok (.enter f args) w
  call : ∀ w (p : Pl), w.heap[cb]? = some obj → Calls Try.prog f (#[pv p] ++ caps) w fun e w' => e = .returned (.bool (P p)) ∧ Below w.heap.size w w'

/-- what is kept when j places were asked -/
def Mj (G : Nat → Pl) (P : Pl → Bool) (M : Pl → Option Value) (j : Nat) : Pl → Option Value := fun q => if (List.range j).any (fun k => decide (G k = q)) && P q then none else M q
theorem Mj_zero (G : Nat → Pl) (P : Pl → Bool) (M : Pl → Option Value) : Mj G P M 0 = M := by
  funext q
  simp [Mj]
theorem Mj_no (G : Nat → Pl) (P : Pl → Bool) (M : Pl → Option Value) (j : Nat) (h : P (G j) = false) : Mj G P M (j + 1) = Mj G P M j := by
  funext q
  unfold Mj
  rw [List.range_succ]
  by_cases e : G j = q
  · subst e
    simp [h]
  · simp [e]
theorem Mj_yes (G : Nat → Pl) (P : Pl → Bool) (M : Pl → Option Value) (j : Nat) (h : P (G j) = true) : Mj G P M (j + 1) = upd (Mj G P M j) (G j) none := by
  funext q
  unfold Mj upd
  rw [List.range_succ]
  by_cases e : G j = q
  · subst e
    simp [h]
  · have e' : ¬ q = G j := fun h => e h.symm
    simp [e, e']
/-- the state of leave's closure -/
structure LS (A cb : Nat) (obj : Obj) (f : FuncId) (caps : Array Value) (b room m : Nat) (v : Value) (n : Nat) (G : Nat → Pl) (P : Pl → Bool) (M : Pl → Option Value) (j : Nat) (w : World) : Prop where
  cap : w.heap[cb]? = some obj
  a0 : w.heap[A]? = some (.cells #[.pointer (some ⟨b, 0, none⟩)] 51 (0, 0))
  a1 : w.heap[A + 1]? = some (.cells #[.func (.func f) #[] caps] 87 (0, 0))
  ob : Ob w b room m v
  mp : MapIs w m ((keptL G P j).length + (n - j)) (Mj G P M j)

theorem cell_at {w : World} {b : Nat} {cs : Array Value} {t : TypeId} (h : w.heap[b]? = some (.cells cs t (0, 0))) (o : Nat) : w.cell? ⟨b, o, none⟩ = cs[o]? := by simp [World.cell?, h]

set_option maxHeartbeats 800000 in
theorem asks (A cb : Nat) (obj : Obj) (f : FuncId) (caps : Array Value) (b room m : Nat) (v : Value) (n : Nat) (G : Nat → Pl) (P : Pl → Bool) (M : Pl → Option Value) (F : Means f caps cb obj P) (j : Nat) (w : World)
    (hE : LS A cb obj f caps b room m v n G P M j w) (hj : j < n) (hW : (G j).W) (hin : (Mj G P M j (G j)).isSome = true) (hbm : b ≠ m) (hAm : A ≠ m) (hAm1 : A + 1 ≠ m) (hcm : cb ≠ m) :
    Calls Try.prog 53 #[pv (G j), .pointer (some ⟨A + 1, 0, none⟩), .pointer (some ⟨A, 0, none⟩)] w fun e w' => e = .returned (.bool (P (G j))) ∧ LS A cb obj f caps b room m v n G P M (j + 1) w' ∧ w.grownBy w' (some m) := by
  have hcf := F.enter
  have hA : A + 1 < w.heap.size := lt_of_heap hE.a1
  have hb0 : Below w.heap.size w (w.alloc (.cells #[.int .i64 (G j).g, kv (G j).k] 82)) := (Below.refl _ _).alloc (Nat.le_refl _) _
  have C := F.call (w.alloc (.cells #[.int .i64 (G j).g, kv (G j).k] 82)) (G j) ((hb0.block cb (lt_of_heap hE.cap)).trans hE.cap)
  have x1 : w.cell? ⟨A + 1, 0, none⟩ = some (.func (.func f) #[] caps) := by rw [cell_at hE.a1]; rfl
  have HE : Hid (LS A cb obj f caps b room m v n G P M j w) := hE
  have HB : Hid (Below w.heap.size w (w.alloc (.cells #[.int .i64 (G j).g, kv (G j).k] 82))) := hb0
  clear hE hb0
  unfold pv kv at *
  go_enter Try.func53, Try.ntmps53
  go_wp2_with fail
  refine C.mono ?_
  rintro e w1 ⟨rfl, hb1⟩
  have hE := HE.out
  have hb : Below w.heap.size w w1 := HB.out.trans (hb1.mono HB.out.size)
  have lt : ∀ {k o}, w.heap[k]? = some o → k < w.heap.size := fun h => lt_of_heap h
  have hL1 : LS A cb obj f caps b room m v n G P M j w1 := ⟨(hb.block _ (lt hE.cap)).trans hE.cap, (hb.block _ (lt hE.a0)).trans hE.a0, (hb.block _ (lt hE.a1)).trans hE.a1, hE.ob.keep (hb.block _ hE.ob.lt), hE.mp.keep (hb.block _ hE.mp.lt)⟩
  have k0 : ∀ o, w1.cell? ⟨w.heap.size, o, none⟩ = _ := (bel_cell hb1 (b := w.heap.size) (by simp)).1
  have hs1 : w.heap.size < w1.heap.size := by have := hb1.size; simp at this; omega
  have hks := kept_succ G P j
  cases hP : P (G j)
  · rw [hP] at hks
    have HF : Hid (LS A cb obj f caps b room m v n G P M (j + 1) w1 ∧ w.grownBy w1 (some m)) := by
      refine ⟨⟨hL1.cap, hL1.a0, hL1.a1, hL1.ob, ?_⟩, ⟨hb.os, hb.tape, hb.output, hb.size, fun k hk _ => hb.block k hk⟩⟩
      rw [Mj_no G P M j hP, hks]
      have := hL1.mp
      simpa [show (keptL G P j).length + 1 + (n - (j + 1)) = (keptL G P j).length + (n - j) by omega] using this
    clear hE hb lt hL1 k0 hks hb1 C
    go_wp2_with fail
    go_ret
    exact ⟨ret_bool hP.symm, HF.out⟩
  · rw [hP] at hks
    have c0 : w1.cell? ⟨A, 0, none⟩ = some (.pointer (some ⟨b, 0, none⟩)) := by rw [cell_at hL1.a0]; rfl
    have c1 := hL1.ob.c1
    have hbl := hL1.ob.lt
    have hm1 : MapIs w1.drew m ((keptL G P j).length + (n - j)) (Mj G P M j) := hL1.mp.keep rfl
    obtain ⟨w2, hr, hm2, ht⟩ := drop_run hm1 (G j) hW 0
    rw [hin, if_pos rfl] at hm2
    have hg2 : w1.grownBy w2 (some m) := ⟨ht.grown.os, ht.grown.tape, ht.grown.output, ht.grown.size, ht.grown.block⟩
    have HF : Hid (LS A cb obj f caps b room m v n G P M (j + 1) w2 ∧ w.grownBy w2 (some m)) := by
      refine ⟨⟨(gr_keep hg2 (lt_of_heap hL1.cap) hcm).trans hL1.cap, (gr_keep hg2 (lt_of_heap hL1.a0) hAm).trans hL1.a0, (gr_keep hg2 (lt_of_heap hL1.a1) hAm1).trans hL1.a1, hL1.ob.keep (gr_keep hg2 hL1.ob.lt hbm), ?_⟩, grown_trans ⟨hb.os, hb.tape, hb.output, hb.size, fun k hk _ => hb.block k hk⟩ hg2⟩
      rw [Mj_yes G P M j hP, hks]
      simp only [if_true, List.append_nil]
      rw [show (keptL G P j).length + (n - (j + 1)) = (keptL G P j).length + (n - j) - 1 by omega]
      exact hm2
    unfold pv kv at hr
    clear hE hb lt hL1 hks hb1 C hm1 hm2 ht hg2
    go_wp2_with fail
    go_region
    all_goals
      go_wp2_with fail
      go_ret
      exact ⟨ret_bool hP.symm, HF.out⟩
end Go.Proofs.Ytgafdbamlmaifaa.S
