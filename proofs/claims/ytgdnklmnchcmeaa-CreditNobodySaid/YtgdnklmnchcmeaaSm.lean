/-
  A scheduler in the heap: a map of looks, a row of places with their queues; what of, place, under, Look, Runs and Queue tell.
-/
import Derived.Test.YtgdnklmnchcmeaaQs
namespace Go.Proofs.Ytgdnklmnchcmeaa
open Go.RowKit Go.Maps
set_option linter.unusedVariables false
set_option maxRecDepth 100000
/-- a place's four cells -/
structure Pv where
  q : Value
  t : Bool
  i : Int
  c : Int
def pvc (x : Pv) : List Value := [x.q, .bool x.t, .int .i64 x.i, .int .i64 x.c]
/-- the row of places -/
def PR (w : World) (p n : Nat) (F : Nat → Pv) : Prop :=
  ∃ cur : Array Value, w.heap[p]? = some (.cells cur 82 (0, 0)) ∧ cur.size = n * 4 ∧ ∀ i, i < n → ∀ j, j < 4 → cur[i * 4 + j]? = (pvc (F i))[j]?
def fset (F : Nat → Pv) (i : Nat) (f : Pv → Pv) (j : Nat) : Pv := if j = i then f (F j) else F j
theorem fset_same (F : Nat → Pv) (i : Nat) (f : Pv → Pv) : fset F i f i = f (F i) := if_pos rfl
theorem fset_other {F : Nat → Pv} {i j : Nat} {f : Pv → Pv} (h : j ≠ i) : fset F i f j = F j := if_neg h
section
variable {w w' : World} {p n : Nat} {F : Nat → Pv}
theorem PR.lt (h : PR w p n F) : p < w.heap.size := by obtain ⟨cur, h, _⟩ := h; exact lt_of_heap h
theorem PR.keep (h : PR w p n F) (hk : w'.heap[p]? = w.heap[p]?) : PR w' p n F := by obtain ⟨cur, h, r⟩ := h; exact ⟨cur, hk.trans h, r⟩
theorem PR.typ (h : PR w p n F) : ∃ cs, w.heap[p]? = some (.cells cs 82 (0, 0)) := by obtain ⟨cur, h, _⟩ := h; exact ⟨cur, h⟩
theorem PR.cj (h : PR w p n F) {i : Nat} (hi : i < n) {j : Nat} (hj : j < 4) : w.cell? ⟨p, i * 4 + j, none⟩ = (pvc (F i))[j]? := by
  obtain ⟨cur, h, h1, h2⟩ := h
  rw [cell_at h, h2 i hi j hj]
theorem PR.all (h : PR w p n F) {i : Nat} (hi : i < n) : w.cell? ⟨p, i * 4, none⟩ = some (F i).q ∧ w.cell? ⟨p, i * 4 + 1, none⟩ = some (.bool (F i).t) ∧ w.cell? ⟨p, i * 4 + 2, none⟩ = some (.int .i64 (F i).i) ∧ w.cell? ⟨p, i * 4 + 3, none⟩ = some (.int .i64 (F i).c) :=
  ⟨h.cj hi (j := 0) (by decide), h.cj hi (j := 1) (by decide), h.cj hi (j := 2) (by decide), h.cj hi (j := 3) (by decide)⟩
theorem PR.f (h : PR w p n F) (i : Nat) : w.frozen? ⟨p, i, none⟩ = false := by obtain ⟨cur, h, _⟩ := h; exact fz_at h i
theorem PR.put (h : PR w p n F) {i : Nat} (hi : i < n) (j : Nat) (hj : j < 4) (u : Value) {f : Pv → Pv} (hu : (pvc (F i)).set j u = pvc (f (F i))) : PR (w.setCell ⟨p, i * 4 + j, none⟩ u) p n (fset F i f) := by
  obtain ⟨cur, h, h1, h2⟩ := h
  refine ⟨_, heap_setCell h _ _, by simpa using h1, fun a ha b hb => ?_⟩
  rw [Array.getElem?_setIfInBounds]
  by_cases ea : a = i
  · subst ea
    rw [fset_same, ← hu]
    by_cases eb : b = j
    · subst eb
      rw [if_pos rfl, if_pos (by omega)]
      simp [pvc, hb]
    · rw [if_neg (by omega), h2 a ha b hb, List.getElem?_set_ne (fun h => eb h.symm)]
  · rw [fset_other ea, if_neg (by omega), h2 a ha b hb]
theorem PR.trn (h : PR w p n F) (i : Nat) (u : Value) : Trn (fun k => k = p) w (w.setCell ⟨p, i, none⟩ u) := by obtain ⟨cur, h, _⟩ := h; exact trn_set1 h _ _
theorem PR.congr {G : Nat → Pv} (h : PR w p n F) (e : ∀ i, i < n → F i = G i) : PR w p n G := by
  obtain ⟨cur, h, h1, h2⟩ := h
  exact ⟨cur, h, h1, fun i hi j hj => by rw [← e i hi]; exact h2 i hi j hj⟩
end
/-- a scheduler, raw -/
structure VR (w : World) (c m p n : Nat) (per : Int) (N : Nat) (M : Int → Option Value) (F : Nat → Pv) (Qf : Nat → List Int) : Prop where
  ob : w.heap[c]? = some (.cells #[.map (some m), .slice (some ⟨p, 0, none⟩) n n, .int .i64 per] 44 (0, 0))
  mp : MapIs w m N M
  pr : PR w p n F
  qs : ∀ i, i < n → Qs w (F i).q (Qf i)
  ap : ∀ i j k, i < n → j < n → (F i).q.ownBlock = some k → (F j).q.ownBlock = some k → i = j
  nn : n ≤ 8
/-- what a call may turn -/
def Sp (m p n : Nat) (F : Nat → Pv) (k : Nat) : Prop := k = m ∨ k = p ∨ ∃ i, i < n ∧ (F i).q.ownBlock = some k
/-- queues lie where they lay, or in new blocks -/
def Nw (w : World) (n : Nat) (F G : Nat → Pv) : Prop := ∀ i, i < n → ∀ k, (G i).q.ownBlock = some k → (F i).q.ownBlock = some k ∨ w.heap.size ≤ k
theorem Nw.refl (w : World) (n : Nat) (F : Nat → Pv) : Nw w n F F := fun i hi k hk => .inl hk
theorem Nw.trans {w w1 : World} {n : Nat} {F G H : Nat → Pv} (h : Nw w n F G) (k : Nw w1 n G H) (hs : w.heap.size ≤ w1.heap.size) : Nw w n F H := fun i hi j hj => by
  rcases k i hi j hj with h1 | h1
  · exact h i hi j h1
  · exact .inr (Nat.le_trans hs h1)
theorem Sp.trans {w w1 w2 : World} {m p n : Nat} {F G : Nat → Pv} (h : Trn (Sp m p n F) w w1) (k : Trn (Sp m p n G) w1 w2) (hn : Nw w n F G) : Trn (Sp m p n F) w w2 :=
  ⟨k.os.trans h.os, k.tape.trans h.tape, k.output.trans h.output, Nat.le_trans h.size k.size, fun j hj hs => (k.block j (Nat.lt_of_lt_of_le hj h.size) fun e => by
    rcases e with e | e | ⟨i, hi, e⟩
    · exact hs (.inl e)
    · exact hs (.inr (.inl e))
    · rcases hn i hi j e with h1 | h1
      · exact hs (.inr (.inr ⟨i, hi, h1⟩))
      · omega).trans (h.block j hj hs)⟩
section
variable {w w' : World} {c m p n N : Nat} {per : Int} {M : Int → Option Value} {F : Nat → Pv} {Qf : Nat → List Int}
theorem VR.lt (h : VR w c m p n per N M F Qf) : c < w.heap.size := lt_of_heap h.ob
theorem VR.splt (h : VR w c m p n per N M F Qf) {k : Nat} (hk : Sp m p n F k) : k < w.heap.size := by
  rcases hk with rfl | rfl | ⟨i, hi, hk⟩
  · exact h.mp.lt
  · exact h.pr.lt
  · exact ((h.qs i hi).lt k hk).1
theorem VR.c0 (h : VR w c m p n per N M F Qf) : w.cell? ⟨c, 0, none⟩ = some (.map (some m)) := by rw [cell_at h.ob]; rfl
theorem VR.c1 (h : VR w c m p n per N M F Qf) : w.cell? ⟨c, 1, none⟩ = some (.slice (some ⟨p, 0, none⟩) n n) := by rw [cell_at h.ob]; rfl
theorem VR.c2 (h : VR w c m p n per N M F Qf) : w.cell? ⟨c, 2, none⟩ = some (.int .i64 per) := by rw [cell_at h.ob]; rfl
theorem VR.keep (h : VR w c m p n per N M F Qf) (hc : w'.heap[c]? = w.heap[c]?) (hk : ∀ k, Sp m p n F k → w'.heap[k]? = w.heap[k]?) : VR w' c m p n per N M F Qf :=
  ⟨hc.trans h.ob, h.mp.keep (hk m (.inl rfl)), h.pr.keep (hk p (.inr (.inl rfl))), fun i hi => (h.qs i hi).keep fun k e => hk k (.inr (.inr ⟨i, hi, e⟩)), h.ap, h.nn⟩
theorem VR.below (h : VR w c m p n per N M F Qf) (hb : Below w.heap.size w w') : VR w' c m p n per N M F Qf := h.keep (hb.block c h.lt) fun k hk => hb.block k (h.splt hk)
theorem VR.cm (h : VR w c m p n per N M F Qf) : ¬ Sp m p n F c := by
  rintro (e | e | ⟨i, hi, e⟩)
  · obtain ⟨es, cl, h1⟩ := h.mp.typ
    rw [← e, h.ob] at h1; cases h1
  · obtain ⟨cs, h1⟩ := h.pr.typ
    rw [← e] at h1
    exact ne_typ h.ob h1 (by decide) rfl
  · obtain ⟨_, cs, h1⟩ := (h.qs i hi).lt c e
    exact ne_typ h.ob h1 (by decide) rfl
theorem VR.mp_ne (h : VR w c m p n per N M F Qf) : m ≠ p := fun e => by
  obtain ⟨es, cl, h1⟩ := h.mp.typ
  obtain ⟨cs, h2⟩ := h.pr.typ
  rw [e, h2] at h1; cases h1
theorem VR.mq_ne (h : VR w c m p n per N M F Qf) {i k : Nat} (hi : i < n) (hk : (F i).q.ownBlock = some k) : k ≠ m := fun e => by
  obtain ⟨es, cl, h1⟩ := h.mp.typ
  obtain ⟨_, cs, h2⟩ := (h.qs i hi).lt k hk
  rw [e, h1] at h2; cases h2
theorem VR.pq_ne (h : VR w c m p n per N M F Qf) {i k : Nat} (hi : i < n) (hk : (F i).q.ownBlock = some k) : k ≠ p := fun e => by
  obtain ⟨cs, h1⟩ := h.pr.typ
  obtain ⟨_, cs2, h2⟩ := (h.qs i hi).lt k hk
  exact ne_typ h2 h1 (by decide) e
/-- a place's cell stored that is no queue -/
theorem VR.put (h : VR w c m p n per N M F Qf) {i : Nat} (hi : i < n) (j : Nat) (hj : j < 4) (u : Value) {f : Pv → Pv} (hu : (pvc (F i)).set j u = pvc (f (F i))) (hq : (f (F i)).q = (F i).q) :
    VR (w.setCell ⟨p, i * 4 + j, none⟩ u) c m p n per N M (fset F i f) Qf ∧ Trn (Sp m p n F) w (w.setCell ⟨p, i * 4 + j, none⟩ u) ∧ Nw w n F (fset F i f) := by
  have ht := h.pr.trn (i * 4 + j) u
  have hg : ∀ a, (fset F i f a).q = (F a).q := fun a => by
    by_cases e : a = i
    · subst e; rw [fset_same, hq]
    · rw [fset_other e]
  refine ⟨⟨(ht.block c h.lt fun e => h.cm (.inr (.inl e))).trans h.ob, h.mp.keep (ht.block m h.mp.lt h.mp_ne), h.pr.put hi j hj u hu, fun a ha => ?_, fun a b k ha hb h1 h2 => ?_, h.nn⟩, ht.mono fun k _ e => .inr (.inl e), fun a ha k hk => .inl ?_⟩
  · rw [hg a]
    exact (h.qs a ha).keep fun k hk => ht.block k ((h.qs a ha).lt k hk).1 (h.pq_ne ha hk)
  · rw [hg] at h1 h2
    exact h.ap a b k ha hb h1 h2
  · rw [hg] at hk
    exact hk
/-- the map turned -/
theorem VR.mapped {N' : Nat} {M' : Int → Option Value} (h : VR w c m p n per N M F Qf) (hm : MapIs w' m N' M') (ht : w.mapTurned w' m) : VR w' c m p n per N' M' F Qf ∧ Trn (Sp m p n F) w w' := by
  have hg := ht.grown
  refine ⟨⟨(gr_keep hg h.lt fun e => h.cm (.inl e)).trans h.ob, hm, h.pr.keep (gr_keep hg h.pr.lt h.mp_ne.symm), fun i hi => (h.qs i hi).keep fun k hk => gr_keep hg ((h.qs i hi).lt k hk).1 (h.mq_ne hi hk), h.ap, h.nn⟩, Trn.of_grown hg (.inl rfl)⟩
/-- a queue turned in the heap, then its slice stored -/
theorem VR.queue {w1 : World} (h : VR w c m p n per N M F Qf) {i : Nat} (hi : i < n) {v' : Value} {l : List Int} (hq : Qs w1 v' l) (hg : w.grownBy w1 (F i).q.ownBlock) (hn : ∀ k, v'.ownBlock = some k → (F i).q.ownBlock = some k ∨ w.heap.size ≤ k) :
    VR (w1.setCell ⟨p, i * 4, none⟩ v') c m p n per N M (fset F i fun x => ⟨v', x.t, x.i, x.c⟩) (fun j => if j = i then l else Qf j) ∧ Trn (Sp m p n F) w (w1.setCell ⟨p, i * 4, none⟩ v') ∧ Nw w n F (fset F i fun x => ⟨v', x.t, x.i, x.c⟩) ∧
      w1.heap[c]? = w.heap[c]? ∧ (∀ o, w1.cell? ⟨p, o, none⟩ = w.cell? ⟨p, o, none⟩) ∧ w1.frozen? ⟨p, i * 4, none⟩ = false ∧ p < w1.heap.size := by
  have kc : w1.heap[c]? = w.heap[c]? := hg.block c h.lt fun e => h.cm (.inr (.inr ⟨i, hi, e.symm⟩))
  have kp : w1.heap[p]? = w.heap[p]? := hg.block p h.pr.lt fun e => h.pq_ne hi e.symm rfl
  have km : w1.heap[m]? = w.heap[m]? := hg.block m h.mp.lt fun e => h.mq_ne hi e.symm rfl
  have hp1 := h.pr.keep kp
  have ht := hp1.trn (i * 4) v'
  have hqo : ∀ a, a < n → a ≠ i → ∀ k, (F a).q.ownBlock = some k → w1.heap[k]? = w.heap[k]? := fun a ha hne k hk => hg.block k ((h.qs a ha).lt k hk).1 fun e => hne (h.ap a i k ha hi hk e.symm)
  have vne : ∀ k, v'.ownBlock = some k → k ≠ p := fun k hk e => by
    obtain ⟨_, cs, h2⟩ := hq.lt k hk
    obtain ⟨cs', h3⟩ := hp1.typ
    exact ne_typ h2 h3 (by decide) e
  refine ⟨⟨(ht.block c (lt_of_heap (kc.trans h.ob)) fun e => h.cm (.inr (.inl e))).trans (kc.trans h.ob), (h.mp.keep km).keep (ht.block m (h.mp.keep km).lt h.mp_ne), hp1.put hi 0 (by decide) v' rfl, fun a ha => ?_, fun a b k ha hb h1 h2 => ?_, h.nn⟩, ?_, fun a ha k hk => ?_, kc, fun o => World.cell?_of_block kp, hp1.f _, hp1.lt⟩
  · by_cases e : a = i
    · subst e
      rw [fset_same, if_pos rfl]
      exact hq.keep fun k hk => ht.block k (hq.lt k hk).1 (vne k hk)
    · rw [fset_other e, if_neg e]
      exact ((h.qs a ha).keep (hqo a ha e)).keep fun k hk => ht.block k (((h.qs a ha).keep (hqo a ha e)).lt k hk).1 (h.pq_ne ha hk)
  · by_cases ea : a = i
    · by_cases eb : b = i
      · rw [ea, eb]
      · rw [ea, fset_same] at h1
        rw [fset_other eb] at h2
        rcases hn k h1 with h3 | h3
        · rw [ea]; exact h.ap i b k hi hb h3 h2
        · have := ((h.qs b hb).lt k h2).1; omega
    · rw [fset_other ea] at h1
      by_cases eb : b = i
      · rw [eb, fset_same] at h2
        rcases hn k h2 with h3 | h3
        · rw [eb]; exact h.ap a i k ha hi h1 h3
        · have := ((h.qs a ha).lt k h1).1; omega
      · rw [fset_other eb] at h2
        exact h.ap a b k ha hb h1 h2
  · exact ⟨ht.os.trans hg.os, ht.tape.trans hg.tape, ht.output.trans hg.output, Nat.le_trans hg.size ht.size, fun k hk hs => (ht.block k (Nat.lt_of_lt_of_le hk hg.size) fun e => hs (.inr (.inl e))).trans (hg.block k hk fun e => hs (.inr (.inr ⟨i, hi, e.symm⟩)))⟩
  · by_cases e : a = i
    · subst e
      rw [fset_same] at hk
      exact hn k hk
    · rw [fset_other e] at hk
      exact .inl hk
end
/-- what the map keeps of one -/
def lv (x : On) : Value := .agg #[.int .i64 x.st, .int .i64 (x.co : Int), .int .i64 x.w, .int .i64 x.cr]
def SM (L : List On) (k : Int) : Option Value := (fnd L k).map lv
def tkB (L : List On) (i : Nat) : Bool := (rn L i).isSome
def riI (L : List On) (i : Nat) : Int := match rn L i with
  | none => 0
  | some x => x.id
def chI (per : Int) (S : St) (i : Nat) : Int := if tkB S.L i then min (S.R i) per else 0
/-- the program's scheduler -/
structure VX (w : World) (c m p n : Nat) (per : Int) (F : Nat → Pv) (S : St) : Prop where
  vr : VR w c m p n per S.L.length (SM S.L) F S.Q
  pv : ∀ i, i < n → (F i).t = tkB S.L i ∧ (F i).i = riI S.L i ∧ (F i).c = chI per S i
  ok : SOk n per S
section
variable {w w' : World} {c m p n : Nat} {per : Int} {F : Nat → Pv} {S : St}
theorem VX.below (h : VX w c m p n per F S) (hb : Below w.heap.size w w') : VX w' c m p n per F S := ⟨h.vr.below hb, h.pv, h.ok⟩
theorem VX.keep (h : VX w c m p n per F S) (hc : w'.heap[c]? = w.heap[c]?) (hk : ∀ k, Sp m p n F k → w'.heap[k]? = w.heap[k]?) : VX w' c m p n per F S := ⟨h.vr.keep hc hk, h.pv, h.ok⟩
end
theorem zeroL (w : World) : (zeroValue 36).run Try.prog w = .ok (.agg #[.int .i64 0, .int .i64 0, .int .i64 0, .int .i64 0]) w := by kernel_rfl
theorem info36 : (Try.prog.info? 36).map (·.size) = some 4 := by kernel_rfl
theorem map_nil41 (m : Nat) (w : World) : (binOp .eql 41 (.map (some m)) (.map none)).run Try.prog w = .ok (.bool false) w := by kernel_rfl
theorem map_none41 (w : World) : (binOp .eql 41 (.map none) (.map none)).run Try.prog w = .ok (.bool true) w := by kernel_rfl
def lookV (L : List On) (k : Int) : Value := (SM L k).getD (.agg #[.int .i64 0, .int .i64 0, .int .i64 0, .int .i64 0])
def ofE (L : List On) (k : Int) : Int := if (fnd L k).isSome then 0 else 14
end Go.Proofs.Ytgdnklmnchcmeaa
