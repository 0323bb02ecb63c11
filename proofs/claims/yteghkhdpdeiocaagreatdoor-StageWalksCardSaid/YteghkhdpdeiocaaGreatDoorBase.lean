/-
  Frames in the heap: a block of 38 cells, a row of maps, a map of one entry for each frame that is somebody's.
-/
import Derived.Test.YteghkhdpdeiocaaGreatDoorRows
import Derived.Test.YteghkhdpdeiocaaGreatDoorGB
import Derived.Test.YteghkhdpdeiocaaGreatDoorPl
import Derived.WalkKit
import Derived.ProofKit
import Derived.OpenShut
import Derived.Deep.QuietTactic
import Derived.BigQuiet
import Derived.Deep.RegionLaw
import Derived.Maps.RangeRun
namespace Go.Proofs.YteghkhdpdeiocaaGreatDoor
open Go.RowKit Go.ChangeMaps
set_option linter.unusedVariables false
set_option maxRecDepth 100000

theorem fbcell {B : Nat} {W w1 : World} (hb : Below B W w1) : (∀ b o, b < B → w1.cell? ⟨b, o, none⟩ = W.cell? ⟨b, o, none⟩) ∧ (∀ b o, b < B → w1.frozen? ⟨b, o, none⟩ = W.frozen? ⟨b, o, none⟩) :=
  ⟨fun b o h => hb.cell (p := ⟨b, o, none⟩) h, fun b o h => hb.frozen (p := ⟨b, o, none⟩) h⟩
theorem cell_at {w : World} {b : Nat} {cs : Array Value} {t : TypeId} (h : w.heap[b]? = some (.cells cs t (0, 0))) (o : Nat) : w.cell? ⟨b, o, none⟩ = cs[o]? := by simp [World.cell?, h]
theorem froz_at {w : World} {b : Nat} {cs : Array Value} {t : TypeId} (h : w.heap[b]? = some (.cells cs t (0, 0))) (o : Nat) : w.frozen? ⟨b, o, none⟩ = false := by simp [World.frozen?, h]

/-- what has turned between two worlds: blocks of S, and new ones -/
structure Trn (S : Nat → Prop) (w w' : World) : Prop where
  os : w'.os = w.os
  tape : w'.tape = w.tape
  output : w'.output = w.output
  size : w.heap.size ≤ w'.heap.size
  block : ∀ k, k < w.heap.size → ¬ S k → w'.heap[k]? = w.heap[k]?
theorem Trn.refl (S : Nat → Prop) (w : World) : Trn S w w := ⟨rfl, rfl, rfl, Nat.le_refl _, fun _ _ _ => rfl⟩
theorem Trn.trans {S : Nat → Prop} {a b c : World} (h : Trn S a b) (k : Trn S b c) : Trn S a c :=
  ⟨k.os.trans h.os, k.tape.trans h.tape, k.output.trans h.output, Nat.le_trans h.size k.size, fun i hi hr => (k.block i (Nat.lt_of_lt_of_le hi h.size) hr).trans (h.block i hi hr)⟩
theorem Trn.drew {S : Nat → Prop} {a b : World} (h : Trn S a b) : Trn S a b.drew := ⟨h.os, h.tape, h.output, h.size, h.block⟩
theorem Trn.of_below {S : Nat → Prop} {a b : World} (h : Below a.heap.size a b) : Trn S a b := ⟨h.os, h.tape, h.output, h.size, fun k hk _ => h.block k hk⟩
theorem Trn.mono {S S' : Nat → Prop} {a b : World} (h : Trn S a b) (hs : ∀ k, k < a.heap.size → S k → S' k) : Trn S' a b := ⟨h.os, h.tape, h.output, h.size, fun k hk hn => h.block k hk fun e => hn (hs k hk e)⟩
theorem trn_setCell (S : Nat → Prop) {w : World} {b : Nat} {cs : Array Value} {t : TypeId} (h : w.heap[b]? = some (.cells cs t (0, 0))) (hS : S b) (o : Nat) (v : Value) : Trn S w (w.setCell ⟨b, o, none⟩ v) := by
  rw [setCell_eq_setRow w b o cs t (0, 0) v h]
  exact ⟨rfl, rfl, rfl, by simp [World.setRow], fun k hk hne => setRow_other w b k _ (fun e => hne (by rw [e]; exact hS))⟩
theorem trn_setBlock (S : Nat → Prop) (w : World) (b : Nat) (o : Obj) (hS : S b) : Trn S w (setBlock w b o) :=
  ⟨rfl, rfl, rfl, by simp [setBlock], fun k hk hne => by simp only [setBlock]; rw [Array.getElem?_setIfInBounds_ne (fun e => hne (by rw [← e]; exact hS))]⟩

/-- the blocks below N -/
def Lw (N : Nat) : Nat → Prop := fun k => k < N
/-- the blocks that frames are made of -/
def Of : Obj → Prop
  | .cells _ t _ => t = 115 ∨ t = 108
  | .map _ _ => True
  | .mapIter _ _ _ _ => True
  | _ => False
/-- what a call on frames may turn: blocks of its kinds that are not below B -/
structure Tu (K : Obj → Prop) (B : Nat → Prop) (w w' : World) : Prop where
  os : w'.os = w.os
  tape : w'.tape = w.tape
  output : w'.output = w.output
  size : w.heap.size ≤ w'.heap.size
  keep : ∀ k o, w.heap[k]? = some o → (B k ∨ ¬ K o) → w'.heap[k]? = some o
theorem Tu.refl (K : Obj → Prop) (B : Nat → Prop) (w : World) : Tu K B w w := ⟨rfl, rfl, rfl, Nat.le_refl _, fun _ _ h _ => h⟩
theorem Tu.trans {K : Obj → Prop} {B : Nat → Prop} {a b c : World} (h : Tu K B a b) (k : Tu K B b c) : Tu K B a c :=
  ⟨k.os.trans h.os, k.tape.trans h.tape, k.output.trans h.output, Nat.le_trans h.size k.size, fun i o hi hr => k.keep i o (h.keep i o hi hr) hr⟩
theorem Tu.drew {K : Obj → Prop} {B : Nat → Prop} {a b : World} (h : Tu K B a b) : Tu K B a b.drew := ⟨h.os, h.tape, h.output, h.size, h.keep⟩
theorem Tu.of_trn {K : Obj → Prop} {B : Nat → Prop} {S : Nat → Prop} {a b : World} (h : Trn S a b) (hs : ∀ k, S k → ¬ B k ∧ ∀ o, a.heap[k]? = some o → K o) : Tu K B a b :=
  ⟨h.os, h.tape, h.output, h.size, fun k o hk hr => (h.block k (lt_of_heap hk) fun e => by
    obtain ⟨h1, h2⟩ := hs k e
    rcases hr with hr | hr
    · exact h1 hr
    · exact hr (h2 o hk)).trans hk⟩
theorem Tu.of_below {K : Obj → Prop} {B : Nat → Prop} {a b : World} (h : Below a.heap.size a b) : Tu K B a b := ⟨h.os, h.tape, h.output, h.size, fun k o hk _ => (h.block k (lt_of_heap hk)).trans hk⟩
theorem Tu.below {K : Obj → Prop} {B : Nat → Prop} {a b : World} (h : Tu K B a b) {N : Nat} (hN : N ≤ a.heap.size) (hB : ∀ k, k < N → B k) : Below N a b :=
  ⟨h.os, h.tape, h.output, h.size, fun k hk => by
    have : k < a.heap.size := by omega
    rw [h.keep k _ (Array.getElem?_eq_getElem this) (.inl (hB k hk)), Array.getElem?_eq_getElem this]⟩
theorem ne_typ {w : World} {a b : Nat} {c d : Array Value} {s t : TypeId} (h : w.heap[a]? = some (.cells c s (0, 0))) (k : w.heap[b]? = some (.cells d t (0, 0))) (hn : s ≠ t) : a ≠ b := fun e => by
  rw [e, k] at h
  simp at h
  exact hn h.2.symm
theorem ne_map {w : World} {a b : Nat} {x : Array Value} {s : TypeId} {f : Nat × Nat} {es : Array MapEntry} {cl : Nat} (ha : w.heap[a]? = some (.cells x s f)) (hb : w.heap[b]? = some (.map es cl)) : a ≠ b := by
  rintro rfl
  rw [ha] at hb
  cases hb

/-- the block of 38 cells: the row's block, how many, how many first, what is sought, the counts, the quotas -/
structure OB (w : World) (D r n fi s : Nat) (ct : Nat → Int) (qu : Nat → Int) : Prop where
  blk : ∃ cs : Array Value, w.heap[D]? = some (.cells cs 115 (0, 0)) ∧ cs.size = 38 ∧ cs[0]? = some (.slice (some ⟨r, 0, none⟩) n n) ∧ cs[1]? = some (.int .i64 fi) ∧ cs[2]? = some (.int .i64 s) ∧ (∀ k, k < 18 → cs[3 + k]? = some (.int .i64 (ct k))) ∧ ∀ k, k < 17 → cs[21 + k]? = some (.int .i64 (qu k))
section
variable {w w' : World} {D r n fi s : Nat} {ct qu : Nat → Int}
theorem OB.lt (h : OB w D r n fi s ct qu) : D < w.heap.size := by
  obtain ⟨cs, h, _⟩ := h.blk
  exact lt_of_heap h
theorem OB.keep (h : OB w D r n fi s ct qu) (hk : w'.heap[D]? = w.heap[D]?) : OB w' D r n fi s ct qu := by
  obtain ⟨cs, h, h2⟩ := h.blk
  exact ⟨cs, hk.trans h, h2⟩
theorem OB.c0 (h : OB w D r n fi s ct qu) : w.cell? ⟨D, 0, none⟩ = some (.slice (some ⟨r, 0, none⟩) n n) := by
  obtain ⟨cs, h, h1, h2, _⟩ := h.blk
  rw [cell_at h, h2]
theorem OB.c1 (h : OB w D r n fi s ct qu) : w.cell? ⟨D, 1, none⟩ = some (.int .i64 fi) := by
  obtain ⟨cs, h, h1, h2, h3, _⟩ := h.blk
  rw [cell_at h, h3]
theorem OB.c2 (h : OB w D r n fi s ct qu) : w.cell? ⟨D, 2, none⟩ = some (.int .i64 s) := by
  obtain ⟨cs, h, h1, h2, h3, h4, _⟩ := h.blk
  rw [cell_at h, h4]
theorem OB.cc (h : OB w D r n fi s ct qu) {k : Nat} (hk : k < 18) : w.cell? ⟨D, 3 + k, none⟩ = some (.int .i64 (ct k)) := by
  obtain ⟨cs, h, h1, h2, h3, h4, h5, _⟩ := h.blk
  rw [cell_at h, h5 k hk]
theorem OB.cq (h : OB w D r n fi s ct qu) {k : Nat} (hk : k < 17) : w.cell? ⟨D, 21 + k, none⟩ = some (.int .i64 (qu k)) := by
  obtain ⟨cs, h, h1, h2, h3, h4, h5, h6⟩ := h.blk
  rw [cell_at h, h6 k hk]
theorem OB.fz (h : OB w D r n fi s ct qu) (o : Nat) : w.frozen? ⟨D, o, none⟩ = false := by
  obtain ⟨cs, h, _⟩ := h.blk
  exact froz_at h o
theorem OB.setC (h : OB w D r n fi s ct qu) {k : Nat} (hk : k < 18) (v : Int) : OB (w.setCell ⟨D, 3 + k, none⟩ (.int .i64 v)) D r n fi s (upd ct k v) qu ∧ Trn (fun b => b = D) w (w.setCell ⟨D, 3 + k, none⟩ (.int .i64 v)) := by
  obtain ⟨cs, h, h1, h2, h3, h4, h5, h6⟩ := h.blk
  refine ⟨⟨_, setCell_eq_setRow w D (3 + k) cs 115 (0, 0) (.int .i64 v) h ▸ setRow_heap w D cs _ 115 _ h, by simpa using h1, ?_, ?_, ?_, fun j hj => ?_, fun j hj => ?_⟩, trn_setCell (fun b => b = D) h rfl _ _⟩
  · rw [Array.getElem?_setIfInBounds, if_neg (by omega)]; exact h2
  · rw [Array.getElem?_setIfInBounds, if_neg (by omega)]; exact h3
  · rw [Array.getElem?_setIfInBounds, if_neg (by omega)]; exact h4
  · rw [Array.getElem?_setIfInBounds]
    by_cases e : j = k
    · subst e
      rw [if_pos rfl, if_pos (by omega), upd_self]
    · rw [if_neg (by omega), upd_other _ _ _ e]
      exact h5 j hj
  · rw [Array.getElem?_setIfInBounds, if_neg (by omega)]; exact h6 j hj
theorem OB.setQ (h : OB w D r n fi s ct qu) {k : Nat} (hk : k < 17) (v : Int) : OB (w.setCell ⟨D, 21 + k, none⟩ (.int .i64 v)) D r n fi s ct (upd qu k v) ∧ Trn (fun b => b = D) w (w.setCell ⟨D, 21 + k, none⟩ (.int .i64 v)) := by
  obtain ⟨cs, h, h1, h2, h3, h4, h5, h6⟩ := h.blk
  refine ⟨⟨_, setCell_eq_setRow w D (21 + k) cs 115 (0, 0) (.int .i64 v) h ▸ setRow_heap w D cs _ 115 _ h, by simpa using h1, ?_, ?_, ?_, fun j hj => ?_, fun j hj => ?_⟩, trn_setCell (fun b => b = D) h rfl _ _⟩
  · rw [Array.getElem?_setIfInBounds, if_neg (by omega)]; exact h2
  · rw [Array.getElem?_setIfInBounds, if_neg (by omega)]; exact h3
  · rw [Array.getElem?_setIfInBounds, if_neg (by omega)]; exact h4
  · rw [Array.getElem?_setIfInBounds, if_neg (by omega)]; exact h5 j hj
  · rw [Array.getElem?_setIfInBounds]
    by_cases e : j = k
    · subst e
      rw [if_pos rfl, if_pos (by omega), upd_self]
    · rw [if_neg (by omega), upd_other _ _ _ e]
      exact h6 j hj
theorem OB.setS (h : OB w D r n fi s ct qu) (v : Nat) : OB (w.setCell ⟨D, 2, none⟩ (.int .i64 v)) D r n fi v ct qu ∧ Trn (fun b => b = D) w (w.setCell ⟨D, 2, none⟩ (.int .i64 v)) := by
  obtain ⟨cs, h, h1, h2, h3, h4, h5, h6⟩ := h.blk
  refine ⟨⟨_, setCell_eq_setRow w D 2 cs 115 (0, 0) (.int .i64 v) h ▸ setRow_heap w D cs _ 115 _ h, by simpa using h1, ?_, ?_, ?_, fun j hj => ?_, fun j hj => ?_⟩, trn_setCell (fun b => b = D) h rfl _ _⟩
  · rw [Array.getElem?_setIfInBounds, if_neg (by omega)]; exact h2
  · rw [Array.getElem?_setIfInBounds, if_neg (by omega)]; exact h3
  · rw [Array.getElem?_setIfInBounds, if_pos rfl, if_pos (by omega)]
  · rw [Array.getElem?_setIfInBounds, if_neg (by omega)]; exact h5 j hj
  · rw [Array.getElem?_setIfInBounds, if_neg (by omega)]; exact h6 j hj
theorem OB.congr {ct' qu' : Nat → Int} (h : OB w D r n fi s ct qu) (hc : ∀ k, k < 18 → ct k = ct' k) (hq : ∀ k, k < 17 → qu k = qu' k) : OB w D r n fi s ct' qu' := by
  obtain ⟨cs, h, h1, h2, h3, h4, h5, h6⟩ := h.blk
  exact ⟨cs, h, h1, h2, h3, h4, fun k hk => hc k hk ▸ h5 k hk, fun k hk => hq k hk ▸ h6 k hk⟩
end

/-- what stands in the row for a frame -/
def mv (cl : Nat → Nat) (C : Nat → Nat) (i : Nat) : Value := if cl i = 17 then .map none else .map (some (C i))
/-- the row of maps -/
structure RB (w : World) (r n : Nat) (cl : Nat → Nat) (C : Nat → Nat) : Prop where
  blk : ∃ rs : Array Value, w.heap[r]? = some (.cells rs 108 (0, 0)) ∧ rs.size = n ∧ ∀ i, i < n → rs[i]? = some (mv cl C i)
section
variable {w w' : World} {r n : Nat} {cl C : Nat → Nat}
theorem RB.lt (h : RB w r n cl C) : r < w.heap.size := by
  obtain ⟨cs, h, _⟩ := h.blk
  exact lt_of_heap h
theorem RB.keep (h : RB w r n cl C) (hk : w'.heap[r]? = w.heap[r]?) : RB w' r n cl C := by
  obtain ⟨cs, h, h2⟩ := h.blk
  exact ⟨cs, hk.trans h, h2⟩
theorem RB.c (h : RB w r n cl C) {i : Nat} (hi : i < n) : w.cell? ⟨r, i, none⟩ = some (mv cl C i) := by
  obtain ⟨cs, h, h1, h2⟩ := h.blk
  rw [cell_at h, h2 i hi]
theorem RB.fz (h : RB w r n cl C) (o : Nat) : w.frozen? ⟨r, o, none⟩ = false := by
  obtain ⟨cs, h, _⟩ := h.blk
  exact froz_at h o
theorem RB.set (h : RB w r n cl C) {i : Nat} (hi : i < n) (c m : Nat) (v : Value) (hv : v = if c = 17 then .map none else .map (some m)) : RB (w.setCell ⟨r, i, none⟩ v) r n (upd cl i c) (upd C i m) ∧ Trn (fun b => b = r) w (w.setCell ⟨r, i, none⟩ v) := by
  obtain ⟨cs, h, h1, h2⟩ := h.blk
  refine ⟨⟨_, setCell_eq_setRow w r i cs 108 (0, 0) v h ▸ setRow_heap w r cs _ 108 _ h, by simpa using h1, fun j hj => ?_⟩, trn_setCell (fun b => b = r) h rfl _ _⟩
  rw [Array.getElem?_setIfInBounds]
  unfold mv
  by_cases e : j = i
  · subst e
    rw [if_pos rfl, if_pos (by omega), upd_self, upd_self, hv]
  · rw [if_neg (by omega), upd_other _ _ _ e, upd_other _ _ _ e]
    exact h2 j hj
end
/-- a map of one entry -/
def M1 (w : World) (m : Nat) (o t : Nat) : Prop := ∃ born clock, w.heap[m]? = some (.map #[⟨.int .i64 o, .int .i64 t, born⟩] clock) ∧ born < clock
theorem M1.lt {w : World} {m o t : Nat} (h : M1 w m o t) : m < w.heap.size := by
  obtain ⟨_, _, h, _⟩ := h
  exact lt_of_heap h
theorem M1.keep {w w' : World} {m o t : Nat} (h : M1 w m o t) (hk : w'.heap[m]? = w.heap[m]?) : M1 w' m o t := by
  obtain ⟨a, b, h, h2⟩ := h
  exact ⟨a, b, hk.trans h, h2⟩
/-- frames in the heap -/
structure FR (B : Nat → Prop) (w : World) (D r : Nat) (S : Fs) (C : Nat → Nat) (s : Nat) : Prop where
  ob : OB w D r S.n S.fi s (fun k => (S.ct k : Int)) S.qu
  row : RB w r S.n S.cl C
  mp : ∀ i, i < S.n → S.cl i ≠ 17 → M1 w (C i) (S.cl i) (S.ti i)
  inj : ∀ i j, i < S.n → j < S.n → S.cl i ≠ 17 → S.cl j ≠ 17 → C i = C j → i = j
  s1 : s < S.n
  s2 : ∀ i, i < s → S.cl i ≠ 17
  ok : Ok S
  lo : ¬ B D ∧ ¬ B r ∧ ∀ i, i < S.n → S.cl i ≠ 17 → ¬ B (C i)
/-- frames by their state alone -/
def FX (B : Nat → Prop) (w : World) (D : Nat) (S : Fs) : Prop := ∃ r C s, FR B w D r S C s
section
variable {B : Nat → Prop} {w w' : World} {D r s : Nat} {S : Fs} {C : Nat → Nat}
theorem FR.ne (h : FR B w D r S C s) : D ≠ r := by
  obtain ⟨a, h1, _⟩ := h.ob.blk
  obtain ⟨b, h2, _⟩ := h.row.blk
  exact ne_typ h1 h2 (by decide)
theorem FR.mne (h : FR B w D r S C s) {i : Nat} (hi : i < S.n) (hc : S.cl i ≠ 17) : C i ≠ D ∧ C i ≠ r := by
  obtain ⟨a, h1, _⟩ := h.ob.blk
  obtain ⟨b, h2, _⟩ := h.row.blk
  obtain ⟨x, y, h3, _⟩ := h.mp i hi hc
  exact ⟨(ne_map h1 h3).symm, (ne_map h2 h3).symm⟩
theorem FR.keep (h : FR B w D r S C s) (hk : ∀ (k : Nat) (o : Obj), w.heap[k]? = some o → Of o → w'.heap[k]? = some o) : FR B w' D r S C s := by
  obtain ⟨a, h1, g1⟩ := h.ob.blk
  obtain ⟨b, h2, g2⟩ := h.row.blk
  refine ⟨⟨a, hk _ _ h1 (.inl rfl), g1⟩, ⟨b, hk _ _ h2 (.inr rfl), g2⟩, fun i hi hc => ?_, h.inj, h.s1, h.s2, h.ok, h.lo⟩
  obtain ⟨x, y, h3, h4⟩ := h.mp i hi hc
  exact ⟨x, y, hk _ _ h3 trivial, h4⟩
theorem FR.below (h : FR B w D r S C s) (hk : Below w.heap.size w w') : FR B w' D r S C s := h.keep fun k o ho _ => (hk.block k (lt_of_heap ho)).trans ho
theorem FR.drew (h : FR B w D r S C s) : FR B w.drew D r S C s := h.keep fun _ _ ho _ => ho
end
theorem FX.keep {B : Nat → Prop} {w w' : World} {D : Nat} {S : Fs} (h : FX B w D S) (hk : ∀ (k : Nat) (o : Obj), w.heap[k]? = some o → Of o → w'.heap[k]? = some o) : FX B w' D S := by
  obtain ⟨r, C, s, h⟩ := h
  exact ⟨r, C, s, h.keep hk⟩
theorem FX.below {B : Nat → Prop} {w w' : World} {D : Nat} {S : Fs} (h : FX B w D S) (hk : Below w.heap.size w w') : FX B w' D S := by
  obtain ⟨r, C, s, h⟩ := h
  exact ⟨r, C, s, h.below hk⟩
theorem FX.ok {B : Nat → Prop} {w : World} {D : Nat} {S : Fs} (h : FX B w D S) : Ok S := by
  obtain ⟨r, C, s, h⟩ := h
  exact h.ok
theorem FX.lt {B : Nat → Prop} {w : World} {D : Nat} {S : Fs} (h : FX B w D S) : D < w.heap.size := by
  obtain ⟨r, C, s, h⟩ := h
  exact h.ob.lt

/-- a map of one entry, looked up -/
def lkP (o t a : Nat) : Int := if o = a then t else 0
open MapKept in
theorem look_one {w : World} {m o t : Nat} (h : M1 w m o t) (a : Nat) : (Instr.lookup 108 (.map (some m)) (.int .i64 a) false).run Tryz.prog w = .ok (.int .i64 (lkP o t a)) w := by
  obtain ⟨born, clock, hb, _⟩ := h
  unfold lkP
  by_cases e : o = a
  · subst e
    have hf : Instr.findNow (.int .i64) (.int .i64 (o : Int)) [⟨.int .i64 o, .int .i64 t, born⟩] 0 = some (some (0, .int .i64 t)) := by simp [Instr.findNow, Instr.sameNow]
    simp [Instr.lookup, run_underlying Tryz.underlying108, Go.MapKept.run_getObj_map hb, run_checkKey Tryz.underlying3 (show IsKey (.int .i64) (.int .i64 (o : Int)) from rfl), run_findKey Tryz.underlying3 hf]
  · have hf : Instr.findNow (.int .i64) (.int .i64 (a : Int)) [⟨.int .i64 o, .int .i64 t, born⟩] 0 = some none := by
      simp [Instr.findNow, Instr.sameNow]
      rw [show ((a : Int) == o) = false by simp; omega]
    have hz : (zeroValue 3).run Tryz.prog w = .ok (.int .i64 0) w := by kernel_rfl
    simp [Instr.lookup, run_underlying Tryz.underlying108, Go.MapKept.run_getObj_map hb, run_checkKey Tryz.underlying3 (show IsKey (.int .i64) (.int .i64 (a : Int)) from rfl), run_findKey Tryz.underlying3 hf, e]
open MapKept in
theorem look_nil (w : World) (a : Int) : (Instr.lookup 108 (.map none) (.int .i64 a) false).run Tryz.prog w = .ok (.int .i64 0) w := by
  have hf : Instr.findNow (.int .i64) (.int .i64 a) [] 0 = some none := rfl
  have hz : (zeroValue 3).run Tryz.prog w = .ok (.int .i64 0) w := by kernel_rfl
  simp [Instr.lookup, run_underlying Tryz.underlying108, run_checkKey Tryz.underlying3 (show IsKey (.int .i64) (.int .i64 a) from rfl), run_findKey Tryz.underlying3 hf]
/-- what a look-up in the row's map tells -/
def lkS (S : Fs) (i a : Nat) : Int := if S.cl i = a then S.ti i else 0
theorem FR.look {B : Nat → Prop} {w : World} {D r s : Nat} {S : Fs} {C : Nat → Nat} (h : FR B w D r S C s) {i a : Nat} (hi : i < S.n) (ha : a ≤ 16) : (Instr.lookup 108 (mv S.cl C i) (.int .i64 a) false).run Tryz.prog w = .ok (.int .i64 (lkS S i a)) w := by
  unfold mv lkS
  by_cases e : S.cl i = 17
  · rw [if_pos e, look_nil, if_neg (by omega)]
  · rw [if_neg e, look_one (h.mp i hi e)]
    rfl
open MapKept in
/-- the one entry's times turned -/
theorem turn_one {w : World} {m o t : Nat} (h : M1 w m o t) (t' : Nat) : ∃ w', (Instr.mapUpdate 108 (.map (some m)) (.int .i64 o) (.int .i64 t')).run Tryz.prog w = .ok () w' ∧ M1 w' m o t' ∧ Trn (fun b => b = m) w w' := by
  obtain ⟨born, clock, hb, hlt⟩ := h
  have hf : Instr.findNow (.int .i64) (.int .i64 (o : Int)) [⟨.int .i64 o, .int .i64 t, born⟩] 0 = some (some (0, .int .i64 t)) := by simp [Instr.findNow, Instr.sameNow]
  refine ⟨setBlock w m (.map #[⟨.int .i64 o, .int .i64 t', born⟩] clock), ?_, ⟨born, clock, ?_, hlt⟩, trn_setBlock (fun b => b = m) _ _ _ rfl⟩
  · simp [Instr.mapUpdate, run_underlying Tryz.underlying108, Go.MapKept.run_getObj_map hb, run_checkKey Tryz.underlying3 (show IsKey (.int .i64) (.int .i64 (o : Int)) from rfl), run_findKey Tryz.underlying3 hf, Instr.keyThatStays, Instr.sameBits, Go.MapKept.run_setObj_map _ hb, setBlock, Array.modify, Array.modifyM]
  · have := lt_of_heap hb
    simp [setBlock, this]
open MapKept in
/-- a map made with one entry -/
theorem make_one (w : World) (o : Nat) (t : Int) : (Instr.mapUpdate 108 (.map (some w.heap.size)) (.int .i64 o) (.int .i64 t)).run Tryz.prog (w.alloc (.map #[] 0)) = .ok () (w.alloc (.map #[⟨.int .i64 o, .int .i64 t, 0⟩] 1)) := by
  have hb := heap_alloc_at w (.map #[] 0)
  have hf : Instr.findNow (.int .i64) (.int .i64 (o : Int)) [] 0 = some none := rfl
  simp [Instr.mapUpdate, run_underlying Tryz.underlying108, Go.MapKept.run_getObj_map hb, run_checkKey Tryz.underlying3 (show IsKey (.int .i64) (.int .i64 (o : Int)) from rfl), run_findKey Tryz.underlying3 hf, Go.MapKept.run_setObj_map _ hb]
  have hp : ∀ (h : Array Obj) (x y : Obj), (h.push x).setIfInBounds h.size y = h.push y := by
    intro h x y
    apply Array.toList_inj.1
    simp
  show ({ heap := (w.heap.push _).setIfInBounds w.heap.size _, tape := w.tape, drawn := w.drawn, os := w.os, output := w.output } : World) = { heap := w.heap.push _, tape := w.tape, drawn := w.drawn, os := w.os, output := w.output }
  rw [hp]
end Go.Proofs.YteghkhdpdeiocaaGreatDoor
