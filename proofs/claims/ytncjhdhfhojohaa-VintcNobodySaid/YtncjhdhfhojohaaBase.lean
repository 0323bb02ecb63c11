/-
  A controller as a block of 128 cells, the program's and the document's alike: its state by plain functions; blocks that turn.
-/
import Derived.Test.YtncjhdhfhojohaaRows
import Derived.WalkKit
import Derived.ProofKit
import Derived.OpenShut
import Derived.Deep.QuietTactic
import Derived.BigQuiet
import Derived.Deep.RegionLaw
namespace Go.Proofs.Ytncjhdhfhojohaa
open Go.RowKit
set_option linter.unusedVariables false
set_option maxRecDepth 100000

theorem ret_bool {a b : Bool} (h : a = b) : Ending.returned (.bool a) = .returned (.bool b) := by rw [h]
theorem ret_int {k : IntKind} {a b : Int} (h : a = b) : Ending.returned (.int k a) = .returned (.int k b) := by rw [h]
theorem bcell {B : Nat} {W w1 : World} (hb : Below B W w1) : (∀ b o, b < B → w1.cell? ⟨b, o, none⟩ = W.cell? ⟨b, o, none⟩) ∧ (∀ b o, b < B → w1.frozen? ⟨b, o, none⟩ = W.frozen? ⟨b, o, none⟩) :=
  ⟨fun b o h => hb.cell (p := ⟨b, o, none⟩) h, fun b o h => hb.frozen (p := ⟨b, o, none⟩) h⟩
theorem lt_of_heap {w : World} {b : Nat} {o : Obj} (h : w.heap[b]? = some o) : b < w.heap.size := (Array.getElem?_eq_some_iff.1 h).1
theorem cell_at {w : World} {b : Nat} {cs : Array Value} {t : TypeId} (h : w.heap[b]? = some (.cells cs t (0, 0))) (o : Nat) : w.cell? ⟨b, o, none⟩ = cs[o]? := by simp [World.cell?, h]
theorem heap_alloc_at (w : World) (o : Obj) : (w.alloc o).heap[w.heap.size]? = some o := by show (w.heap.push o)[w.heap.size]? = _; simp
theorem heap_alloc_past (w : World) (o : Obj) {k : Nat} (h : k < w.heap.size) : (w.alloc o).heap[k]? = w.heap[k]? := by show (w.heap.push o)[k]? = _; simp [Array.getElem?_push, Nat.ne_of_lt h]
theorem gr_keep {w w' : World} {m : Nat} (h : w.grownBy w' (some m)) {k : Nat} (hk : k < w.heap.size) (hm : k ≠ m) : w'.heap[k]? = w.heap[k]? :=
  h.block k hk (fun e => hm (by cases e; rfl))
theorem grown_trans {a b c : World} {r : Option Nat} (h : a.grownBy b r) (k : b.grownBy c r) : a.grownBy c r :=
  ⟨k.os.trans h.os, k.tape.trans h.tape, k.output.trans h.output, Nat.le_trans h.size k.size, fun i hi hr => (k.block i (Nat.lt_of_lt_of_le hi h.size) hr).trans (h.block i hi hr)⟩
theorem grown_of_below {w w' : World} {m : Option Nat} (h : Below w.heap.size w w') : w.grownBy w' m := ⟨h.os, h.tape, h.output, h.size, fun k hk _ => h.block k hk⟩
theorem grown_refl (w : World) (m : Option Nat) : w.grownBy w m := ⟨rfl, rfl, rfl, Nat.le_refl _, fun _ _ _ => rfl⟩
theorem gr_below {B : Nat} {w w' : World} {m : Nat} (h : w.grownBy w' (some m)) (hB : B ≤ m) (hw : B ≤ w.heap.size) : Below B w w' :=
  ⟨h.os, h.tape, h.output, h.size, fun k hk => h.block k (by omega) (fun e => by cases e; omega)⟩

/-- blocks outside S are as they were -/
structure Trn (S : Nat → Prop) (w w' : World) : Prop where
  os : w'.os = w.os
  tape : w'.tape = w.tape
  output : w'.output = w.output
  size : w.heap.size ≤ w'.heap.size
  block : ∀ k, k < w.heap.size → ¬ S k → w'.heap[k]? = w.heap[k]?
theorem Trn.refl (S : Nat → Prop) (w : World) : Trn S w w := ⟨rfl, rfl, rfl, Nat.le_refl _, fun _ _ _ => rfl⟩
theorem Trn.trans {S : Nat → Prop} {a b c : World} (h : Trn S a b) (k : Trn S b c) : Trn S a c :=
  ⟨k.os.trans h.os, k.tape.trans h.tape, k.output.trans h.output, Nat.le_trans h.size k.size, fun i hi hr => (k.block i (Nat.lt_of_lt_of_le hi h.size) hr).trans (h.block i hi hr)⟩
theorem Trn.of_grown {S : Nat → Prop} {a b : World} {m : Nat} (h : a.grownBy b (some m)) (hm : S m) : Trn S a b :=
  ⟨h.os, h.tape, h.output, h.size, fun k hk hs => h.block k hk (fun e => hs (by cases e; exact hm))⟩
theorem Trn.of_below {S : Nat → Prop} {a b : World} (h : Below a.heap.size a b) : Trn S a b :=
  ⟨h.os, h.tape, h.output, h.size, fun k hk hs => h.block k hk⟩
theorem Trn.mono {S T : Nat → Prop} {a b : World} (h : Trn S a b) (hs : ∀ k, k < a.heap.size → S k → T k) : Trn T a b :=
  ⟨h.os, h.tape, h.output, h.size, fun k hk ht => h.block k hk fun e => ht (hs k hk e)⟩
theorem Trn.below {B : Nat} {S : Nat → Prop} {a b : World} (h : Trn S a b) (hB : B ≤ a.heap.size) (hs : ∀ k, S k → B ≤ k) : Below B a b :=
  ⟨h.os, h.tape, h.output, h.size, fun k hk => h.block k (by omega) fun e => by have := hs k e; omega⟩
theorem Trn.drew {S : Nat → Prop} {a b : World} (h : Trn S a b) : Trn S a b.drew := ⟨h.os, h.tape, h.output, h.size, h.block⟩
theorem ne_typ {w : World} {a b : Nat} {c d : Array Value} {s t : TypeId} (h : w.heap[a]? = some (.cells c s (0, 0))) (k : w.heap[b]? = some (.cells d t (0, 0))) (hn : s ≠ t) : a ≠ b := fun e => by
  subst e
  rw [h] at k
  cases k
  exact hn rfl
theorem heap_setCell {w : World} {b : Nat} {cs : Array Value} {t : TypeId} (h : w.heap[b]? = some (.cells cs t (0, 0))) (o : Nat) (v : Value) : (w.setCell ⟨b, o, none⟩ v).heap[b]? = some (.cells (cs.setIfInBounds o v) t (0, 0)) := by
  rw [setCell_eq_setRow w b o cs t (0, 0) v h]
  exact setRow_heap w b cs _ t _ h
theorem trn_setCell {S : Nat → Prop} {w : World} {b : Nat} {cs : Array Value} {t : TypeId} (h : w.heap[b]? = some (.cells cs t (0, 0))) (hS : S b) (o : Nat) (v : Value) : Trn S w (w.setCell ⟨b, o, none⟩ v) := by
  rw [setCell_eq_setRow w b o cs t (0, 0) v h]
  exact ⟨rfl, rfl, rfl, by simp [World.setRow], fun k hk hne => setRow_other w b k _ (fun e => hne (by rw [e]; exact hS))⟩
theorem trn_setRow {S : Nat → Prop} (w : World) (b : Nat) (hS : S b) (cs : Array Value) : Trn S w (w.setRow b cs) :=
  ⟨rfl, rfl, rfl, by simp [World.setRow], fun k hk hne => setRow_other w b k _ (fun e => hne (by rw [e]; exact hS))⟩
theorem below_setRow' {B : Nat} (w : World) (b : Nat) (hB : B ≤ b) (cs : Array Value) : Below B w (w.setRow b cs) :=
  ⟨rfl, rfl, rfl, by simp [World.setRow], fun k hk => setRow_other w b k _ (by omega)⟩
theorem below_box (w : World) (o : Obj) : Below w.heap.size w (w.alloc o) := (Below.refl _ _).alloc (Nat.le_refl _) _
theorem fz_at {w : World} {b : Nat} {cs : Array Value} {t : TypeId} (h : w.heap[b]? = some (.cells cs t (0, 0))) (o : Nat) : w.frozen? ⟨b, o, none⟩ = false := by simp [World.frozen?, h]
theorem lt_cell {w : World} {b o : Nat} {v : Value} (h : w.cell? ⟨b, o, none⟩ = some v) : b < w.heap.size := World.block_lt_of_cell? w ⟨b, o, none⟩ h
theorem trn_set1 {w : World} {b : Nat} {cs : Array Value} {t : TypeId} (h : w.heap[b]? = some (.cells cs t (0, 0))) (o : Nat) (v : Value) : Trn (fun k => k = b) w (w.setCell ⟨b, o, none⟩ v) := trn_setCell (S := fun k => k = b) h rfl o v

/-- a controller, plainly: how many processors; of each source: pending, taken by, priority, enabled for; thresholds; soft lines -/
structure Z where
  n : Nat
  P : Nat → Bool
  T : Nat → Int
  W : Nat → Int
  E : Nat → Nat → Bool
  B : Nat → Int
  S : Nat → Bool
/-- a function turned at one place -/
def up {α : Type} (f : Nat → α) (k : Nat) (v : α) : Nat → α := fun i => if i = k then v else f i
/-- what its cell o holds -/
def zc (z : Z) (o : Nat) : Value :=
  if o = 0 then .int .i64 z.n
  else if o < 120 then
    (let s := (o - 1) / 7
     let k := (o - 1) % 7
     if k = 0 then .bool (z.P s) else if k = 1 then .int .i64 (z.T s) else if k = 2 then .int .i64 (z.W s) else .bool (z.E s (k - 3)))
  else if o < 124 then .int .i64 (z.B (o - 120))
  else .bool (z.S (o - 124))
theorem zc_n (z : Z) : zc z 0 = .int .i64 z.n := by simp [zc]
theorem zc_P (z : Z) (s : Nat) (h : s < 17) : zc z (1 + s * 7) = .bool (z.P s) := by
  unfold zc
  rw [if_neg (by omega), if_pos (by omega)]
  have h1 : (1 + s * 7 - 1) / 7 = s := by omega
  have h2 : (1 + s * 7 - 1) % 7 = 0 := by omega
  simp
theorem zc_T (z : Z) (s : Nat) (h : s < 17) : zc z (1 + s * 7 + 1) = .int .i64 (z.T s) := by
  unfold zc
  rw [if_neg (by omega), if_pos (by omega)]
  have h1 : (1 + s * 7 + 1 - 1) / 7 = s := by omega
  have h2 : (1 + s * 7 + 1 - 1) % 7 = 1 := by omega
  simp only [h1, h2]
  simp
theorem zc_W (z : Z) (s : Nat) (h : s < 17) : zc z (1 + s * 7 + 2) = .int .i64 (z.W s) := by
  unfold zc
  rw [if_neg (by omega), if_pos (by omega)]
  have h1 : (1 + s * 7 + 2 - 1) / 7 = s := by omega
  have h2 : (1 + s * 7 + 2 - 1) % 7 = 2 := by omega
  simp only [h1, h2]
  simp
theorem zc_E (z : Z) (s v : Nat) (h : s < 17) (hv : v < 4) : zc z (1 + s * 7 + 3 + v) = .bool (z.E s v) := by
  unfold zc
  rw [if_neg (by omega), if_pos (by omega)]
  have h1 : (1 + s * 7 + 3 + v - 1) / 7 = s := by omega
  have h2 : (1 + s * 7 + 3 + v - 1) % 7 = 3 + v := by omega
  simp only [h1, h2]
  rw [if_neg (by omega), if_neg (by omega), if_neg (by omega)]
  simp
theorem zc_B (z : Z) (v : Nat) (hv : v < 4) : zc z (120 + v) = .int .i64 (z.B v) := by
  unfold zc
  rw [if_neg (by omega), if_neg (by omega), if_pos (by omega)]
  simp
theorem zc_S (z : Z) (v : Nat) (hv : v < 4) : zc z (124 + v) = .bool (z.S v) := by
  unfold zc
  rw [if_neg (by omega), if_neg (by omega), if_neg (by omega)]
  simp
/-- it in the heap -/
structure IS (t : Nat) (w : World) (b : Nat) (z : Z) : Prop where
  blk : ∃ cs : Array Value, w.heap[b]? = some (.cells cs t (0, 0)) ∧ cs.size = 128 ∧ ∀ o, o < 128 → cs[o]? = some (zc z o)
section
variable {t : Nat} {w w' : World} {b : Nat} {z : Z}
theorem IS.lt (h : IS t w b z) : b < w.heap.size := by
  obtain ⟨cs, h, _⟩ := h.blk
  exact lt_of_heap h
theorem IS.keep (h : IS t w b z) (hk : w'.heap[b]? = w.heap[b]?) : IS t w' b z := by
  obtain ⟨cs, h, r⟩ := h.blk
  exact ⟨cs, hk.trans h, r⟩
theorem IS.below (h : IS t w b z) (hk : Below w.heap.size w w') : IS t w' b z := h.keep (hk.block b h.lt)
theorem IS.c (h : IS t w b z) (o : Nat) (ho : o < 128) : w.cell? ⟨b, o, none⟩ = some (zc z o) := by
  obtain ⟨cs, h, h1, h2⟩ := h.blk
  rw [cell_at h, h2 o ho]
theorem IS.f (h : IS t w b z) (o : Nat) : w.frozen? ⟨b, o, none⟩ = false := by
  obtain ⟨cs, h, _⟩ := h.blk
  exact fz_at h o
theorem IS.cn (h : IS t w b z) : w.cell? ⟨b, 0, none⟩ = some (.int .i64 z.n) := by rw [h.c 0 (by decide), zc_n]
theorem IS.cP (h : IS t w b z) (s : Nat) (hs : s < 17) : w.cell? ⟨b, 1 + s * 7, none⟩ = some (.bool (z.P s)) := by rw [h.c _ (by omega), zc_P z s hs]
theorem IS.cT (h : IS t w b z) (s : Nat) (hs : s < 17) : w.cell? ⟨b, 1 + s * 7 + 1, none⟩ = some (.int .i64 (z.T s)) := by rw [h.c _ (by omega), zc_T z s hs]
theorem IS.cW (h : IS t w b z) (s : Nat) (hs : s < 17) : w.cell? ⟨b, 1 + s * 7 + 2, none⟩ = some (.int .i64 (z.W s)) := by rw [h.c _ (by omega), zc_W z s hs]
theorem IS.cE (h : IS t w b z) (s v : Nat) (hs : s < 17) (hv : v < 4) : w.cell? ⟨b, 1 + s * 7 + 3 + v, none⟩ = some (.bool (z.E s v)) := by rw [h.c _ (by omega), zc_E z s v hs hv]
theorem IS.cB (h : IS t w b z) (v : Nat) (hv : v < 4) : w.cell? ⟨b, 120 + v, none⟩ = some (.int .i64 (z.B v)) := by rw [h.c _ (by omega), zc_B z v hv]
theorem IS.cS (h : IS t w b z) (v : Nat) (hv : v < 4) : w.cell? ⟨b, 124 + v, none⟩ = some (.bool (z.S v)) := by rw [h.c _ (by omega), zc_S z v hv]
/-- a cell stored: the state whose cells are these -/
theorem IS.set (h : IS t w b z) (o : Nat) (ho : o < 128) (v : Value) (z' : Z) (hz : ∀ i, i < 128 → zc z' i = if i = o then v else zc z i) :
    IS t (w.setCell ⟨b, o, none⟩ v) b z' ∧ Trn (fun k => k = b) w (w.setCell ⟨b, o, none⟩ v) := by
  obtain ⟨cs, h1, h2, h3⟩ := h.blk
  refine ⟨⟨_, heap_setCell h1 o v, by simpa using h2, fun i hi => ?_⟩, trn_set1 h1 o v⟩
  rw [Array.getElem?_setIfInBounds, hz i hi]
  by_cases e : i = o
  · subst e
    rw [if_pos rfl, if_pos (by omega), if_pos rfl]
  · rw [if_neg (fun e' => e e'.symm), if_neg e]
    exact h3 i hi
end
def Z.setP (z : Z) (s : Nat) (v : Bool) : Z := { z with P := up z.P s v }
def Z.setT (z : Z) (s : Nat) (v : Int) : Z := { z with T := up z.T s v }
def Z.setW (z : Z) (s : Nat) (v : Int) : Z := { z with W := up z.W s v }
def Z.setE (z : Z) (s v : Nat) (x : Bool) : Z := { z with E := up z.E s (up (z.E s) v x) }
def Z.setB (z : Z) (v : Nat) (x : Int) : Z := { z with B := up z.B v x }
def Z.setS (z : Z) (v : Nat) (x : Bool) : Z := { z with S := up z.S v x }
theorem zc_setP (z : Z) (s : Nat) (v : Bool) (hs : s < 17) (i : Nat) (hi : i < 128) : zc (z.setP s v) i = if i = 1 + s * 7 then .bool v else zc z i := by
  simp only [zc, Z.setP, up]
  by_cases e : i = 1 + s * 7
  · subst e
    have h1 : (1 + s * 7 - 1) / 7 = s := by omega
    have h2 : (1 + s * 7 - 1) % 7 = 0 := by omega
    rw [if_neg (by omega), if_pos (by omega), h1, h2]
    simp
  · rw [if_neg e]
    split
    · rfl
    · split
      · split
        · rw [if_neg (by omega)]
        · rfl
      · rfl
theorem zc_setT (z : Z) (s : Nat) (v : Int) (hs : s < 17) (i : Nat) (hi : i < 128) : zc (z.setT s v) i = if i = 1 + s * 7 + 1 then .int .i64 v else zc z i := by
  simp only [zc, Z.setT, up]
  by_cases e : i = 1 + s * 7 + 1
  · subst e
    have h1 : (1 + s * 7 + 1 - 1) / 7 = s := by omega
    have h2 : (1 + s * 7 + 1 - 1) % 7 = 1 := by omega
    rw [if_neg (by omega), if_pos (by omega), h1, h2]
    simp
  · rw [if_neg e]
    split
    · rfl
    · split
      · split
        · rfl
        · split
          · rw [if_neg (by omega)]
          · rfl
      · rfl
theorem zc_setW (z : Z) (s : Nat) (v : Int) (hs : s < 17) (i : Nat) (hi : i < 128) : zc (z.setW s v) i = if i = 1 + s * 7 + 2 then .int .i64 v else zc z i := by
  simp only [zc, Z.setW, up]
  by_cases e : i = 1 + s * 7 + 2
  · subst e
    have h1 : (1 + s * 7 + 2 - 1) / 7 = s := by omega
    have h2 : (1 + s * 7 + 2 - 1) % 7 = 2 := by omega
    rw [if_neg (by omega), if_pos (by omega), h1, h2]
    simp
  · rw [if_neg e]
    split
    · rfl
    · split
      · split
        · rfl
        · split
          · rfl
          · split
            · rw [if_neg (by omega)]
            · rfl
      · rfl
theorem zc_setE (z : Z) (s v : Nat) (x : Bool) (hs : s < 17) (hv : v < 4) (i : Nat) (hi : i < 128) : zc (z.setE s v x) i = if i = 1 + s * 7 + 3 + v then .bool x else zc z i := by
  simp only [zc, Z.setE, up]
  by_cases e : i = 1 + s * 7 + 3 + v
  · subst e
    have h1 : (1 + s * 7 + 3 + v - 1) / 7 = s := by omega
    have h2 : (1 + s * 7 + 3 + v - 1) % 7 = 3 + v := by omega
    rw [if_neg (by omega), if_pos (by omega), h1, h2, if_neg (by omega), if_neg (by omega), if_neg (by omega)]
    simp [up]
  · rw [if_neg e]
    split
    · rfl
    · split
      · split
        · rfl
        · split
          · rfl
          · split
            · rfl
            · by_cases e2 : (i - 1) / 7 = s
              · rw [if_pos e2]
                by_cases e3 : (i - 1) % 7 - 3 = v
                · omega
                · show Value.bool (up (z.E s) v x _) = _
                  unfold up
                  rw [if_neg e3, e2]
              · rw [if_neg e2]
      · rfl
theorem zc_setB (z : Z) (v : Nat) (x : Int) (hv : v < 4) (i : Nat) (hi : i < 128) : zc (z.setB v x) i = if i = 120 + v then .int .i64 x else zc z i := by
  simp only [zc, Z.setB, up]
  by_cases e : i = 120 + v
  · subst e
    rw [if_neg (by omega), if_neg (by omega), if_pos (by omega)]
    simp
  · rw [if_neg e]
    split
    · rfl
    · split
      · rfl
      · split
        · rw [if_neg (by omega)]
        · rfl
theorem zc_setS (z : Z) (v : Nat) (x : Bool) (hv : v < 4) (i : Nat) (hi : i < 128) : zc (z.setS v x) i = if i = 124 + v then .bool x else zc z i := by
  simp only [zc, Z.setS, up]
  by_cases e : i = 124 + v
  · subst e
    rw [if_neg (by omega), if_neg (by omega), if_neg (by omega)]
    simp
  · rw [if_neg e]
    split
    · rfl
    · split
      · rfl
      · split
        · rfl
        · rw [if_neg (by omega)]
section
variable {t : Nat} {w : World} {b : Nat} {z : Z}
theorem IS.putP (h : IS t w b z) (s : Nat) (hs : s < 17) (v : Bool) : IS t (w.setCell ⟨b, 1 + s * 7, none⟩ (.bool v)) b (z.setP s v) ∧ Trn (fun k => k = b) w (w.setCell ⟨b, 1 + s * 7, none⟩ (.bool v)) := h.set _ (by omega) _ _ (zc_setP z s v hs)
theorem IS.putT (h : IS t w b z) (s : Nat) (hs : s < 17) (v : Int) : IS t (w.setCell ⟨b, 1 + s * 7 + 1, none⟩ (.int .i64 v)) b (z.setT s v) ∧ Trn (fun k => k = b) w (w.setCell ⟨b, 1 + s * 7 + 1, none⟩ (.int .i64 v)) := h.set _ (by omega) _ _ (zc_setT z s v hs)
theorem IS.putW (h : IS t w b z) (s : Nat) (hs : s < 17) (v : Int) : IS t (w.setCell ⟨b, 1 + s * 7 + 2, none⟩ (.int .i64 v)) b (z.setW s v) ∧ Trn (fun k => k = b) w (w.setCell ⟨b, 1 + s * 7 + 2, none⟩ (.int .i64 v)) := h.set _ (by omega) _ _ (zc_setW z s v hs)
theorem IS.putE (h : IS t w b z) (s v : Nat) (hs : s < 17) (hv : v < 4) (x : Bool) : IS t (w.setCell ⟨b, 1 + s * 7 + 3 + v, none⟩ (.bool x)) b (z.setE s v x) ∧ Trn (fun k => k = b) w (w.setCell ⟨b, 1 + s * 7 + 3 + v, none⟩ (.bool x)) := h.set _ (by omega) _ _ (zc_setE z s v x hs hv)
theorem IS.putB (h : IS t w b z) (v : Nat) (hv : v < 4) (x : Int) : IS t (w.setCell ⟨b, 120 + v, none⟩ (.int .i64 x)) b (z.setB v x) ∧ Trn (fun k => k = b) w (w.setCell ⟨b, 120 + v, none⟩ (.int .i64 x)) := h.set _ (by omega) _ _ (zc_setB z v x hv)
theorem IS.putS (h : IS t w b z) (v : Nat) (hv : v < 4) (x : Bool) : IS t (w.setCell ⟨b, 124 + v, none⟩ (.bool x)) b (z.setS v x) ∧ Trn (fun k => k = b) w (w.setCell ⟨b, 124 + v, none⟩ (.bool x)) := h.set _ (by omega) _ _ (zc_setS z v x hv)
end
end Go.Proofs.Ytncjhdhfhojohaa
