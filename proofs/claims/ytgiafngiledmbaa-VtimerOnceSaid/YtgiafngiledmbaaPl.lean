/-
  Timers, plainly: a list of virtual processors, rising; who is begun, ended, changed; whose time is when, who is due, what comes first.
-/
import Derived.Test.YtgiafngiledmbaaBase
namespace Go.Proofs.Ytgiafngiledmbaa
open Go.RowKit Go.Maps
set_option linter.unusedVariables false
set_option maxRecDepth 20000

/-- one's time and timer -/
structure Tm where
  id : Int
  base : Int
  halted : Bool
  still : Int
  set : Bool
  due : Int
def t0 : Tm := ⟨0, 0, false, 0, false, 0⟩
/-- at most the greatest -/
def cap (n : Int) : Int := min n 4611686018427387904
theorem cap_le (n : Int) : cap n ≤ 4611686018427387904 := by unfold cap; omega
theorem cap_0 {n : Int} (h : 0 ≤ n) : 0 ≤ cap n := by unfold cap; omega
structure Tm.Ok (x : Tm) : Prop where
  id : KW x.id
  b0 : 0 ≤ x.base
  b1 : x.base ≤ 4611686018427387904
  s0 : 0 ≤ x.still
  s1 : x.still ≤ 4611686018427387904
  d0 : 0 ≤ x.due
  d1 : x.due ≤ 4611686018427387904
/-- its time at a clock -/
def tm (x : Tm) (c : Int) : Int := if x.halted then x.still else if cap c < x.base then 0 else cap c - x.base
theorem tm_0 {x : Tm} (h : x.Ok) (c : Int) : 0 ≤ tm x c := by
  have := h.s0
  unfold tm
  split
  · omega
  · split <;> omega
theorem tm_le {x : Tm} (h : x.Ok) (c : Int) : tm x c ≤ 4611686018427387904 := by
  have := h.s1
  have := cap_le c
  have := h.b0
  unfold tm
  split
  · omega
  · split <;> omega
/-- is its timer due -/
def isd (c : Int) (x : Tm) : Bool := x.set && !x.halted && decide (x.due ≤ tm x c)
/-- is its timer set, and goes on -/
def el (x : Tm) : Bool := x.set && !x.halted
/-- when -/
def wn (x : Tm) : Int := cap (x.base + x.due)
def fnd (L : List Tm) (id : Int) : Option Tm := L.find? (fun x => x.id == id)
structure LOk (L : List Tm) : Prop where
  srt : L.Pairwise (fun a b => a.id < b.id)
  ok : ∀ x ∈ L, x.Ok
  len : L.length ≤ 64
theorem fnd_mem {L : List Tm} {id : Int} {x : Tm} (h : fnd L id = some x) : x ∈ L ∧ x.id = id := by
  unfold fnd at h
  have h1 := List.find?_some h
  exact ⟨List.mem_of_find?_eq_some h, by simpa using h1⟩
theorem fnd_none {L : List Tm} {id : Int} (h : fnd L id = none) : ∀ x ∈ L, x.id ≠ id := by
  unfold fnd at h
  intro x hx
  simpa using List.find?_eq_none.1 h x hx
theorem srt_inj : ∀ {L : List Tm}, L.Pairwise (fun a b => a.id < b.id) → ∀ {x y : Tm}, x ∈ L → y ∈ L → x.id = y.id → x = y
  | [], _, _, _, hx, _, _ => by simp at hx
  | a :: r, hp, x, y, hx, hy, h => by
    obtain ⟨h1, h2⟩ := List.pairwise_cons.1 hp
    rcases List.mem_cons.1 hx with ex | hx'
    · rcases List.mem_cons.1 hy with ey | hy'
      · rw [ex, ey]
      · have := h1 y hy'; rw [ex] at h; omega
    · rcases List.mem_cons.1 hy with ey | hy'
      · have := h1 x hx'; rw [ey] at h; omega
      · exact srt_inj h2 hx' hy' h
theorem fnd_of {L : List Tm} (h : LOk L) {x : Tm} (hx : x ∈ L) : fnd L x.id = some x := by
  cases hq : fnd L x.id with
  | none => exact absurd rfl (fnd_none hq x hx)
  | some y => rw [srt_inj h.srt (fnd_mem hq).1 hx (fnd_mem hq).2]
/-- what the maps keep -/
def spv (x : Tm) : Value := .agg #[.int .u64 (if x.halted then 0 else x.base), .bool x.halted, .int .u64 (if x.halted then x.still else 0)]
def SM (L : List Tm) (k : Int) : Option Value := (fnd L k).map spv
def TM (L : List Tm) (k : Int) : Option Value := (fnd L k).bind fun x => if x.set then some (.int .u64 x.due) else none

/-- a new one at its place -/
def ins (x : Tm) : List Tm → List Tm
  | [] => [x]
  | y :: r => if y.id < x.id then y :: ins x r else x :: y :: r
theorem mem_ins {x z : Tm} : ∀ {L : List Tm}, z ∈ ins x L ↔ z = x ∨ z ∈ L
  | [] => by simp [ins]
  | y :: r => by
    unfold ins
    split
    · simp only [List.mem_cons, mem_ins]
      constructor
      · rintro (h | h | h) <;> simp [h]
      · rintro (h | h | h) <;> simp [h]
    · simp
theorem len_ins (x : Tm) : ∀ L : List Tm, (ins x L).length = L.length + 1
  | [] => rfl
  | y :: r => by
    unfold ins
    split
    · simp [len_ins x r]
    · simp
theorem srt_ins {x : Tm} : ∀ {L : List Tm}, L.Pairwise (fun a b => a.id < b.id) → (∀ y ∈ L, y.id ≠ x.id) → (ins x L).Pairwise (fun a b => a.id < b.id)
  | [], _, _ => by simp [ins]
  | y :: r, hp, hn => by
    obtain ⟨h1, h2⟩ := List.pairwise_cons.1 hp
    unfold ins
    split
    · rename_i hlt
      refine List.pairwise_cons.2 ⟨fun z hz => ?_, srt_ins h2 fun q hq => hn q (by simp [hq])⟩
      rcases mem_ins.1 hz with rfl | hz
      · exact hlt
      · exact h1 z hz
    · rename_i hlt
      have := hn y (by simp)
      refine List.pairwise_cons.2 ⟨fun z hz => ?_, hp⟩
      rcases List.mem_cons.1 hz with rfl | hz
      · omega
      · have := h1 z hz; omega
theorem LOk.ins {L : List Tm} (h : LOk L) {x : Tm} (hx : x.Ok) (hn : fnd L x.id = none) (hl : L.length < 64) : LOk (ins x L) :=
  ⟨srt_ins h.srt (fnd_none hn), fun z hz => by rcases mem_ins.1 hz with rfl | hz; exact hx; exact h.ok z hz, by rw [len_ins]; omega⟩
/-- who is found is who is in it by that number -/
theorem fnd_iff {L : List Tm} (h : LOk L) {q : Int} {x : Tm} : fnd L q = some x ↔ x ∈ L ∧ x.id = q :=
  ⟨fnd_mem, fun ⟨h1, h2⟩ => by rw [← h2]; exact fnd_of h h1⟩
theorem opt_ext {α : Type} {a b : Option α} (h : ∀ x, a = some x ↔ b = some x) : a = b := by
  cases a with
  | none => cases b with
    | none => rfl
    | some y => exact absurd ((h y).2 rfl) (by simp)
  | some x => exact ((h x).1 rfl).symm
theorem fnd_ins {L : List Tm} (h : LOk L) {x : Tm} (hx : x.Ok) (hn : fnd L x.id = none) (hl : L.length < 64) (q : Int) : fnd (Ytgiafngiledmbaa.ins x L) q = if q = x.id then some x else fnd L q := by
  have h2 := h.ins hx hn hl
  refine opt_ext fun z => ?_
  rw [fnd_iff h2, mem_ins]
  split
  · rename_i e
    subst e
    constructor
    · rintro ⟨rfl | h3, h4⟩
      · rfl
      · exact absurd h4 (fnd_none hn z h3)
    · intro e; cases e; exact ⟨.inl rfl, rfl⟩
  · rename_i e
    rw [fnd_iff h]
    constructor
    · rintro ⟨rfl | h3, h4⟩
      · exact absurd h4.symm e
      · exact ⟨h3, h4⟩
    · rintro ⟨h3, h4⟩; exact ⟨.inr h3, h4⟩
/-- one is forgotten -/
def del (L : List Tm) (id : Int) : List Tm := L.filter fun x => !(x.id == id)
theorem LOk.del {L : List Tm} (h : LOk L) (id : Int) : LOk (del L id) :=
  ⟨h.srt.sublist List.filter_sublist, fun x hx => h.ok x (List.mem_filter.1 hx).1, Nat.le_trans (List.length_filter_le _ _) h.len⟩
theorem fnd_del {L : List Tm} (h : LOk L) (id q : Int) : fnd (Ytgiafngiledmbaa.del L id) q = if q = id then none else fnd L q := by
  refine opt_ext fun z => ?_
  rw [fnd_iff (h.del id)]
  unfold Ytgiafngiledmbaa.del
  rw [List.mem_filter]
  split
  · rename_i e
    subst e
    simp
  · rename_i e
    rw [fnd_iff h]
    constructor
    · rintro ⟨⟨h1, h2⟩, h3⟩; exact ⟨h1, h3⟩
    · rintro ⟨h1, h3⟩; exact ⟨⟨h1, by simp [h3, e]⟩, h3⟩
theorem len_del_aux : ∀ {L : List Tm}, L.Pairwise (fun a b => a.id < b.id) → ∀ {x : Tm}, x ∈ L → (Ytgiafngiledmbaa.del L x.id).length + 1 = L.length
  | [], _, _, hx => by simp at hx
  | y :: r, hp, x, hx => by
    obtain ⟨h1, h2⟩ := List.pairwise_cons.1 hp
    unfold Ytgiafngiledmbaa.del
    rcases List.mem_cons.1 hx with rfl | hx
    · rw [List.filter_cons]
      simp only [beq_self_eq_true, Bool.not_true, Bool.false_eq_true, if_false, List.length_cons]
      rw [List.filter_eq_self.2 fun z hz => by have := h1 z hz; simp; omega]
    · have := h1 x hx
      have hne : (y.id == x.id) = false := by simp; omega
      rw [List.filter_cons, hne]
      simp only [Bool.not_false, if_true, List.length_cons]
      have := len_del_aux h2 hx
      unfold Ytgiafngiledmbaa.del at this
      omega
theorem len_del {L : List Tm} (h : LOk L) {x : Tm} (hx : x ∈ L) : (Ytgiafngiledmbaa.del L x.id).length + 1 = L.length := len_del_aux h.srt hx
/-- one is changed -/
def mod (L : List Tm) (id : Int) (f : Tm → Tm) : List Tm := L.map fun x => if x.id = id then f x else x
theorem mem_mod {L : List Tm} {id : Int} {f : Tm → Tm} {z : Tm} : z ∈ mod L id f ↔ ∃ x ∈ L, z = if x.id = id then f x else x := by
  unfold mod
  rw [List.mem_map]
  constructor
  · rintro ⟨x, hx, rfl⟩; exact ⟨x, hx, rfl⟩
  · rintro ⟨x, hx, rfl⟩; exact ⟨x, hx, rfl⟩
theorem id_mod {id : Int} {f : Tm → Tm} (hf : ∀ x, (f x).id = x.id) (x : Tm) : (if x.id = id then f x else x).id = x.id := by split; exact hf x; rfl
theorem LOk.mod {L : List Tm} (h : LOk L) (id : Int) {f : Tm → Tm} (hf : ∀ x, (f x).id = x.id) (ho : ∀ x, fnd L id = some x → (f x).Ok) : LOk (mod L id f) :=
  ⟨List.pairwise_map.2 (h.srt.imp fun {a b} hab => by rw [id_mod hf, id_mod hf]; exact hab), fun z hz => by
    obtain ⟨x, hx, rfl⟩ := mem_mod.1 hz
    split
    · rename_i e; exact ho x (by rw [← e]; exact fnd_of h hx)
    · exact h.ok x hx, by simpa [Ytgiafngiledmbaa.mod] using h.len⟩
theorem fnd_mod (L : List Tm) (id q : Int) {f : Tm → Tm} (hf : ∀ x, (f x).id = x.id) : fnd (Ytgiafngiledmbaa.mod L id f) q = if q = id then (fnd L q).map f else fnd L q := by
  unfold fnd Ytgiafngiledmbaa.mod
  rw [List.find?_map]
  have e : ((fun x : Tm => x.id == q) ∘ fun x => if x.id = id then f x else x) = fun x : Tm => x.id == q := funext fun x => by simp [Function.comp, id_mod hf]
  rw [e]
  cases hq : List.find? (fun x : Tm => x.id == q) L with
  | none => simp
  | some y =>
    have := List.find?_some hq
    simp at this
    subst this
    simp only [Option.map_some]
    split <;> rfl
theorem len_mod (L : List Tm) (id : Int) (f : Tm → Tm) : (mod L id f).length = L.length := by simp [mod]
/-- whose timers are due, rising; what is left then -/
def dueL (L : List Tm) (c : Int) : List Int := (L.filter (isd c)).map (·.id)
def off (x : Tm) : Tm := ⟨x.id, x.base, x.halted, x.still, false, x.due⟩
def aft (L : List Tm) (c : Int) : List Tm := L.map fun x => if isd c x then off x else x
theorem id_aft (c : Int) (x : Tm) : (if isd c x then off x else x).id = x.id := by split <;> rfl
theorem LOk.aft {L : List Tm} (h : LOk L) (c : Int) : LOk (aft L c) :=
  ⟨List.pairwise_map.2 (h.srt.imp fun {a b} hab => by rw [id_aft, id_aft]; exact hab), fun z hz => by
    obtain ⟨x, hx, rfl⟩ := List.mem_map.1 hz
    have := h.ok x hx
    split
    · exact ⟨this.id, this.b0, this.b1, this.s0, this.s1, this.d0, this.d1⟩
    · exact this, by simpa [Ytgiafngiledmbaa.aft] using h.len⟩
theorem fnd_aft (L : List Tm) (c q : Int) : fnd (Ytgiafngiledmbaa.aft L c) q = (fnd L q).map fun x => if isd c x then off x else x := by
  unfold fnd Ytgiafngiledmbaa.aft
  rw [List.find?_map]
  have e : ((fun x : Tm => x.id == q) ∘ fun x => if isd c x then off x else x) = fun x : Tm => x.id == q := funext fun x => by simp [Function.comp, id_aft]
  rw [e]
theorem spv_off (x : Tm) : spv (off x) = spv x := rfl
theorem SM_aft (L : List Tm) (c k : Int) : SM (Ytgiafngiledmbaa.aft L c) k = SM L k := by
  unfold SM
  rw [fnd_aft]
  cases fnd L k with
  | none => rfl
  | some x =>
    simp only [Option.map_some]
    split <;> rfl
/-- the first of all that go on: the least -/
structure Nx (L : List Tm) (r : Option Int) : Prop where
  no : r = none → ∀ x ∈ L, el x = false
  yes : ∀ v, r = some v → (∃ x ∈ L, el x = true ∧ wn x = v) ∧ ∀ x ∈ L, el x = true → v ≤ wn x
theorem Nx.one {L : List Tm} {r s : Option Int} (h : Nx L r) (k : Nx L s) : r = s := by
  cases r with
  | none =>
    cases s with
    | none => rfl
    | some v =>
      obtain ⟨⟨x, hx, h1, _⟩, _⟩ := k.yes v rfl
      rw [h.no rfl x hx] at h1
      cases h1
  | some u =>
    obtain ⟨⟨x, hx, h1, h2⟩, h3⟩ := h.yes u rfl
    cases s with
    | none =>
      rw [k.no rfl x hx] at h1
      cases h1
    | some v =>
      obtain ⟨⟨y, hy, k1, k2⟩, k3⟩ := k.yes v rfl
      have a := h3 y hy k1
      have b := k3 x hx h1
      congr 1
      omega
theorem dueL_lt {L : List Tm} (h : LOk L) (c : Int) : (dueL L c).Pairwise (· < ·) := List.pairwise_map.2 (h.srt.sublist List.filter_sublist)
theorem mem_dueL {L : List Tm} (h : LOk L) (c k : Int) : k ∈ dueL L c ↔ ∃ x, fnd L k = some x ∧ isd c x = true := by
  unfold dueL
  rw [List.mem_map]
  constructor
  · rintro ⟨x, hx, rfl⟩
    obtain ⟨h1, h2⟩ := List.mem_filter.1 hx
    exact ⟨x, fnd_of h h1, h2⟩
  · rintro ⟨x, hx, h2⟩
    exact ⟨x, List.mem_filter.2 ⟨(fnd_mem hx).1, h2⟩, (fnd_mem hx).2⟩
theorem nodup_of_lt {l : List Int} (h : l.Pairwise (· < ·)) : l.Nodup := h.imp fun {a b} hab => by omega
theorem sort_due {L : List Tm} (h : LOk L) (c : Int) {o : List Int} (hn : o.Nodup) (hm : ∀ k, k ∈ o ↔ k ∈ dueL L c) : o.mergeSort (fun x y => decide (x ≤ y)) = dueL L c := by
  have hp : o.Perm (dueL L c) := (List.perm_ext_iff_of_nodup hn (nodup_of_lt (dueL_lt h c))).2 hm
  have h1 : (o.mergeSort fun x y => decide (x ≤ y)).Perm (dueL L c) := (List.mergeSort_perm _ _).trans hp
  have h2 := List.pairwise_mergeSort (le := fun x y : Int => decide (x ≤ y)) (fun a b c h1 h2 => by simp at *; omega) (fun a b => by simp; omega) o
  refine h1.eq_of_pairwise (le := fun x y => x ≤ y) (fun a b _ _ h1 h2 => by omega) (h2.imp fun {a b} h => by simpa using h) ((dueL_lt h c).imp fun {a b} h => by omega)
end Go.Proofs.Ytgiafngiledmbaa
