/-
  A lock with its memory: what Take, Give, Step and State do.
-/
import Derived.Test.YtioanbdmkiphfaaDoorLt
namespace Go.Proofs.YtioanbdmkiphfaaDoor
open Go.RowKit
set_option linter.unusedVariables false
set_option maxRecDepth 20000

section
variable {w w' : World} {k b g n : Nat} {zs : List Int} {t : Int} {S T : Nat → Int}
theorem LK.ob (h : LK w k b t n S T) : ∃ cs : Array Value, w.heap[k]? = some (.cells cs 65 (0, 0)) := let ⟨cs, e, _⟩ := h.blk; ⟨cs, e⟩
theorem LX.kg (h : LX w k b g zs t n S T) : k ≠ g := let ⟨_, e⟩ := h.lk.ob; ne_typ e h.mm.row (by decide)
theorem LX.kb (h : LX w k b g zs t n S T) : k ≠ b := let ⟨_, e⟩ := h.lk.ob; ne_typ e h.mm.cell (by decide)
theorem LX.below (h : LX w k b g zs t n S T) (hb : Below w.heap.size w w') : LX w' k b g zs t n S T :=
  ⟨h.lk.below hb, h.mm.below hb, h.tb.below hb, h.t0, h.t8, h.t16, h.k1, h.g1⟩
/-- others' blocks turn -/
theorem LX.other {N : Nat → Prop} (h : LX w k b g zs t n S T) (ht : Trn N w w') (hN : ∀ x, N x → 1 < x ∧ x ≠ k ∧ x ≠ b ∧ x ≠ g) : LX w' k b g zs t n S T :=
  ⟨h.lk.keep (ht.block k h.lk.lt fun e => (hN _ e).2.1 rfl),
   ⟨(ht.block b h.mm.blt fun e => (hN _ e).2.2.1 rfl).trans h.mm.cell, (ht.block g h.mm.glt fun e => (hN _ e).2.2.2 rfl).trans h.mm.row, h.mm.ne, h.mm.bytes, h.mm.pos, h.mm.len⟩,
   h.tb.turn ht fun x e => (hN x e).1, h.t0, h.t8, h.t16, h.k1, h.g1⟩
/-- a state is written -/
theorem LK.setS (h : LK w k b t n S T) (c : Nat) (hc : c < n) (y : Int) (hy : 0 ≤ y ∧ y ≤ 4) : LK (w.setCell ⟨k, 3 + c * 2, none⟩ (.int .i64 y)) k b t n (upd S c y) T := by
  have hn8 := h.n8
  obtain ⟨⟨cs, h0, h1, h2, h3, h4, h5⟩, q1, q2, q3, q4⟩ := h
  refine ⟨⟨_, heap_setCell h0 _ _, by simpa using h1, ?_, ?_, ?_, fun d hd => ⟨?_, ?_⟩⟩, q1, q2, fun d => ?_, q4⟩
  · rw [Array.getElem?_setIfInBounds, if_neg (by omega)]; exact h2
  · rw [Array.getElem?_setIfInBounds, if_neg (by omega)]; exact h3
  · rw [Array.getElem?_setIfInBounds, if_neg (by omega)]; exact h4
  · rw [Array.getElem?_setIfInBounds]
    unfold upd
    by_cases e : d = c
    · subst e
      rw [if_pos rfl, if_pos (by omega), if_pos rfl]
    · rw [if_neg (by omega), if_neg e]; exact (h5 d hd).1
  · rw [Array.getElem?_setIfInBounds, if_neg (by omega)]; exact (h5 d hd).2
  · unfold upd; split
    · exact hy
    · exact q3 d
/-- a turn is written -/
theorem LK.setT (h : LK w k b t n S T) (c : Nat) (hc : c < n) (y z : Int) (hy : 0 ≤ y ∧ y ≤ 4) (hz : U z) : LK ((w.setCell ⟨k, 3 + c * 2, none⟩ (.int .i64 y)).setCell ⟨k, 3 + c * 2 + 1, none⟩ (.int .u64 z)) k b t n (upd S c y) (upd T c z) := by
  have hn8 := h.n8
  have h' := h.setS c hc y hy
  obtain ⟨⟨cs, h0, h1, h2, h3, h4, h5⟩, q1, q2, q3, q4⟩ := h'
  refine ⟨⟨_, heap_setCell h0 _ _, by simpa using h1, ?_, ?_, ?_, fun d hd => ⟨?_, ?_⟩⟩, q1, q2, q3, fun d => ?_⟩
  · rw [Array.getElem?_setIfInBounds, if_neg (by omega)]; exact h2
  · rw [Array.getElem?_setIfInBounds, if_neg (by omega)]; exact h3
  · rw [Array.getElem?_setIfInBounds, if_neg (by omega)]; exact h4
  · rw [Array.getElem?_setIfInBounds, if_neg (by omega)]; exact (h5 d hd).1
  · rw [Array.getElem?_setIfInBounds]
    show _ = some (Value.int .u64 (if d = c then z else T d))
    by_cases e : d = c
    · subst e
      rw [if_pos rfl, if_pos (by omega), if_pos rfl]
    · rw [if_neg (by omega), if_neg e]; exact (h5 d hd).2
  · unfold upd; split
    · exact hz
    · exact q4 d
def Own (k g : Nat) (x : Nat) : Prop := x = k ∨ x = g
theorem trn_set (h : LK w k b t n S T) (o : Nat) (v : Value) : Trn (Own k g) w (w.setCell ⟨k, o, none⟩ v) :=
  let ⟨_, e⟩ := h.ob; .of_grown (grown_setCell e o v) fun x hx => .inl (by cases hx; rfl)
theorem LX.setS (h : LX w k b g zs t n S T) (c : Nat) (hc : c < n) (y : Int) (hy : 0 ≤ y ∧ y ≤ 4) : LX (w.setCell ⟨k, 3 + c * 2, none⟩ (.int .i64 y)) k b g zs t n (upd S c y) T := by
  obtain ⟨_, e⟩ := h.lk.ob
  have hg := grown_setCell e (3 + c * 2) (.int .i64 y)
  have hkb := h.kb
  have hkg := h.kg
  exact ⟨h.lk.setS c hc y hy, h.mm.kept hg (by simp; omega) (by simp; omega), h.tb.turn (Trn.of_grown (S := fun x => x = k) hg fun x hx => by cases hx; rfl) (fun x hx => by rw [hx]; exact h.k1), h.t0, h.t8, h.t16, h.k1, h.g1⟩
end

theorem begin_lx (k b g : Nat) (zs : List Int) (t : Int) (n : Nat) (S T : Nat → Int) (c x y : Int) (hy : 0 ≤ y ∧ y ≤ 4) (w : World) (h : LX w k b g zs t n S T) : Calls Tryd.prog 26 #[.pointer (some ⟨k, 0, none⟩), .int .i64 c, .int .i64 x, .int .i64 y] w fun e w' =>
    e = .returned (.int .i64 (if hasC n c then (if S c.toNat = x then 0 else 21) else 2)) ∧ LX w' k b g zs t n (if hasC n c ∧ S c.toNat = x then upd S c.toNat y else S) T ∧ Trn (Own k g) w w' := by
  cases hc : hasC n c
  · refine (begin_no k b t n S T c x y w h.lk hc).mono ?_
    rintro e w' ⟨rfl, rfl⟩
    exact ⟨by simp, by simpa using h, Trn.refl _ _⟩
  · obtain ⟨d, rfl, hd⟩ := hasC_yes hc
    simp only [Int.toNat_natCast]
    by_cases hs : S d = x
    · refine (begin_ok k b t n S T d x y w h.lk hd hs).mono ?_
      rintro e w' ⟨rfl, rfl⟩
      exact ⟨by simp [hs], by simpa [hs] using h.setS d hd y hy, trn_set h.lk _ _⟩
    · refine (begin_bad k b t n S T d x y w h.lk hd hs).mono ?_
      rintro e w' ⟨rfl, rfl⟩
      exact ⟨by simp [hs], by simpa [hs] using h, Trn.refl _ _⟩
/-- what Take and Give answer, and the states behind them -/
def begE (n : Nat) (S : Nat → Int) (c x : Int) : Int := if hasC n c then (if S c.toNat = x then 0 else 21) else 2
def begS (n : Nat) (S : Nat → Int) (c x y : Int) : Nat → Int := if hasC n c ∧ S c.toNat = x then upd S c.toNat y else S
theorem take_lx (k b g : Nat) (zs : List Int) (t : Int) (n : Nat) (S T : Nat → Int) (c : Int) (w : World) (h : LX w k b g zs t n S T) : Calls Tryd.prog 13 #[.pointer (some ⟨k, 0, none⟩), .int .i64 c] w fun e w' =>
    e = .returned (.int .i64 (begE n S c 0)) ∧ LX w' k b g zs t n (begS n S c 0 1) T ∧ Trn (Own k g) w w' := by
  have C := begin_lx k b g zs t n S T c 0 1 (by decide) w h
  change Calls Tryd.prog 26 _ w fun e w' => e = .returned (.int .i64 (begE n S c 0)) ∧ LX w' k b g zs t n (begS n S c 0 1) T ∧ Trn (Own k g) w w' at C
  generalize begE n S c 0 = E at *
  generalize begS n S c 0 1 = S' at *
  clear h
  go_enter Tryd.func13, Tryd.ntmps13
  go_wp2_with fail
  refine C.mono ?_
  rintro e w1 ⟨rfl, h1, h2⟩
  go_wp2_with fail
  go_ret
  exact ⟨rfl, h1, h2⟩
theorem give_lx (k b g : Nat) (zs : List Int) (t : Int) (n : Nat) (S T : Nat → Int) (c : Int) (w : World) (h : LX w k b g zs t n S T) : Calls Tryd.prog 15 #[.pointer (some ⟨k, 0, none⟩), .int .i64 c] w fun e w' =>
    e = .returned (.int .i64 (begE n S c 3)) ∧ LX w' k b g zs t n (begS n S c 3 4) T ∧ Trn (Own k g) w w' := by
  have C := begin_lx k b g zs t n S T c 3 4 (by decide) w h
  change Calls Tryd.prog 26 _ w fun e w' => e = .returned (.int .i64 (begE n S c 3)) ∧ LX w' k b g zs t n (begS n S c 3 4) T ∧ Trn (Own k g) w w' at C
  generalize begE n S c 3 = E at *
  generalize begS n S c 3 4 = S' at *
  clear h
  go_enter Tryd.func15, Tryd.ntmps15
  go_wp2_with fail
  refine C.mono ?_
  rintro e w1 ⟨rfl, h1, h2⟩
  go_wp2_with fail
  go_ret
  exact ⟨rfl, h1, h2⟩

/-- P15.3: what a step leaves: the state, the ticket, the memory -/
def stpS (t : Int) (zs : List Int) (s x : Int) : Int := if s = 1 then 2 else if s = 2 then (if loadV zs (t + 8) 8 = x then 3 else 2) else if s = 4 then 0 else s
def stpT (t : Int) (zs : List Int) (s x : Int) : Int := if s = 1 then loadV zs t 8 else x
def stpZ (t : Int) (zs : List Int) (s : Int) : List Int := if s = 1 then storeV zs t 8 (inc (loadV zs t 8)) else if s = 4 then storeV zs (t + 8) 8 (inc (loadV zs (t + 8) 8)) else zs
theorem storeV_len (zs : List Int) (t n v : Int) (ht : 0 ≤ t) : (storeV zs t n v).length = zs.length := by
  unfold storeV
  by_cases h : numE zs.length t n = 0
  · rw [if_pos h]
    obtain ⟨h1, h2, h3⟩ := numE_zero h
    exact length_splice zs _ _ (by rw [bytesOf_len]; unfold isW at h1; omega)
  · rw [if_neg h]
theorem stpZ_len (t : Int) (zs : List Int) (s : Int) (ht : 0 ≤ t) : (stpZ t zs s).length = zs.length := by
  unfold stpZ
  split
  · exact storeV_len _ _ _ _ ht
  · split
    · exact storeV_len _ _ _ _ (by omega)
    · rfl
theorem LX.mem {w w' : World} {k b g n : Nat} {zs ys : List Int} {t : Int} {S T : Nat → Int} (h : LX w k b g zs t n S T) (hm : MM w' b g ys) (hl : ys.length = zs.length) (hk : w.grownBy w' (some g)) : LX w' k b g ys t n S T :=
  ⟨h.lk.keep (hk.block k h.lk.lt (by have := h.kg; simp; omega)), hm, h.tb.turn (Trn.of_grown (S := fun x => x = g) hk fun x hx => by cases hx; rfl) (fun x hx => by rw [hx]; exact h.g1), h.t0, h.t8, by rw [hl]; exact h.t16, h.k1, h.g1⟩
theorem step_lx (k b g : Nat) (zs : List Int) (t : Int) (n : Nat) (S T : Nat → Int) (s x : Int) (hs : 0 ≤ s ∧ s ≤ 4) (w : World) (h : LX w k b g zs t n S T) : Calls Tryd.prog 28 #[.pointer (some ⟨k, 0, none⟩), .agg #[.int .i64 s, .int .u64 x]] w fun e w' =>
    e = .returned (.tuple #[.agg #[.int .i64 (stpS t zs s x), .int .u64 (stpT t zs s x)], .int .i64 0]) ∧ LX w' k b g (stpZ t zs s) t n S T ∧ Trn (Own k g) w w' := by
  have hc : s = 0 ∨ s = 1 ∨ s = 2 ∨ s = 3 ∨ s = 4 := by omega
  have t0 := h.t0
  rcases hc with rfl | rfl | rfl | rfl | rfl
  · refine (step_stay k 0 x w (.inl rfl) h.tb).mono ?_
    rintro e w' ⟨rfl, hb⟩
    exact ⟨rfl, h.below hb, .of_below hb⟩
  · refine (step_wants k b g zs t n S T x w h).mono ?_
    rintro e w' ⟨rfl, hm, hg⟩
    exact ⟨rfl, h.mem hm (storeV_len _ _ _ _ t0) hg, .of_grown hg fun x hx => .inr (by cases hx; rfl)⟩
  · refine (step_spins k b g zs t n S T x w h).mono ?_
    rintro e w' ⟨rfl, hb⟩
    exact ⟨rfl, h.below hb, .of_below hb⟩
  · refine (step_stay k 3 x w (.inr rfl) h.tb).mono ?_
    rintro e w' ⟨rfl, hb⟩
    exact ⟨rfl, h.below hb, .of_below hb⟩
  · refine (step_gives k b g zs t n S T x w h).mono ?_
    rintro e w' ⟨rfl, hm, hg⟩
    exact ⟨rfl, h.mem hm (storeV_len _ _ _ _ (by omega)) hg, .of_grown hg fun x hx => .inr (by cases hx; rfl)⟩
theorem stp_ok {t : Int} {zs : List Int} (hz : Bytes zs) {s x : Int} (hs : 0 ≤ s ∧ s ≤ 4) (hx : U x) : (0 ≤ stpS t zs s x ∧ stpS t zs s x ≤ 4) ∧ U (stpT t zs s x) := by
  refine ⟨?_, ?_⟩
  · unfold stpS
    split
    · omega
    · split
      · split <;> omega
      · split
        · omega
        · exact hs
  · unfold stpT
    split
    · exact load_U zs hz t
    · exact hx
theorem drewN_below {B : Nat} {W w : World} (h : Below B W w) : ∀ n, Below B W (w.drewN n) := fun n => ⟨h.os, h.tape, h.output, h.size, h.block⟩
theorem state_no (k b g : Nat) (zs : List Int) (t : Int) (n : Nat) (S T : Nat → Int) (c : Int) (w : World) (h : LX w k b g zs t n S T) (hc : hasC n c = false) : Calls Tryd.prog 20 #[.pointer (some ⟨k, 0, none⟩), .int .i64 c] w fun e w' => e = .returned (.tuple #[.int .i64 0, .int .u64 0]) ∧ Below w.heap.size w w' := by
  have C := check_lk k b t n S T c w h.lk
  rw [hc] at C
  clear h hc
  go_enter Tryd.func20, Tryd.ntmps20
  go_wp2_with fail
  refine C.mono ?_
  rintro e w1 ⟨rfl, rfl⟩
  go_wp2_with fail
  go_ret2
  exact ⟨rfl, Below.refl _ _⟩
theorem state_yes (k b g : Nat) (zs : List Int) (t : Int) (n : Nat) (S T : Nat → Int) (c : Nat) (w : World) (h : LX w k b g zs t n S T) (hc : c < n) : Calls Tryd.prog 20 #[.pointer (some ⟨k, 0, none⟩), .int .i64 c] w fun e w' => e = .returned (.tuple #[.int .i64 (S c), .int .u64 (T c)]) ∧ Below w.heap.size w w' := by
  have C := check_lk k b t n S T c w h.lk
  rw [hasC_nat hc] at C
  have e0 := h.lk.cs c hc
  have e1 := h.lk.ct c hc
  have hl := h.lk.lt
  have hn := h.lk.n8
  have hc8 : (c : Int) < 8 := by omega
  clear h
  go_enter Tryd.func20, Tryd.ntmps20
  go_wp2_with fail
  refine C.mono ?_
  rintro e w1 ⟨rfl, rfl⟩
  go_wp2
  go_quiet (fail)
  go_wp2
  go_ret2
  exact ⟨rfl, drewN_below ((Below.refl _ _).alloc (Nat.le_refl _) _) _⟩
theorem LX.drew {w : World} {k b g n : Nat} {zs : List Int} {t : Int} {S T : Nat → Int} (h : LX w k b g zs t n S T) : LX w.drew k b g zs t n S T := h.below (Below.refl _ _).drew
theorem LX.turned {w : World} {k b g n : Nat} {zs : List Int} {t : Int} {S T : Nat → Int} (h : LX w k b g zs t n S T) (c : Nat) (hc : c < n) (y z : Int) (hy : 0 ≤ y ∧ y ≤ 4) (hz : U z) {o : Obj} :
    LX (((w.setCell ⟨k, 3 + c * 2, none⟩ (.int .i64 y)).setCell ⟨k, 3 + c * 2 + 1, none⟩ (.int .u64 z)).alloc o) k b g zs t n (upd S c y) (upd T c z) ∧ Trn (Own k g) w (((w.setCell ⟨k, 3 + c * 2, none⟩ (.int .i64 y)).setCell ⟨k, 3 + c * 2 + 1, none⟩ (.int .u64 z)).alloc o) := by
  have h1 := h.setS c hc y hy
  obtain ⟨_, e1⟩ := h1.lk.ob
  have hg := grown_setCell e1 (3 + c * 2 + 1) (.int .u64 z)
  have hkb := h.kb
  have hkg := h.kg
  have h2 : LX ((w.setCell ⟨k, 3 + c * 2, none⟩ (.int .i64 y)).setCell ⟨k, 3 + c * 2 + 1, none⟩ (.int .u64 z)) k b g zs t n (upd S c y) (upd T c z) :=
    ⟨h.lk.setT c hc y z hy hz, h1.mm.kept hg (by simp; omega) (by simp; omega), h1.tb.turn (Trn.of_grown (S := fun x => x = k) hg fun x hx => by cases hx; rfl) (fun x hx => by rw [hx]; exact h.k1), h.t0, h.t8, h.t16, h.k1, h.g1⟩
  have hb : Below ((w.setCell ⟨k, 3 + c * 2, none⟩ (.int .i64 y)).setCell ⟨k, 3 + c * 2 + 1, none⟩ (.int .u64 z)).heap.size _ (((w.setCell ⟨k, 3 + c * 2, none⟩ (.int .i64 y)).setCell ⟨k, 3 + c * 2 + 1, none⟩ (.int .u64 z)).alloc o) := (Below.refl _ _).alloc (Nat.le_refl _) _
  exact ⟨h2.below hb, ((trn_set h.lk _ _).trans (trn_set h1.lk _ _)).trans (.of_below hb)⟩
theorem Step_no (k b g : Nat) (zs : List Int) (t : Int) (n : Nat) (S T : Nat → Int) (c : Int) (w : World) (h : LX w k b g zs t n S T) (hc : hasC n c = false) : Calls Tryd.prog 16 #[.pointer (some ⟨k, 0, none⟩), .int .i64 c] w fun e w' => e = .returned (.tuple #[.int .i64 0, .int .i64 2]) ∧ w' = w := by
  have C := check_lk k b t n S T c w h.lk
  rw [hc] at C
  clear h hc
  go_enter Tryd.func16, Tryd.ntmps16
  go_wp2_with fail
  refine C.mono ?_
  rintro e w1 ⟨rfl, rfl⟩
  go_wp2_with fail
  go_ret2
  exact ⟨rfl, rfl⟩
theorem Step_yes (k b g : Nat) (zs : List Int) (t : Int) (n : Nat) (S T : Nat → Int) (c : Nat) (w : World) (h : LX w k b g zs t n S T) (hc : c < n) : Calls Tryd.prog 16 #[.pointer (some ⟨k, 0, none⟩), .int .i64 c] w fun e w' =>
    e = .returned (.tuple #[.int .i64 (stpS t zs (S c) (T c)), .int .i64 0]) ∧ LX w' k b g (stpZ t zs (S c)) t n (upd S c (stpS t zs (S c) (T c))) (upd T c (stpT t zs (S c) (T c))) ∧ Trn (Own k g) w w' := by
  have C := check_lk k b t n S T c w h.lk
  rw [hasC_nat hc] at C
  have D := step_lx k b g zs t n S T (S c) (T c) (h.lk.st c) w h
  obtain ⟨hs', ht'⟩ := stp_ok (t := t) h.mm.bytes (h.lk.st c) (h.lk.tk c)
  have HS : Hid (0 ≤ stpS t zs (S c) (T c) ∧ stpS t zs (S c) (T c) ≤ 4) := hs'
  have HT : Hid (U (stpT t zs (S c) (T c))) := ht'
  have e0 := h.lk.cs c hc
  have e1 := h.lk.ct c hc
  have hl := h.lk.lt
  have hn := h.lk.n8
  have hc8 : (c : Int) < 8 := by omega
  generalize stpS t zs (S c) (T c) = s' at *
  generalize stpT t zs (S c) (T c) = x' at *
  generalize stpZ t zs (S c) = zs' at *
  clear h hs' ht'
  go_enter Tryd.func16, Tryd.ntmps16
  go_wp2_with fail
  refine C.mono ?_
  rintro e w1 ⟨rfl, rfl⟩
  go_wp2_with fail
  refine D.mono ?_
  rintro e w2 ⟨rfl, hX, hR⟩
  have f0 := hX.lk.cs c hc
  have f1 := hX.lk.ct c hc
  have g0 := hX.lk.f (3 + c * 2)
  have g1 := hX.lk.f (3 + c * 2 + 1)
  have l2 := hX.lk.lt
  have HX : Hid (_) := hX
  have HR : Hid (Trn (Own k g) w1 w2) := hR
  clear C D e0 e1 hX hR
  go_wp2_with fail
  go_region
  all_goals
    go_wp2
    go_ret2
    exact ⟨rfl, (HX.out.turned c hc s' x' HS.out HT.out).1.drew, (HR.out.trans (HX.out.turned c hc s' x' HS.out HT.out).2).drew⟩
end Go.Proofs.YtioanbdmkiphfaaDoor
