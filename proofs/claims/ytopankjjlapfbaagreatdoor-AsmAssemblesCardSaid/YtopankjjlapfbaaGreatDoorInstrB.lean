/-
  An operation and its operands, read: the walk.
-/
import Derived.Test.YtopankjjlapfbaaGreatDoorInstr
import Derived.WalkMore
namespace Go.Proofs.YtopankjjlapfbaaGreatDoor
open Go.RowKit
set_option linter.unusedVariables false
set_option maxRecDepth 100000

theorem below_set9 {B b : Nat} {w w1 : World} (h : Below B w w1) (hb : B ≤ b) (v0 v1 v2 v3 v4 v5 v6 v7 v8 : Value) :
    Below B w (((((((((w1.setCell ⟨b, 0, none⟩ v0).setCell ⟨b, 1, none⟩ v1).setCell ⟨b, 2, none⟩ v2).setCell ⟨b, 3, none⟩ v3).setCell ⟨b, 4, none⟩ v4).setCell ⟨b, 5, none⟩ v5).setCell ⟨b, 6, none⟩ v6).setCell ⟨b, 7, none⟩ v7).setCell ⟨b, 8, none⟩ v8) :=
  ((((((((h.setCell hb _).setCell hb _).setCell hb _).setCell hb _).setCell hb _).setCell hb _).setCell hb _).setCell hb _).setCell hb _

/-- nine cells that may be written -/
structure Nine (w : World) (B : Nat) : Prop where
  c0 : ∃ v, w.cell? ⟨B, 0, none⟩ = some v
  c1 : ∃ v, w.cell? ⟨B, 1, none⟩ = some v
  c2 : ∃ v, w.cell? ⟨B, 2, none⟩ = some v
  c3 : ∃ v, w.cell? ⟨B, 3, none⟩ = some v
  c4 : ∃ v, w.cell? ⟨B, 4, none⟩ = some v
  c5 : ∃ v, w.cell? ⟨B, 5, none⟩ = some v
  c6 : ∃ v, w.cell? ⟨B, 6, none⟩ = some v
  c7 : ∃ v, w.cell? ⟨B, 7, none⟩ = some v
  c8 : ∃ v, w.cell? ⟨B, 8, none⟩ = some v
  fz : ∀ i, w.frozen? ⟨B, i, none⟩ = false
  lt : B < w.heap.size
theorem Nine.keep {w w' : World} {B : Nat} (h : Nine w B) (hh : w'.heap[B]? = w.heap[B]?) (hs : B < w'.heap.size) : Nine w' B := by
  have e : ∀ i, w'.cell? ⟨B, i, none⟩ = w.cell? ⟨B, i, none⟩ := fun i => World.cell?_of_block (a := ⟨B, i, none⟩) hh
  have f : ∀ i, w'.frozen? ⟨B, i, none⟩ = w.frozen? ⟨B, i, none⟩ := fun i => World.frozen?_of_block (a := ⟨B, i, none⟩) hh
  exact ⟨by rw [e]; exact h.c0, by rw [e]; exact h.c1, by rw [e]; exact h.c2, by rw [e]; exact h.c3, by rw [e]; exact h.c4, by rw [e]; exact h.c5, by rw [e]; exact h.c6, by rw [e]; exact h.c7, by rw [e]; exact h.c8, fun i => by rw [f]; exact h.fz i, hs⟩

theorem instr_no (op : Int) (v : Value) (os : List ByteArray) (w : World) (hv : SlS w v os) (hl : os.length ≠ (plcL op).length) :
    Calls Tryz.prog 75 #[.int .i64 op, v] w fun e w' => (∃ s', e = .returned (.tuple #[stV s', .bool false])) ∧ Below w.heap.size w w' := by
  obtain ⟨a, cap, rfl, _⟩ := hv
  have C1 := places_any op
  have hp : ∃ pv pn, (∀ b, ∃ pa, rowV b (plcL op) = .slice pa pn pn) ∧ pn = (plcL op).length ∧ pv = pn := by
    refine ⟨_, (plcL op).length, fun b => ?_, rfl, rfl⟩
    unfold rowV
    split
    · rename_i h; rw [h]; exact ⟨none, rfl⟩
    · exact ⟨_, rfl⟩
  obtain ⟨_, pn, hrow, hpn, _⟩ := hp
  have hne : ((os.length : Int) == (pn : Int)) = false := by rw [beq_eq_false_iff_ne]; omega
  have hbw : ∀ W : World, Below W.heap.size W (rowW W (plcL op)) := fun W => by
    unfold rowW
    split
    · exact Below.refl _ _
    · exact (Below.refl _ _).alloc (Nat.le_refl _) _
  generalize plcL op = ps at *
  generalize os.length = L at *
  clear hl hpn
  go_enter Tryz.func75, Tryz.ntmps75
  go_wp2_with fail
  go_step3
  go_wp2_with fail
  refine (C1 _).mono ?_
  rintro e w1 ⟨rfl, hw1⟩
  obtain ⟨pa, hpa⟩ := hrow (w.alloc (Obj.cells #[Value.int .i64 0, .int .i64 0, .int .i64 0, .int .i64 0, .int .i64 0, .int .i64 0, .string ⟨#[]⟩, .int .u32 0, .int .i64 0] 95)).heap.size
  rw [hpa]
  have hb := hbw (w.alloc (Obj.cells #[Value.int .i64 0, .int .i64 0, .int .i64 0, .int .i64 0, .int .i64 0, .int .i64 0, .string ⟨#[]⟩, .int .u32 0, .int .i64 0] 95))
  rw [← hw1] at hb
  have HB : Hid (Below w.heap.size w w1) := ((Below.refl _ _).alloc (Nat.le_refl _) _).trans (hb.mono (by simp))
  obtain ⟨hcc1, hff1⟩ := bcell hb
  simp only [World.size_alloc] at hcc1 hff1
  clear hb hw1 hbw hpa hrow C1
  go_wp2_with fail
  rw [Exit.noGoto_ret]
  exact bodyPost_ret (v := .tuple #[stV ⟨0, 0, 0, 0, 0, 0, ⟨#[]⟩, 0, 0⟩, .bool false]) (by simp [results, Tryz.results75, go_sem, hcc1, stV, stC]) rfl
    ⟨⟨_, rfl⟩, below_set9 HB.out (Nat.le_refl _) _ _ _ _ _ _ _ _ _⟩

theorem grown_on {w w1 w2 : World} {r : Option Nat} (h : w.grownBy w1 r) (hb : Below w1.heap.size w1 w2) : w.grownBy w2 r :=
  ⟨hb.os.trans h.os, hb.tape.trans h.tape, hb.output.trans h.output, Nat.le_trans h.size hb.size, fun k hk hr => (hb.block k (Nat.lt_of_lt_of_le hk h.size)).trans (h.block k hk hr)⟩
theorem grown_set {w w1 : World} {B : Nat} (h : w.grownBy w1 (some B)) (i : Nat) (v : Value) : w.grownBy (w1.setCell ⟨B, i, none⟩ v) (some B) := by
  have hb : Below 0 w1 (w1.setCell ⟨B, i, none⟩ v) := (Below.refl _ _).setCell (Nat.zero_le _) _
  refine ⟨hb.os.trans h.os, hb.tape.trans h.tape, hb.output.trans h.output, Nat.le_trans h.size hb.size, fun k hk hr => ?_⟩
  rw [← h.block k hk hr]
  exact Below.heap_setCell w1 ⟨B, i, none⟩ v k (fun hk => hr (by rw [hk]))

theorem of_at (p : Int) (b o : Nat) (w : World) :
    Calls Tryz.prog 21 #[.int .i64 p, .pointer (some ⟨b, o, none⟩)] w fun e w' => e = .returned (.pointer (some ⟨b, o + fo p, none⟩)) ∧ w' = w := by
  by_cases h0 : p = 0
  · subst h0
    go_enter Tryz.func21, Tryz.ntmps21
    go_wp2
    go_ret
    exact ⟨rfl, rfl⟩
  by_cases h1 : p = 1
  · subst h1
    go_enter Tryz.func21, Tryz.ntmps21
    go_wp2
    go_ret
    exact ⟨rfl, rfl⟩
  by_cases h2 : p = 2
  · subst h2
    go_enter Tryz.func21, Tryz.ntmps21
    go_wp2
    go_ret
    exact ⟨rfl, rfl⟩
  have hf : fo p = 4 := by unfold fo; rw [if_neg h0, if_neg h1, if_neg h2]
  rw [hf]
  go_enter Tryz.func21, Tryz.ntmps21
  go_wp2
  go_ret
  exact ⟨rfl, rfl⟩

theorem StAt.set {w : World} {B : Nat} {s s' : St} (h : StAt w B s) (i : Nat) (v : Value) (hi : ∀ j, j ≠ i → (stC s')[j]? = (stC s)[j]?) (hv : (stC s')[i]? = some v) (h9 : i < 9) : StAt (w.setCell ⟨B, i, none⟩ v) B s' := by
  have hcs : ∀ j, j < 9 → w.cell? ⟨B, j, none⟩ = (stC s)[j]? := fun j hj => by
    match j, hj with
    | 0, _ => exact h.c0
    | 1, _ => exact h.c1
    | 2, _ => exact h.c2
    | 3, _ => exact h.c3
    | 4, _ => exact h.c4
    | 5, _ => exact h.c5
    | 6, _ => exact h.c6
    | 7, _ => exact h.c7
    | 8, _ => exact h.c8
  have key : ∀ j, j < 9 → (w.setCell ⟨B, i, none⟩ v).cell? ⟨B, j, none⟩ = (stC s')[j]? := fun j hj => by
    by_cases hji : j = i
    · subst hji
      rw [hv]
      have hlen : j < (stC s).length := hj
      exact World.cell?_setCell_same w ⟨B, j, none⟩ v ((hcs j hj).trans (List.getElem?_eq_getElem hlen))
    · rw [World.cell?_setCell_other _ _ _ _ (by simp), hcs j hj, hi j hji]
  have hfz : ∀ j, (w.setCell ⟨B, i, none⟩ v).frozen? ⟨B, j, none⟩ = false := fun j => by
    rw [World.frozen?_setCell]; exact h.fz j
  exact ⟨key 0 (by omega), key 1 (by omega), key 2 (by omega), key 3 (by omega), key 4 (by omega), key 5 (by omega), key 6 (by omega), key 7 (by omega), key 8 (by omega), hfz, Nat.lt_of_lt_of_le h.lt ((Below.refl _ w).setCell (p := ⟨B, i, none⟩) (Nat.zero_le _) v : Below 0 w _).size⟩
theorem StAt.put {w : World} {B : Nat} {s : St} (h : StAt w B s) (p v : Int) : StAt (w.setCell ⟨B, 1 + fo p, none⟩ (.int .i64 v)) B (putF s p v) := by
  unfold fo putF
  by_cases h0 : p = 0
  · rw [if_pos h0, if_pos h0]
    exact h.set _ _ (fun j hj => by match j, hj with | 0, _ => rfl | 1, _ => rfl | 3, _ => rfl | 4, _ => rfl | 5, _ => rfl | 6, _ => rfl | 7, _ => rfl | 8, _ => rfl | n + 9, _ => rfl) rfl (by decide)
  · rw [if_neg h0, if_neg h0]
    by_cases h1 : p = 1
    · rw [if_pos h1, if_pos h1]
      exact h.set _ _ (fun j hj => by match j, hj with | 0, _ => rfl | 1, _ => rfl | 2, _ => rfl | 4, _ => rfl | 5, _ => rfl | 6, _ => rfl | 7, _ => rfl | 8, _ => rfl | n + 9, _ => rfl) rfl (by decide)
    · rw [if_neg h1, if_neg h1]
      by_cases h2 : p = 2
      · rw [if_pos h2, if_pos h2]
        exact h.set _ _ (fun j hj => by match j, hj with | 0, _ => rfl | 1, _ => rfl | 2, _ => rfl | 3, _ => rfl | 5, _ => rfl | 6, _ => rfl | 7, _ => rfl | 8, _ => rfl | n + 9, _ => rfl) rfl (by decide)
      · rw [if_neg h2, if_neg h2]
        exact h.set _ _ (fun j hj => by match j, hj with | 0, _ => rfl | 1, _ => rfl | 2, _ => rfl | 3, _ => rfl | 4, _ => rfl | 6, _ => rfl | 7, _ => rfl | 8, _ => rfl | n + 9, _ => rfl) rfl (by decide)
theorem StAt.aim {w : World} {B : Nat} {s : St} (h : StAt w B s) (o : ByteArray) : StAt (w.setCell ⟨B, 6, none⟩ (.string o)) B { s with target := o } :=
  h.set _ _ (fun j hj => by match j, hj with | 0, _ => rfl | 1, _ => rfl | 2, _ => rfl | 3, _ => rfl | 4, _ => rfl | 5, _ => rfl | 7, _ => rfl | 8, _ => rfl | n + 9, _ => rfl) rfl (by decide)
end Go.Proofs.YtopankjjlapfbaaGreatDoor
