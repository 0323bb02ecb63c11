/-
  The program's calls: New, Now, Begin, Set, Stop, Halt, Go, End.
-/
import Derived.Test.YtgiafngiledmbaaMp
import Derived.Deep.RegionWith
namespace Go.Proofs.Ytgiafngiledmbaa
open Go.RowKit Go.Maps
set_option linter.unusedVariables false
set_option maxRecDepth 100000

theorem new_any (w : World) : Calls Try.prog 7 #[] w fun e w' => ∃ t ms mt, e = .returned (.pointer (some ⟨t, 0, none⟩)) ∧ VX w' t ms mt [] ∧ Below w.heap.size w w' ∧ w.heap.size ≤ t ∧ w.heap.size ≤ ms ∧ w.heap.size ≤ mt := by
  have hmm := @run_makeMap Try.prog
  have HF : Hid (VX (((w.alloc (.map #[] 0)).alloc (.map #[] 0)).alloc (.cells #[.map (some w.heap.size), .map (some (w.heap.size + 1))] 41)) (w.heap.size + 2) w.heap.size (w.heap.size + 1) [] ∧ Below w.heap.size w (((w.alloc (.map #[] 0)).alloc (.map #[] 0)).alloc (.cells #[.map (some w.heap.size), .map (some (w.heap.size + 1))] 41))) := by
    have b1 : Below w.heap.size w (w.alloc (.map #[] 0)) := below_box w _
    have m1 := MapIs.new w
    have m2 := MapIs.new (w.alloc (.map #[] 0))
    have s1 : (w.alloc (.map #[] 0)).heap.size = w.heap.size + 1 := by simp
    rw [s1] at m2
    refine ⟨⟨?_, (m1.keep ?_).congr rfl fun q => rfl, ⟨0, (m2.keep ?_).congr rfl fun q => rfl⟩, by omega, ⟨by simp, by simp, by simp⟩⟩, (b1.alloc (by simp) _).alloc (by simp; omega) _⟩
    · have := heap_alloc_at ((w.alloc (.map #[] 0)).alloc (.map #[] 0)) (.cells #[.map (some w.heap.size), .map (some (w.heap.size + 1))] 41)
      simpa using this
    · exact (heap_alloc_past _ _ (by simp; omega)).trans (heap_alloc_past _ _ (by simp))
    · exact heap_alloc_past _ _ (by simp)
  go_enter Try.func7, Try.ntmps7
  go_wp2_with fail
  go_ret
  exact ⟨_, _, _, rfl, HF.out.1, HF.out.2, by omega, by omega, by omega⟩

/-- its time, or 0 -/
def nowR (L : List Tm) (k c : Int) : Int := match fnd L k with
  | none => 0
  | some x => tm x c
section
variable {w : World} {t ms mt : Nat} {L : List Tm} {k c : Int}
theorem now_vx (h : VX w t ms mt L) (hk : KW k) (hc : 0 ≤ c) : Calls Try.prog 10 #[.pointer (some ⟨t, 0, none⟩), .int .i64 k, .int .u64 c] w fun e w' => e = .returned (.tuple #[.int .u64 (nowR L k c), .bool (fnd L k).isSome]) ∧ Below w.heap.size w w' := by
  have C := of_vx h k hk
  unfold nowR
  cases hx : fnd L k with
  | none =>
    have e1 : ofV L k = .agg #[.int .u64 0, .bool false, .int .u64 0] := by unfold ofV SM; rw [hx]; rfl
    have e2 : ofE L k = 14 := by unfold ofE; rw [hx]; rfl
    rw [e1, e2] at C
    clear h e1 e2
    go_enter Try.func10, Try.ntmps10
    go_wp2_with fail
    refine C.mono ?_
    rintro e w1 ⟨rfl, hb⟩
    have HB : Hid (Below w.heap.size w (w1.alloc (.cells #[.int .u64 0, .bool false, .int .u64 0] 57))) := hb.alloc hb.size _
    clear C hb
    go_wp2_with fail
    go_ret2
    exact ⟨rfl, HB.out⟩
  | some x =>
    have ho := h.ok.ok x (fnd_mem hx).1
    have e1 : ofV L k = sp (if x.halted then 0 else x.base) x.halted (if x.halted then x.still else 0) := by unfold ofV SM; rw [hx]; rfl
    have e2 : ofE L k = 0 := by unfold ofE; rw [hx]; rfl
    have K := fun w' => now_any (if x.halted then 0 else x.base) x.halted (if x.halted then x.still else 0) c (by have := ho.b0; split <;> omega) (by have := ho.b1; split <;> omega) hc w'
    rw [nowV_tm] at K
    rw [e1, e2] at C
    simp only [Option.isSome_some]
    generalize (if x.halted = true then 0 else x.base) = b at *
    generalize (if x.halted = true then x.still else 0) = s at *
    generalize x.halted = hh at *
    generalize tm x c = r at *
    clear e1 e2 h ho hx
    unfold sp at *
    go_enter Try.func10, Try.ntmps10
    go_wp2_with fail
    refine C.mono ?_
    rintro e w1 ⟨rfl, hb⟩
    have HB : Hid (Below w.heap.size w (w1.alloc (.cells #[.int .u64 b, .bool hh, .int .u64 s] 57))) := hb.alloc hb.size _
    clear C hb
    go_wp2_with fail
    refine (K _).mono ?_
    rintro e w2 ⟨rfl, hb2⟩
    have HB2 := HB.out.trans (hb2.mono HB.out.size)
    have HB3 : Hid (Below w.heap.size w w2) := HB2
    clear HB2 hb2 K
    go_wp2_with fail
    go_ret2
    exact ⟨rfl, HB3.out⟩
theorem mod_none {L : List Tm} {k : Int} (h : fnd L k = none) (f : Tm → Tm) : mod L k f = L := by
  unfold mod
  refine (List.map_congr_left fun x hx => ?_).trans (List.map_id L)
  rw [if_neg (fnd_none h x hx)]
  rfl
theorem del_none {L : List Tm} {k : Int} (h : fnd L k = none) : del L k = L := by
  unfold del
  exact List.filter_eq_self.2 fun x hx => by simpa using fnd_none h x hx
theorem set_vx (h : VX w t ms mt L) (hk : KW k) (hc : 0 ≤ c) : Calls Try.prog 15 #[.pointer (some ⟨t, 0, none⟩), .int .i64 k, .int .u64 c] w fun e w' => e = .returned (.int .i64 (if (fnd L k).isSome then 0 else 14)) ∧ VX w' t ms mt (mod L k (stD c true)) ∧ Trn (Sm ms mt) w w' := by
  have C := of_vx h k hk
  cases hx : fnd L k with
  | none =>
    rw [mod_none hx]
    simp only [Option.isSome_none, Bool.false_eq_true, if_false]
    have e1 : ofV L k = .agg #[.int .u64 0, .bool false, .int .u64 0] := by unfold ofV SM; rw [hx]; rfl
    have e2 : ofE L k = 14 := by unfold ofE; rw [hx]; rfl
    rw [e1, e2] at C
    have HV : Hid (VX w t ms mt L) := h
    clear h e1 e2
    go_enter Try.func15, Try.ntmps15
    go_wp2_with fail
    refine C.mono ?_
    rintro e w1 ⟨rfl, hb⟩
    have HB : Hid (Below w.heap.size w (w1.alloc (.cells #[.int .u64 0, .bool false, .int .u64 0] 57))) := hb.alloc hb.size _
    clear C hb
    go_wp2_with fail
    go_ret
    exact ⟨rfl, HV.out.below HB.out, Trn.of_below HB.out⟩
  | some x =>
    have ho := h.ok.ok x (fnd_mem hx).1
    have e1 : ofV L k = sp (if x.halted then 0 else x.base) x.halted (if x.halted then x.still else 0) := by unfold ofV SM; rw [hx]; rfl
    have e2 : ofE L k = 0 := by unfold ofE; rw [hx]; rfl
    rw [e1, e2] at C
    simp only [Option.isSome_some, if_true]
    generalize (if x.halted = true then 0 else x.base) = b at *
    generalize (if x.halted = true then x.still else 0) = s at *
    generalize x.halted = hh at *
    clear e1 e2
    unfold sp at *
    go_enter Try.func15, Try.ntmps15
    go_wp2_with fail
    refine C.mono ?_
    rintro e w1 ⟨rfl, hb⟩
    have HB : Hid (Below w.heap.size w (w1.alloc (.cells #[.int .u64 b, .bool hh, .int .u64 s] 57))) := hb.alloc hb.size _
    have HW : Hid (VX (w1.alloc (.cells #[.int .u64 b, .bool hh, .int .u64 s] 57)) t ms mt L) := h.below HB.out
    have c0 := HW.out.c0
    have c1 := HW.out.c1
    have hl := HW.out.lt
    clear C hb
    obtain ⟨w2, hrun, hV, hT⟩ := HW.out.putt hk hx c hc
    have HF : Hid (VX w2 t ms mt (mod L k (stD c true)) ∧ Trn (Sm ms mt) w w2) := ⟨hV, (Trn.of_below HB.out).trans hT⟩
    unfold cap at hrun
    clear hV hT HW HB h
    go_wp2_with fail
    go_ret
    exact ⟨rfl, HF.out⟩
theorem stop_vx (h : VX w t ms mt L) (hk : KW k) : Calls Try.prog 16 #[.pointer (some ⟨t, 0, none⟩), .int .i64 k] w fun e w' => e = .returned (.int .i64 (if (fnd L k).isSome then 0 else 14)) ∧ VX w' t ms mt (mod L k (stD 0 false)) ∧ Trn (Sm ms mt) w w' := by
  have C := of_vx h k hk
  cases hx : fnd L k with
  | none =>
    rw [mod_none hx]
    simp only [Option.isSome_none, Bool.false_eq_true, if_false]
    have e1 : ofV L k = .agg #[.int .u64 0, .bool false, .int .u64 0] := by unfold ofV SM; rw [hx]; rfl
    have e2 : ofE L k = 14 := by unfold ofE; rw [hx]; rfl
    rw [e1, e2] at C
    have HV : Hid (VX w t ms mt L) := h
    clear h e1 e2
    go_enter Try.func16, Try.ntmps16
    go_wp2_with fail
    refine C.mono ?_
    rintro e w1 ⟨rfl, hb⟩
    have HB : Hid (Below w.heap.size w (w1.alloc (.cells #[.int .u64 0, .bool false, .int .u64 0] 57))) := hb.alloc hb.size _
    clear C hb
    go_wp2_with fail
    go_ret
    exact ⟨rfl, HV.out.below HB.out, Trn.of_below HB.out⟩
  | some x =>
    have ho := h.ok.ok x (fnd_mem hx).1
    have e1 : ofV L k = sp (if x.halted then 0 else x.base) x.halted (if x.halted then x.still else 0) := by unfold ofV SM; rw [hx]; rfl
    have e2 : ofE L k = 0 := by unfold ofE; rw [hx]; rfl
    rw [e1, e2] at C
    simp only [Option.isSome_some, if_true]
    generalize (if x.halted = true then 0 else x.base) = b at *
    generalize (if x.halted = true then x.still else 0) = s at *
    generalize x.halted = hh at *
    clear e1 e2
    unfold sp at *
    go_enter Try.func16, Try.ntmps16
    go_wp2_with fail
    refine C.mono ?_
    rintro e w1 ⟨rfl, hb⟩
    have HB : Hid (Below w.heap.size w (w1.alloc (.cells #[.int .u64 b, .bool hh, .int .u64 s] 57))) := hb.alloc hb.size _
    have HW : Hid (VX (w1.alloc (.cells #[.int .u64 b, .bool hh, .int .u64 s] 57)) t ms mt L) := h.below HB.out
    have c0 := HW.out.c0
    have c1 := HW.out.c1
    have hl := HW.out.lt
    clear C hb
    have HD := fun ty => HW.out.cutt hk hx ty
    obtain ⟨w2, hrun, hV, hT⟩ := HD 0
    have HF : Hid (VX w2 t ms mt (mod L k (stD 0 false)) ∧ Trn (Sm ms mt) w w2) := ⟨hV, (Trn.of_below HB.out).trans hT⟩
    clear hV hT HW HB h HD
    go_wp2_with fail
    go_ret
    exact ⟨rfl, HF.out⟩
theorem end_vx (h : VX w t ms mt L) (hk : KW k) : Calls Try.prog 20 #[.pointer (some ⟨t, 0, none⟩), .int .i64 k] w fun e w' => e = .returned (.int .i64 (if (fnd L k).isSome then 0 else 14)) ∧ VX w' t ms mt (del L k) ∧ Trn (Sm ms mt) w w' := by
  have C := of_vx h k hk
  cases hx : fnd L k with
  | none =>
    rw [del_none hx]
    simp only [Option.isSome_none, Bool.false_eq_true, if_false]
    have e1 : ofV L k = .agg #[.int .u64 0, .bool false, .int .u64 0] := by unfold ofV SM; rw [hx]; rfl
    have e2 : ofE L k = 14 := by unfold ofE; rw [hx]; rfl
    rw [e1, e2] at C
    have HV : Hid (VX w t ms mt L) := h
    clear h e1 e2
    go_enter Try.func20, Try.ntmps20
    go_wp2_with fail
    refine C.mono ?_
    rintro e w1 ⟨rfl, hb⟩
    have HB : Hid (Below w.heap.size w (w1.alloc (.cells #[.int .u64 0, .bool false, .int .u64 0] 57))) := hb.alloc hb.size _
    clear C hb
    go_wp2_with fail
    go_ret
    exact ⟨rfl, HV.out.below HB.out, Trn.of_below HB.out⟩
  | some x =>
    have ho := h.ok.ok x (fnd_mem hx).1
    have e1 : ofV L k = sp (if x.halted then 0 else x.base) x.halted (if x.halted then x.still else 0) := by unfold ofV SM; rw [hx]; rfl
    have e2 : ofE L k = 0 := by unfold ofE; rw [hx]; rfl
    rw [e1, e2] at C
    simp only [Option.isSome_some, if_true]
    generalize (if x.halted = true then 0 else x.base) = b at *
    generalize (if x.halted = true then x.still else 0) = s at *
    generalize x.halted = hh at *
    clear e1 e2
    unfold sp at *
    go_enter Try.func20, Try.ntmps20
    go_wp2_with fail
    refine C.mono ?_
    rintro e w1 ⟨rfl, hb⟩
    have HB : Hid (Below w.heap.size w (w1.alloc (.cells #[.int .u64 b, .bool hh, .int .u64 s] 57))) := hb.alloc hb.size _
    have HW : Hid (VX (w1.alloc (.cells #[.int .u64 b, .bool hh, .int .u64 s] 57)) t ms mt L) := h.below HB.out
    have c0 := HW.out.c0
    have c1 := HW.out.c1
    have hl := HW.out.lt
    clear C hb
    obtain ⟨w2, w3, hrun, hob, hrun2, hV, hT⟩ := HW.out.cut hk hx 0
    have d1 : w2.cell? ⟨t, 1, none⟩ = some (.map (some mt)) := by rw [cell_at hob]; rfl
    have dl := lt_of_heap hob
    have HF : Hid (VX w3 t ms mt (del L k) ∧ Trn (Sm ms mt) w w3) := ⟨hV, (Trn.of_below HB.out).trans hT⟩
    clear hV hT HW HB h
    go_wp2_with fail
    go_ret
    exact ⟨rfl, HF.out⟩
end
end Go.Proofs.Ytgiafngiledmbaa
