/-
  What the small functions of the tables do: their contracts.
-/
import Derived.Test.YteghkhdpdeiocaaGreatDoorTb
import Derived.Deep.RegionHeld2
namespace Go.Proofs.YteghkhdpdeiocaaGreatDoor
open Go.RowKit Go.Maps
set_option linter.unusedVariables false
set_option maxRecDepth 100000

theorem packN_fits (v r w x u s d : Bool) (f : Int) : 0 ≤ E.packN v r w x u s d f ∧ E.packN v r w x u s d f < 18446744073709551616 := by
  rw [E.pack_eq]
  unfold A.packN
  cases hm : A.mayP v r w x u s d f
  · simp
  · have := A.may_frame hm
    rw [if_pos rfl]
    exact num_fits this.1 this.2
theorem entryAt_any (f j : Nat) (hf : f < 65536) (hj : j < 32) (w : World) : Calls Tryz.prog 83 #[.int .i64 f, .int .i64 j] w fun e w' => e = .returned (.int .u64 ((f * 256 + 8 * j : Nat) : Int)) ∧ w' = w := by
  have w1 : IntKind.u64.wrap (f : Int) = f := by rw [IntKind.wrap_u64]; omega
  have w2 : IntKind.u64.wrap ((f : Int) * 256) = f * 256 := by rw [IntKind.wrap_u64]; omega
  have w3 : IntKind.u64.wrap (j : Int) = j := by rw [IntKind.wrap_u64]; omega
  have w4 : IntKind.u64.wrap ((j : Int) * 8) = j * 8 := by rw [IntKind.wrap_u64]; omega
  have w5 : IntKind.u64.wrap ((f : Int) * 256 + j * 8) = f * 256 + j * 8 := by rw [IntKind.wrap_u64]; omega
  go_enter Tryz.func83, Tryz.ntmps83
  go_wp2_with fail
  go_ret
  exact ⟨ret_int (by omega), rfl⟩
theorem mayBe_any (a b c : Bool) (w : World) : Calls Tryz.prog 51 #[.agg #[.bool a, .bool b, .bool c]] w fun e w' => e = .returned (.bool (mayR a b c)) ∧ Below w.heap.size w w' := by
  cases a <;> cases b <;> cases c
  all_goals
    go_enter Tryz.func51, Tryz.ntmps51
    go_wp2_with fail
    go_ret
    exact ⟨rfl, (Below.refl _ _).alloc (Nat.le_refl _) _⟩
theorem tableOf_any (f : Int) (w : World) : Calls Tryz.prog 86 #[.int .i64 f] w fun e w' => e = .returned (E.ent true false false false false false false f) ∧ Below w.heap.size w w' := by
  unfold E.ent
  go_enter Tryz.func86, Tryz.ntmps86
  go_wp2_with fail
  refine bodyPost_ret (v := _) ?h1 rfl ⟨rfl, ?_⟩
  case h1 => simp [results, Tryz.results86, go_sem]
  exact (Below.refl _ _).alloc (Nat.le_refl _) _
theorem pageOf_any (f : Int) (a b c : Bool) (w : World) : Calls Tryz.prog 58 #[.int .i64 f, .agg #[.bool a, .bool b, .bool c]] w fun e w' => e = .returned (E.ent true a b c true false false f) ∧ Below w.heap.size w w' := by
  unfold E.ent
  go_enter Tryz.func58, Tryz.ntmps58
  go_wp2_with fail
  refine bodyPost_ret (v := _) ?h1 rfl ⟨rfl, ?_⟩
  case h1 => simp [results, Tryz.results58, go_sem]
  exact ((Below.refl _ _).alloc (Nat.le_refl _) _).alloc (by simp) _
theorem rightsOf_any (v r w' x u s d : Bool) (f : Int) (w : World) : Calls Tryz.prog 37 #[E.ent v r w' x u s d f] w fun e w1 => e = .returned (.agg #[.bool r, .bool w', .bool x]) ∧ Below w.heap.size w w1 := by
  unfold E.ent
  go_enter Tryz.func37, Tryz.ntmps37
  go_wp2_with fail
  refine bodyPost_ret (v := _) ?h1 rfl ⟨rfl, ?_⟩
  case h1 => simp [results, Tryz.results37, go_sem]
  exact ((Below.refl _ _).alloc (Nat.le_refl _) _).alloc (by simp) _
section
variable {B : Nat → Prop} {w w' : World} {b g D T L gu : Nat} {z : Zs}
/-- what state tells -/
def stE (z : Zs) : Int := if z.x.rt < 0 then 21 else 0
theorem state_sx (h : SX B w b g D T L gu z) (hr : -1 ≤ z.x.rt) : Calls Tryz.prog 42 #[.pointer (some ⟨T, 0, none⟩)] w fun e w' => e = .returned (.int .i64 (stE z)) ∧ w' = w := by
  have c0 := h.tb.c0
  have c3 := h.tb.c3
  have hl := h.tb.lt
  unfold stE
  by_cases hx : z.x.rt < 0
  · rw [if_pos hx]
    have hx' : z.x.rt = -1 := by omega
    rw [hx'] at c3
    clear h
    go_enter Tryz.func42, Tryz.ntmps42
    go_wp2_with fail
    go_ret
    exact ⟨rfl, rfl⟩
  · rw [if_neg hx]
    have hx' : ¬ z.x.rt = -1 := by omega
    clear h
    generalize z.x.rt = y at *
    go_enter Tryz.func42, Tryz.ntmps42
    go_wp2_with fail
    go_ret
    exact ⟨rfl, rfl⟩
/-- what check tells -/
def chE (z : Zs) (p : Int) : Int := if z.x.rt < 0 then 21 else if ¬ (0 ≤ p ∧ p < 1024) then 2 else 0
theorem check_sx (h : SX B w b g D T L gu z) (hr : -1 ≤ z.x.rt) (p : Int) : Calls Tryz.prog 50 #[.pointer (some ⟨T, 0, none⟩), .int .i64 p] w fun e w' => e = .returned (.int .i64 (chE z p)) ∧ w' = w := by
  have C := state_sx h hr
  unfold chE
  unfold stE at C
  clear h
  by_cases hx : z.x.rt < 0
  · rw [if_pos hx] at C ⊢
    go_enter Tryz.func50, Tryz.ntmps50
    go_wp2_with fail
    refine C.mono ?_
    rintro e w1 ⟨rfl, rfl⟩
    go_wp2_with fail
    go_ret
    exact ⟨rfl, rfl⟩
  · rw [if_neg hx] at C ⊢
    by_cases h1 : p < 0
    · rw [if_pos (by omega)]
      go_enter Tryz.func50, Tryz.ntmps50
      go_wp2_with fail
      refine C.mono ?_
      rintro e w1 ⟨rfl, rfl⟩
      go_wp2_with fail
      go_ret
      exact ⟨rfl, rfl⟩
    · by_cases h2 : 1024 ≤ p
      · rw [if_pos (by omega)]
        go_enter Tryz.func50, Tryz.ntmps50
        go_wp2_with fail
        refine C.mono ?_
        rintro e w1 ⟨rfl, rfl⟩
        go_wp2_with fail
        go_ret
        exact ⟨rfl, rfl⟩
      · rw [if_neg (by omega)]
        go_enter Tryz.func50, Tryz.ntmps50
        go_wp2_with fail
        refine C.mono ?_
        rintro e w1 ⟨rfl, rfl⟩
        go_wp2_with fail
        go_ret
        exact ⟨rfl, rfl⟩
/-- an entry written -/
theorem write_sx (h : SX B w b g D T L gu z) (f j : Nat) (hf : f * 256 + 256 ≤ z.m.length) (hj : j < 32) (v r w' x u s d : Bool) (fr : Int) : Calls Tryz.prog 85 #[.pointer (some ⟨T, 0, none⟩), .int .i64 f, .int .i64 j, E.ent v r w' x u s d fr] w fun e w1 => e = .returned (.tuple #[]) ∧ SX B w1 b g D T L gu ⟨set8 z.m f j (E.packN v r w' x u s d fr), z.S, z.x⟩ ∧ Tn (fun k => k = g) B w w1 := by
  have hlen := h.mm.len
  obtain ⟨p0, p1⟩ := packN_fits v r w' x u s d fr
  have E0 := entryAt_any f j (by omega) hj
  obtain ⟨eS, eN⟩ := store_set8 z.m (f := f) (j := j) (E.packN v r w' x u s d fr) hf hj
  have PK := fun W hT => E.pack_any v r w' x u s d fr W hT
  have ST := fun (W : World) (hS : SX B W b g D T L gu z) => mstore_mm b g z.m ((f * 256 + 8 * j : Nat) : Int) 8 (E.packN v r w' x u s d fr) W hS.sz hS.mm (by omega) (by omega) (by omega) p0 p1
  simp only [eS, eN] at ST
  generalize E.packN v r w' x u s d fr = y at *
  generalize ((f * 256 + 8 * j : Nat) : Int) = at_ at *
  have HB : Hid (Below w.heap.size w (w.alloc (.cells #[.bool v, .bool r, .bool w', .bool x, .bool u, .bool s, .bool d, .int .i64 fr] 93))) := (Below.refl _ _).alloc (Nat.le_refl _) _
  have HS : Hid (SX B (w.alloc (.cells #[.bool v, .bool r, .bool w', .bool x, .bool u, .bool s, .bool d, .int .i64 fr] 93)) b g D T L gu z) := h.below HB.out
  clear h
  unfold E.ent at *
  go_enter Tryz.func85, Tryz.ntmps85
  go_wp2_with fail
  refine (PK _ HS.out.bt).mono ?_
  rintro e w1 ⟨rfl, hb⟩
  have H1 : Hid (SX B w1 b g D T L gu z ∧ Below w.heap.size w w1) := ⟨HS.out.below hb, HB.out.trans (hb.mono (by simp))⟩
  have hc := H1.out.1.tb.c0
  have hl := H1.out.1.tb.lt
  have C2 := ST _ H1.out.1.drew
  clear hb HS HB ST PK
  go_wp2_with fail
  go_region_held2 (fun w' => w'.cell? ⟨T, 0, none⟩ = some (.pointer (some ⟨b, 0, none⟩))) (first | exact hc | exact hc2)
    (first
      | (go_at_call 83; refine (E0 _).mono ?_; rintro q y1 ⟨rfl, rfl⟩)
      | (go_at_call 99; refine C2.mono ?_; rintro q y2 ⟨rfl, hm, hgr⟩; (have H2 : Hid (SX B y2 b g D T L gu ⟨_, z.S, z.x⟩ ∧ _) := ⟨H1.out.1.drew.mem hm hgr, hgr⟩); (have hc2 := H2.out.1.tb.c0)))
  go_wp2_with fail
  go_end0
  exact ⟨rfl, H2.out.1, (Tn.of_below H1.out.2).drew.trans (Tn.of_grown H2.out.2 rfl)⟩
end
end Go.Proofs.YteghkhdpdeiocaaGreatDoor
