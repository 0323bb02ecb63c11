/-
  What mayBe, Pack and the document's may, Allows and Pack tell: their contracts.
-/
import Derived.Test.YteghkhdpdeiocaaDoorEEnt
namespace Go.Proofs.YteghkhdpdeiocaaDoor.E
open Go.RowKit
set_option linter.unusedVariables false
set_option maxRecDepth 100000

/-- a world that has all blocks of another one as they were -/
structure Above (W : World) where
  wld : World
  bel : Below W.heap.size W wld

theorem above_here (W : World) : Nonempty (Above W) := ⟨⟨W, Below.refl _ _⟩⟩

theorem wp_region_above {P : Program} {id : Nat} {Q : Exit → Act → World → Prop} {a : Act} {w : World} {l : List Oper} (hm : P.follows .mixedOrders = true) (hB : Region.lexB .any l.toArray = true)
    (h : wpQuiet P l.toArray (fun w' => ∃ s : Above w, w' = s.wld) (fun a' => ∀ w', (∃ s : Above w, w' = s.wld) → Q .normal a' w') l a) : (Code.region id l.toArray true).wp P Q a w :=
  wp_region_quiet (C := fun w' => ∃ s : Above w, w' = s.wld) hm hB ⟨⟨_, (Below.refl _ _).drew⟩, rfl⟩ (by simpa using h)

theorem above_call {P : Program} {f : FuncId} {args : Array Value} {W : World} {v : Value} (s : Above W)
    (h : Calls P f args s.wld fun e w' => e = .returned v ∧ Below s.wld.heap.size s.wld w') : Calls P f args s.wld fun e w'' => e = .returned v ∧ ∃ s' : Above W, w'' = s'.wld :=
  h.mono fun _ w' ⟨he, hb⟩ => ⟨he, ⟨w', s.bel.trans (hb.mono s.bel.size)⟩, rfl⟩

theorem above_same {P : Program} {f : FuncId} {args : Array Value} {W : World} {v : Value} (s : Above W)
    (h : Calls P f args s.wld fun e w' => e = .returned v ∧ w' = s.wld) : Calls P f args s.wld fun e w'' => e = .returned v ∧ ∃ s' : Above W, w'' = s'.wld :=
  h.mono fun _ w' ⟨he, hb⟩ => ⟨he, s, hb⟩

theorem above_alloc {W : World} {o : Obj} (s : Above (W.alloc o)) (k : Nat) : s.wld.cell? ⟨W.heap.size, k, none⟩ = (W.alloc o).cell? ⟨W.heap.size, k, none⟩ :=
  s.bel.cell (p := ⟨W.heap.size, k, none⟩) (by simp)

theorem may_out (v r w x u s d : Bool) (f : Int) (h : ¬ (0 ≤ f ∧ f < 65536)) : mayP v r w x u s d f = false := by
  cases hm : mayP v r w x u s d f
  · rfl
  · exact absurd (may_frame hm) h

set_option maxHeartbeats 3200000 in
theorem mayBe_any (v r w x u s d : Bool) (f : Int) (W : World) :
    Calls Tryd.prog 94 #[ent v r w x u s d f] W fun e W' => e = .returned (.bool (mayP v r w x u s d f)) ∧ Below W.heap.size W W' := by
  have C1 := below_any f 65536
  by_cases hf : 0 ≤ f ∧ f < 65536
  · rw [decide_eq_true hf] at C1
    cases v
    · have e : mayP false r w x u s d f = (!r && !w && !x && !u && !s && !d && decide (f = 0)) := rfl
      rw [e]
      clear e
      unfold ent
      go_enter Tryd.func94, Tryd.ntmps94
      go_wp2_with fail
      refine (C1 _).mono ?_
      rintro e w1 ⟨rfl, rfl⟩
      clear C1
      go_wp2_with fail
      all_goals
        go_ret
        refine ⟨ret_bool ?_, (Below.refl _ _).alloc (Nat.le_refl _) _⟩
        simp_all
    · have e : mayP true r w x u s d f = ((!w || r) && (r || x || (!u && !s && !d))) := by simp [mayP, hf]
      rw [e]
      clear e
      cases w
      · have C2 := leaf_any true r false x u s d f
        have C3 := table_any f
        unfold ent at *
        cases r
        · cases x
          · have e1 : leafP true false false = false := by simp [leafP]
            rw [e1] at C2
            clear e1
            have hab := fun (o : Obj) (s : Above (W.alloc o)) k => above_alloc s k
            have hne := above_here (W.alloc (.cells #[.bool true, .bool false, .bool false, .bool false, .bool u, .bool s, .bool d, .int .i64 f] 78))
            cases u <;> cases s <;> cases d
            all_goals
              go_enter Tryd.func94, Tryd.ntmps94
              go_wp2_with fail
              refine (C1 _).mono ?_
              rintro e w1 ⟨rfl, rfl⟩
              clear C1
              go_wp2_with fail
              refine wp_region_above (by kernel_rfl) (by kernel_rfl) ?_
              repeat (first
                | go_big_quiet_skip
                | (go_big_quiet_want; go_big_quiet_op; go_big_quiet_on)
                | (go_big_quiet_want; go_big_quiet_op; apply Exists.intro; refine ⟨fun s => ?_, ?_⟩; (first | exact above_call s (C2 _) | exact above_call s (C3 _)); go_big_quiet_on))
              refine wpQuiet_nil ?_
              rintro _ ⟨s, rfl⟩
              go_wp2_with fail
              go_ret
              exact ⟨ret_bool (by simp), ((Below.refl _ _).alloc (Nat.le_refl _) _).trans (s.bel.mono (by simp))⟩
          · have e1 : leafP true false true = true := by simp [leafP]
            rw [e1] at C2
            clear e1
            have hab := fun (o : Obj) (s : Above (W.alloc o)) k => above_alloc s k
            have hne := above_here (W.alloc (.cells #[.bool true, .bool false, .bool false, .bool true, .bool u, .bool s, .bool d, .int .i64 f] 78))
            go_enter Tryd.func94, Tryd.ntmps94
            go_wp2_with fail
            refine (C1 _).mono ?_
            rintro e w1 ⟨rfl, rfl⟩
            clear C1
            go_wp2_with fail
            refine wp_region_above (by kernel_rfl) (by kernel_rfl) ?_
            repeat (first
              | go_big_quiet_skip
              | (go_big_quiet_want; go_big_quiet_op; go_big_quiet_on)
              | (go_big_quiet_want; go_big_quiet_op; apply Exists.intro; refine ⟨fun s => ?_, ?_⟩; (first | exact above_call s (C2 _) | exact above_call s (C3 _)); go_big_quiet_on))
            refine wpQuiet_nil ?_
            rintro _ ⟨s, rfl⟩
            go_wp2_with fail
            go_ret
            exact ⟨ret_bool (by simp), ((Below.refl _ _).alloc (Nat.le_refl _) _).trans (s.bel.mono (by simp))⟩
        · have e1 : leafP true true x = true := by simp [leafP]
          rw [e1] at C2
          clear e1
          have hab := fun (o : Obj) (s : Above (W.alloc o)) k => above_alloc s k
          have hne := above_here (W.alloc (.cells #[.bool true, .bool true, .bool false, .bool x, .bool u, .bool s, .bool d, .int .i64 f] 78))
          go_enter Tryd.func94, Tryd.ntmps94
          go_wp2_with fail
          refine (C1 _).mono ?_
          rintro e w1 ⟨rfl, rfl⟩
          clear C1
          go_wp2_with fail
          refine wp_region_above (by kernel_rfl) (by kernel_rfl) ?_
          repeat (first
            | go_big_quiet_skip
            | (go_big_quiet_want; go_big_quiet_op; go_big_quiet_on)
            | (go_big_quiet_want; go_big_quiet_op; apply Exists.intro; refine ⟨fun s => ?_, ?_⟩; (first | exact above_call s (C2 _) | exact above_call s (C3 _)); go_big_quiet_on))
          refine wpQuiet_nil ?_
          rintro _ ⟨s, rfl⟩
          go_wp2_with fail
          go_ret
          exact ⟨ret_bool (by simp), ((Below.refl _ _).alloc (Nat.le_refl _) _).trans (s.bel.mono (by simp))⟩
      · unfold ent
        go_enter Tryd.func94, Tryd.ntmps94
        go_wp2_with fail
        refine (C1 _).mono ?_
        rintro e w1 ⟨rfl, rfl⟩
        clear C1
        go_wp2_with fail
        go_ret
        exact ⟨ret_bool (by cases r <;> simp), (Below.refl _ _).alloc (Nat.le_refl _) _⟩
  · rw [may_out _ _ _ _ _ _ _ _ hf]
    rw [decide_eq_false hf] at C1
    unfold ent
    go_enter Tryd.func94, Tryd.ntmps94
    go_wp2_with fail
    refine (C1 _).mono ?_
    rintro e w1 ⟨rfl, rfl⟩
    clear C1
    go_wp2_with fail
    go_ret
    exact ⟨rfl, (Below.refl _ _).alloc (Nat.le_refl _) _⟩

end Go.Proofs.YteghkhdpdeiocaaDoor.E
