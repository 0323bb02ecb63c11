/-
  The frames and the document's frames in one world, with a call; what does does.
-/
import Derived.Test.YtcnoonhcofnghaaRn
import Derived.Test.YtcnoonhcofnghaaOpens
import Derived.Deep.RegionHeld2
namespace Go.Proofs.Ytcnoonhcofnghaa
open Go.RowKit
set_option linter.unusedVariables false
set_option maxRecDepth 20000

theorem of_or {o : Obj} (h : Of o) : ¬ Or o := by
  cases o with
  | cells cs t f =>
    intro h2
    rcases h with rfl | rfl <;> rcases h2 with h2 | h2 <;> cases h2
  | _ => exact id
theorem or_of {o : Obj} (h : Or o) : ¬ Of o := fun h2 => of_or h2 h
/-- both: the program's stand as S, the document's as S' -/
structure PX (N : Nat) (w wr : World) (D R r : Nat) (S S' : Fs) : Prop where
  fx : FX N wr D S
  rf : RF N wr R r S'
  bel : Below N w wr
  nn : N ≤ w.heap.size
section
variable {N : Nat} {w wr w' : World} {D R r : Nat} {S S' T : Fs}
theorem PX.below (h : PX N w wr D R r S S') (hb : Below wr.heap.size wr w') : PX N w w' D R r S S' := ⟨h.fx.below hb, h.rf.below hb, h.bel.trans (hb.mono (by have := h.bel.size; have := h.nn; omega)), h.nn⟩
theorem PX.toF (h : PX N w wr D R r S S') (hf : FX N w' D T) (ht : Tu Of N wr w') : PX N w w' D R r T S' :=
  ⟨hf, h.rf.keep fun k o ho hr => ht.keep k o ho (.inr (or_of hr)), h.bel.trans (ht.below (by have := h.bel.size; have := h.nn; omega)), h.nn⟩
theorem PX.toR (h : PX N w wr D R r S S') (hf : RF N w' R r T) (ht : Tu Or N wr w') : PX N w w' D R r S T :=
  ⟨h.fx.keep fun k o ho hr => ht.keep k o ho (.inr (of_or hr)), hf, h.bel.trans (ht.below (by have := h.bel.size; have := h.nn; omega)), h.nn⟩
end
/-- with a call in the block A -/
structure PA (N : Nat) (w wr : World) (D R r A : Nat) (x : Ac) (S S' : Fs) : Prop where
  px : PX N w wr D R r S S'
  a : wr.heap[A]? = some (.cells #[.int .i64 x.kd, .int .i64 x.fr, .int .i64 x.ow, .int .i64 x.to] 33 (0, 0))
section
variable {N : Nat} {w wr w' : World} {D R r A : Nat} {x : Ac} {S S' T : Fs}
theorem not_of33 {cs : Array Value} : ¬ Of (.cells cs 33 (0, 0)) := by intro h; rcases h with h | h <;> cases h
theorem not_or33 {cs : Array Value} : ¬ Or (.cells cs 33 (0, 0)) := by intro h; rcases h with h | h <;> cases h
theorem PA.toF (h : PA N w wr D R r A x S S') (hf : FX N w' D T) (ht : Tu Of N wr w') : PA N w w' D R r A x T S' := ⟨h.px.toF hf ht, ht.keep _ _ h.a (.inr not_of33)⟩
theorem PA.toR (h : PA N w wr D R r A x S S') (hf : RF N w' R r T) (ht : Tu Or N wr w') : PA N w w' D R r A x S T := ⟨h.px.toR hf ht, ht.keep _ _ h.a (.inr not_or33)⟩
theorem PA.drew (h : PA N w wr D R r A x S S') : PA N w wr.drew D R r A x S S' := ⟨h.px.below (Below.refl _ _).drew, h.a⟩
theorem PA.cs (h : PA N w wr D R r A x S S') : wr.cell? ⟨A, 1, none⟩ = some (.int .i64 x.fr) ∧ wr.cell? ⟨A, 2, none⟩ = some (.int .i64 x.ow) ∧ wr.cell? ⟨A, 3, none⟩ = some (.int .i64 x.to) := by
  refine ⟨?_, ?_, ?_⟩ <;> simp [World.cell?, h.a]
theorem PA.sz (h : PA N w wr D R r A x S S') : N ≤ wr.heap.size := by have := h.px.bel.size; have := h.px.nn; omega
theorem PA.al (h : PA N w wr D R r A x S S') (o : Int) : Calls Try.prog 16 #[.pointer (some ⟨D, 0, none⟩), .int .i64 o] wr fun e w' => e = .returned (.tuple #[.int .i64 (alR S o), .int .i64 (alE S o)]) ∧ PA N w w' D R r A x (alS S o) S' :=
  (alloc_fx h.px.fx h.sz o).mono fun e w' ⟨he, hf, ht⟩ => ⟨he, h.toF hf ht⟩
theorem PA.ral (h : PA N w wr D R r A x S S') (o : Int) : Calls Try.prog 22 #[.pointer (some ⟨R, 0, none⟩), .int .i64 o] wr fun e w' => e = .returned (.tuple #[.int .i64 (alR S' o), .int .i64 (alE S' o)]) ∧ PA N w w' D R r A x S (alS S' o) :=
  (ralloc h.px.rf o).mono fun e w' ⟨he, hf, ht⟩ => ⟨he, h.toR hf ht⟩
theorem PA.ho (h : PA N w wr D R r A x S S') (f o : Int) : Calls Try.prog 18 #[.pointer (some ⟨D, 0, none⟩), .int .i64 f, .int .i64 o] wr fun e w' => e = .returned (.int .i64 (hoE S f o)) ∧ PA N w w' D R r A x (hoS S f o) S' :=
  (hold_fx h.px.fx f o).mono fun e w' ⟨he, hf, ht⟩ => ⟨he, h.toF hf ht⟩
theorem PA.rho (h : PA N w wr D R r A x S S') (f o : Int) : Calls Try.prog 23 #[.pointer (some ⟨R, 0, none⟩), .int .i64 f, .int .i64 o] wr fun e w' => e = .returned (.int .i64 (hoE S' f o)) ∧ PA N w w' D R r A x S (hoS S' f o) :=
  (rhold h.px.rf f o).mono fun e w' ⟨he, hf, ht⟩ => ⟨he, h.toR hf ht⟩
theorem PA.fr (h : PA N w wr D R r A x S S') (f o : Int) : Calls Try.prog 17 #[.pointer (some ⟨D, 0, none⟩), .int .i64 f, .int .i64 o] wr fun e w' => e = .returned (.tuple #[.bool (frB S f o), .int .i64 (errL S f o o)]) ∧ PA N w w' D R r A x (frS S f o) S' :=
  (free_fx h.px.fx f o).mono fun e w' ⟨he, hf, ht⟩ => ⟨he, h.toF hf ht⟩
theorem PA.rfr (h : PA N w wr D R r A x S S') (f o : Int) : Calls Try.prog 24 #[.pointer (some ⟨R, 0, none⟩), .int .i64 f, .int .i64 o] wr fun e w' => e = .returned (.tuple #[.bool (frB S' f o), .int .i64 (errL S' f o o)]) ∧ PA N w w' D R r A x S (frS S' f o) :=
  (rfree h.px.rf f o).mono fun e w' ⟨he, hf, ht⟩ => ⟨he, h.toR hf ht⟩
theorem PA.mo (h : PA N w wr D R r A x S S') (f o b : Int) : Calls Try.prog 19 #[.pointer (some ⟨D, 0, none⟩), .int .i64 f, .int .i64 o, .int .i64 b] wr fun e w' => e = .returned (.int .i64 (moE S f o b)) ∧ PA N w w' D R r A x (moS S f o b) S' :=
  (move_fx h.px.fx h.sz f o b).mono fun e w' ⟨he, hf, ht⟩ => ⟨he, h.toF hf ht⟩
theorem PA.rmo (h : PA N w wr D R r A x S S') (f o b : Int) : Calls Try.prog 25 #[.pointer (some ⟨R, 0, none⟩), .int .i64 f, .int .i64 o, .int .i64 b] wr fun e w' => e = .returned (.int .i64 (moE S' f o b)) ∧ PA N w w' D R r A x S (moS S' f o b) :=
  (rmove h.px.rf f o b).mono fun e w' ⟨he, hf, ht⟩ => ⟨he, h.toR hf ht⟩
theorem PA.qu (h : PA N w wr D R r A x S S') (o q : Int) (hq : q ≤ 9223372036854775807) : Calls Try.prog 20 #[.pointer (some ⟨D, 0, none⟩), .int .i64 o, .int .i64 q] wr fun e w' => e = .returned (.int .i64 (quE o q)) ∧ PA N w w' D R r A x (quS S o q) S' :=
  (quota_fx h.px.fx o q hq).mono fun e w' ⟨he, hf, ht⟩ => ⟨he, h.toF hf ht⟩
theorem PA.rqu (h : PA N w wr D R r A x S S') (o q : Int) (hq : q ≤ 9223372036854775807) : Calls Try.prog 26 #[.pointer (some ⟨R, 0, none⟩), .int .i64 o, .int .i64 q] wr fun e w' => e = .returned (.int .i64 (quE o q)) ∧ PA N w w' D R r A x S (quS S' o q) :=
  (rquota h.px.rf o q hq).mono fun e w' ⟨he, hf, ht⟩ => ⟨he, h.toR hf ht⟩
theorem PX.act (h : PX N w wr D R r S S') (x : Ac) : PA N w (wr.alloc (.cells #[.int .i64 x.kd, .int .i64 x.fr, .int .i64 x.ow, .int .i64 x.to] 33)) D R r wr.heap.size x S S' :=
  ⟨h.below ((Below.refl _ _).alloc (Nat.le_refl _) _), heap_alloc_at _ _⟩
set_option maxHeartbeats 1600000 in
theorem does_any (h : PX N w wr D R r S S) (x : Ac) (hx : x.to ≤ 9223372036854775807) : Calls Try.prog 10 #[.pointer (some ⟨D, 0, none⟩), .pointer (some ⟨R, 0, none⟩), .agg #[.int .i64 x.kd, .int .i64 x.fr, .int .i64 x.ow, .int .i64 x.to]] wr fun e w' => e = .returned (.bool true) ∧ ∃ T, PX N w w' D R r T T := by
  have HA : Hid (PA N w (wr.alloc (.cells #[.int .i64 x.kd, .int .i64 x.fr, .int .i64 x.ow, .int .i64 x.to] 33)) D R r wr.heap.size x S S) := h.act x
  clear h
  by_cases d0 : x.kd = 0
  · rw [d0] at HA ⊢
    go_enter Try.func10, Try.ntmps10
    go_wp2_with fail
    refine (HA.out.al x.ow).mono ?_
    rintro e w2 ⟨rfl, h2⟩
    have H2 : Hid (_) := h2
    obtain ⟨e1, e2, e3⟩ := h2.cs
    have eL := lt_of_heap h2.a
    clear h2
    generalize hz1 : alR S x.ow = z1 at *
    generalize hz2 : alE S x.ow = z2 at *
    go_wp2_with fail
    have C2 := H2.out.ral x.ow
    rw [hz1, hz2] at C2
    refine C2.mono ?_
    rintro e w3 ⟨rfl, h3⟩
    have H3 : Hid (∃ T, PX N w w3 D R r T T) := ⟨_, h3.px⟩
    clear h3 C2
    go_wp2_with fail
    go_ret
    exact ⟨rfl, H3.out⟩
  · by_cases d2 : x.kd = 2
    · rw [d2] at HA ⊢
      go_enter Try.func10, Try.ntmps10
      go_wp2_with fail
      refine (HA.out.fr x.fr x.ow).mono ?_
      rintro e w2 ⟨rfl, h2⟩
      have H2 : Hid (_) := h2
      obtain ⟨e1, e2, e3⟩ := h2.cs
      have eL := lt_of_heap h2.a
      clear h2
      generalize hz1 : frB S x.fr x.ow = z1 at *
      generalize hz2 : errL S x.fr x.ow x.ow = z2 at *
      go_wp2_with fail
      have C2 := H2.out.rfr x.fr x.ow
      rw [hz1, hz2] at C2
      refine C2.mono ?_
      rintro e w3 ⟨rfl, h3⟩
      have H3 : Hid (∃ T, PX N w w3 D R r T T) := ⟨_, h3.px⟩
      clear h3 C2
      go_wp2_with fail
      go_ret
      exact ⟨rfl, H3.out⟩
    · by_cases d1 : x.kd = 1
      · rw [d1] at HA ⊢
        generalize hz : hoE S x.fr x.ow = z at *
        have C1 := HA.out.drew.ho x.fr x.ow
        rw [hz] at C1
        have e1 : (wr.alloc (.cells #[.int .i64 1, .int .i64 x.fr, .int .i64 x.ow, .int .i64 x.to] 33)).drew.cell? ⟨wr.heap.size, 1, none⟩ = some (.int .i64 x.fr) ∧ (wr.alloc (.cells #[.int .i64 1, .int .i64 x.fr, .int .i64 x.ow, .int .i64 x.to] 33)).drew.cell? ⟨wr.heap.size, 2, none⟩ = some (.int .i64 x.ow) := by
          obtain ⟨q1, q2, q3⟩ := HA.out.drew.cs
          exact ⟨q1, q2⟩
        have eL := lt_of_heap HA.out.a
        go_enter Try.func10, Try.ntmps10
        go_wp2_with fail
        go_region_held2 (fun w' => w'.cell? ⟨wr.heap.size, 1, none⟩ = some (.int .i64 x.fr) ∧ w'.cell? ⟨wr.heap.size, 2, none⟩ = some (.int .i64 x.ow)) (first | exact e1 | exact e2 | exact e3)
          (first
            | (go_at_call 18; refine C1.mono ?_; rintro q y1 ⟨rfl, hY1⟩; obtain ⟨q1, q2, q3⟩ := hY1.cs; (have e2 : y1.cell? ⟨wr.heap.size, 1, none⟩ = some (.int .i64 x.fr) ∧ y1.cell? ⟨wr.heap.size, 2, none⟩ = some (.int .i64 x.ow) := ⟨q1, q2⟩); (have C2 := hY1.rho x.fr x.ow); rw [hz] at C2)
            | (go_at_call 23; refine C2.mono ?_; rintro q y2 ⟨rfl, hY2⟩; obtain ⟨r1, r2, r3⟩ := hY2.cs; (have e3 : y2.cell? ⟨wr.heap.size, 1, none⟩ = some (.int .i64 x.fr) ∧ y2.cell? ⟨wr.heap.size, 2, none⟩ = some (.int .i64 x.ow) := ⟨r1, r2⟩)))
        go_wp2_with fail
        go_ret
        exact ⟨rfl, ⟨_, hY2.px⟩⟩
      · by_cases d3 : x.kd = 3
        · rw [d3] at HA ⊢
          generalize hz : moE S x.fr x.ow x.to = z at *
          have C1 := HA.out.drew.mo x.fr x.ow x.to
          rw [hz] at C1
          have e1 : (wr.alloc (.cells #[.int .i64 3, .int .i64 x.fr, .int .i64 x.ow, .int .i64 x.to] 33)).drew.cell? ⟨wr.heap.size, 1, none⟩ = some (.int .i64 x.fr) ∧ (wr.alloc (.cells #[.int .i64 3, .int .i64 x.fr, .int .i64 x.ow, .int .i64 x.to] 33)).drew.cell? ⟨wr.heap.size, 2, none⟩ = some (.int .i64 x.ow) ∧ (wr.alloc (.cells #[.int .i64 3, .int .i64 x.fr, .int .i64 x.ow, .int .i64 x.to] 33)).drew.cell? ⟨wr.heap.size, 3, none⟩ = some (.int .i64 x.to) := by
            obtain ⟨q1, q2, q3⟩ := HA.out.drew.cs
            exact ⟨q1, q2, q3⟩
          have eL := lt_of_heap HA.out.a
          go_enter Try.func10, Try.ntmps10
          go_wp2_with fail
          go_region_held2 (fun w' => w'.cell? ⟨wr.heap.size, 1, none⟩ = some (.int .i64 x.fr) ∧ w'.cell? ⟨wr.heap.size, 2, none⟩ = some (.int .i64 x.ow) ∧ w'.cell? ⟨wr.heap.size, 3, none⟩ = some (.int .i64 x.to)) (first | exact e1 | exact e2 | exact e3)
            (first
              | (go_at_call 19; refine C1.mono ?_; rintro q y1 ⟨rfl, hY1⟩; obtain ⟨q1, q2, q3⟩ := hY1.cs; (have e2 : y1.cell? ⟨wr.heap.size, 1, none⟩ = some (.int .i64 x.fr) ∧ y1.cell? ⟨wr.heap.size, 2, none⟩ = some (.int .i64 x.ow) ∧ y1.cell? ⟨wr.heap.size, 3, none⟩ = some (.int .i64 x.to) := ⟨q1, q2, q3⟩); (have C2 := hY1.rmo x.fr x.ow x.to); rw [hz] at C2)
              | (go_at_call 25; refine C2.mono ?_; rintro q y2 ⟨rfl, hY2⟩; obtain ⟨r1, r2, r3⟩ := hY2.cs; (have e3 : y2.cell? ⟨wr.heap.size, 1, none⟩ = some (.int .i64 x.fr) ∧ y2.cell? ⟨wr.heap.size, 2, none⟩ = some (.int .i64 x.ow) ∧ y2.cell? ⟨wr.heap.size, 3, none⟩ = some (.int .i64 x.to) := ⟨r1, r2, r3⟩)))
          go_wp2_with fail
          go_ret
          exact ⟨rfl, ⟨_, hY2.px⟩⟩
        · by_cases d4 : x.kd = 4
          · rw [d4] at HA ⊢
            generalize hz : quE x.ow x.to = z at *
            have C1 := HA.out.drew.qu x.ow x.to hx
            rw [hz] at C1
            have e1 : (wr.alloc (.cells #[.int .i64 4, .int .i64 x.fr, .int .i64 x.ow, .int .i64 x.to] 33)).drew.cell? ⟨wr.heap.size, 2, none⟩ = some (.int .i64 x.ow) ∧ (wr.alloc (.cells #[.int .i64 4, .int .i64 x.fr, .int .i64 x.ow, .int .i64 x.to] 33)).drew.cell? ⟨wr.heap.size, 3, none⟩ = some (.int .i64 x.to) := by
              obtain ⟨q1, q2, q3⟩ := HA.out.drew.cs
              exact ⟨q2, q3⟩
            have eL := lt_of_heap HA.out.a
            go_enter Try.func10, Try.ntmps10
            go_wp2_with fail
            go_region_held2 (fun w' => w'.cell? ⟨wr.heap.size, 2, none⟩ = some (.int .i64 x.ow) ∧ w'.cell? ⟨wr.heap.size, 3, none⟩ = some (.int .i64 x.to)) (first | exact e1 | exact e2 | exact e3)
              (first
                | (go_at_call 20; refine C1.mono ?_; rintro q y1 ⟨rfl, hY1⟩; obtain ⟨q1, q2, q3⟩ := hY1.cs; (have e2 : y1.cell? ⟨wr.heap.size, 2, none⟩ = some (.int .i64 x.ow) ∧ y1.cell? ⟨wr.heap.size, 3, none⟩ = some (.int .i64 x.to) := ⟨q2, q3⟩); (have C2 := hY1.rqu x.ow x.to hx); rw [hz] at C2)
                | (go_at_call 26; refine C2.mono ?_; rintro q y2 ⟨rfl, hY2⟩; obtain ⟨r1, r2, r3⟩ := hY2.cs; (have e3 : y2.cell? ⟨wr.heap.size, 2, none⟩ = some (.int .i64 x.ow) ∧ y2.cell? ⟨wr.heap.size, 3, none⟩ = some (.int .i64 x.to) := ⟨r2, r3⟩)))
            go_wp2_with fail
            go_ret
            exact ⟨rfl, ⟨_, hY2.px⟩⟩
          · have H3 : Hid (∃ T, PX N w (wr.alloc (.cells #[.int .i64 x.kd, .int .i64 x.fr, .int .i64 x.ow, .int .i64 x.to] 33)) D R r T T) := ⟨_, HA.out.px⟩
            clear HA
            generalize x.kd = kd at *
            go_enter Try.func10, Try.ntmps10
            go_wp2_with fail
            go_ret
            exact ⟨rfl, H3.out⟩
end
end Go.Proofs.Ytcnoonhcofnghaa
