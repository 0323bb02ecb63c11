/-
  does: Due of both, and what is no call.
-/
import Derived.Test.YtgiafngiledmbaaPa
import Derived.Deep.RegionHeld2
import Derived.Deep.Cut
namespace Go.Proofs.Ytgiafngiledmbaa
open Go.RowKit Go.Maps
set_option linter.unusedVariables false
set_option maxRecDepth 100000
theorem PA.due2 {KP : Nat → Array Value → Prop} {w0 w : World} {t ms mt r q : Nat} {x : Ac} {L K : List Tm} {c : Int} (h : PA KP w0 w t ms mt r q x L K) (hc : 0 ≤ c) : Calls Try.prog 19 #[.pointer (some ⟨t, 0, none⟩), .int .u64 c] w fun e w' => (∃ o, e = .returned o ∧ Li w.heap.size w' o (dueL L c)) ∧ PA KP w0 w' t ms mt r q x (aft L c) K ∧
    ∀ o, Li w.heap.size w' o (dueL L c) → Calls Try.prog 24 #[.pointer (some ⟨r, 0, none⟩), .int .u64 c] w' fun e w2 => (∃ o2, e = .returned o2 ∧ Li w'.heap.size w2 o2 (dueL K c)) ∧ PA KP w0 w2 t ms mt r q x (aft L c) (aft K c) ∧ Li w.heap.size w2 o (dueL L c) := by
  obtain ⟨v, h1, h2⟩ := h.px.dx
  refine (due_vx h.px.vx hc).mono fun e w' ⟨e1, hi, ht⟩ => ?_
  have hp := h.call hi ht
  have d' : DX w' r v K := h1.keep (ht.block r h1.lt (h.px.vx.cells h1.ob)) fun k hk => by
    obtain ⟨h3, cs, h4⟩ := h1.its.lt k hk
    exact ht.block k h3 (h.px.vx.cells h4)
  refine ⟨e1, hp, fun o hl => (rdue_dx d' hc).mono fun e w2 ⟨e2, h3, h4⟩ => ⟨e2, hp.rcall d' h2 h3 h4 fun j hj => .inl hj, ?_⟩⟩
  obtain ⟨ad, cc, e3, hr⟩ := hl
  refine ⟨ad, cc, e3, fun i hi => ?_⟩
  obtain ⟨g, k1, k2, k3, k4⟩ := hr i hi
  have hS : ¬ Sr r v g := by
    rintro (rfl | hj)
    · have := h1.lt; omega
    · have := (h1.its.lt g hj).1; omega
  exact ⟨g, k1, k2, Nat.lt_of_lt_of_le k3 h4.size, (World.cell?_of_block (h4.block g k3 hS)).trans k4⟩
set_option maxHeartbeats 6400000 in
theorem does_k5 {KP : Nat → Array Value → Prop} {w0 w : World} {t ms mt r : Nat} {L : List Tm} (h : PX KP w0 w t ms mt r L L) (x : Ac) (ok : AcOk x) (hk : x.kd = 5) : Calls Try.prog 9 #[.pointer (some ⟨t, 0, none⟩), .pointer (some ⟨r, 0, none⟩), .agg (acA x)] w fun e w' => e = .returned (.bool true) ∧ ∃ T, PX KP w0 w' t ms mt r T T := by
  have HA : Hid (_) := h.act x
  clear h
  have HG : Hid (∀ (T : List Tm) (W : World) (q : Nat), PA KP w0 W t ms mt r q x T T → ∃ T, PX KP w0 W t ms mt r T T) := fun T W q p => ⟨T, p.px⟩
  have HL : Hid (∃ y, w.alloc (.cells (acA x) 32) = y ∧ PA KP w0 y t ms mt r w.heap.size x L L) := ⟨_, rfl, HA.out⟩
  have HO : Hid (AcOk x) := ok
  clear HA ok
  go_enter Try.func9, Try.ntmps9
  go_upto_region 1 with fail
  obtain ⟨y, hy, HA0⟩ := HL.out
  rw [hy]
  have HA : Hid (_) := HA0
  have c0 := HA0.c0
  have c1 := HA0.c1
  have c2 := HA0.c2
  have lq := HA0.lt
  rw [hk] at c0
  clear HL hy HA0
  generalize w.heap.size = q at *
  obtain ⟨nn, hnn⟩ : ∃ nn, x.nn = nn := ⟨_, rfl⟩
  have HK : Hid (0 ≤ nn) := hnn ▸ HO.out.2.1
  rw [hnn] at c2
  obtain ⟨ds, hds⟩ : ∃ ds, dueL L nn = ds := ⟨_, rfl⟩
  obtain ⟨z1, hz2⟩ : ∃ z1, aft L nn = z1 := ⟨_, rfl⟩
  have C1 := HA.out.drew.due2 (c := nn) HK.out
  rw [hds, hz2] at C1
  have hd64 : ds.length ≤ 64 := by
    have h1 := HA.out.px.vx.ok.len
    have := List.length_filter_le (isd nn) L
    rw [← hds]
    unfold dueL
    rw [List.length_map]
    omega
  have e1 : (fun w' : World => w'.cell? ⟨q, 2, none⟩ = some (.int .u64 nn)) y.drew := (HA.out.drew.c2).trans (by rw [hnn])
  go_wp2_with fail
  go_region_held2 (fun w' : World => w'.cell? ⟨q, 2, none⟩ = some (.int .u64 nn)) (first | exact e1 | exact e2 | exact e3)
    (first
      | (go_at_call 19; refine C1.mono ?_; rintro e y1 ⟨⟨o, rfl, hLi⟩, hY1, hC2⟩; (have e2 : (fun w' : World => w'.cell? ⟨q, 2, none⟩ = some (.int .u64 nn)) y1 := (hY1.c2).trans (by rw [hnn])); (have C2 := hC2 o hLi))
      | (go_at_call 24; refine C2.mono ?_; rintro e y2 ⟨⟨o2, rfl, hLi2⟩, hY2, hLi1⟩; (have e3 : (fun w' : World => w'.cell? ⟨q, 2, none⟩ = some (.int .u64 nn)) y2 := (hY2.c2).trans (by rw [hnn]))))
  obtain ⟨ad1, cc1, rfl, hr1⟩ := hLi1
  obtain ⟨ad2, cc2, rfl, hr2⟩ := hLi2
  have H2 : Hid (_) := HG.out _ _ _ hY2
  have HR : Hid (∀ i, i < ds.length → ∃ g1 g2 u, ad1 = some ⟨g1, 0, none⟩ ∧ ad2 = some ⟨g2, 0, none⟩ ∧ g1 < y2.heap.size ∧ g2 < y2.heap.size ∧ y2.cell? ⟨g1, i, none⟩ = some (.int .i64 u) ∧ y2.cell? ⟨g2, i, none⟩ = some (.int .i64 u)) := fun i hi => by
    obtain ⟨g1, a1, a2, a3, a4⟩ := hr1 i hi
    obtain ⟨g2, b1, b2, b3, b4⟩ := hr2 i hi
    exact ⟨g1, g2, _, a1, b1, a3, b3, a4, b4⟩
  clear hY2 hr1 hr2 hLi hY1 hC2 c0 c1 c2 e1
  generalize ds.length = n at *
  go_wp2_with fail
  go_loopw [9] (fun q9 wr => ∃ j : Nat, j ≤ n ∧ q9 = .int .i64 j ∧ ∃ m, wr = y2.drewN m) (fun q9 _ => n - (intOf q9).toNat)
  case atStart => exact ⟨0, by omega, rfl, 0, rfl⟩
  case round =>
    obtain ⟨j, hj, rfl, m, rfl⟩ := hrel
    by_cases hjn : j < n
    · have hjn' : (j : Int) < (n : Int) := by omega
      obtain ⟨g1, g2, u, rfl, rfl, k1, k2, k3, k4⟩ := HR.out j hjn
      go_wp2_with fail
      go_region
      all_goals
        go_wp2_with fail
        go_roundw
        case rel => exact ⟨j + 1, by omega, by go_num, m + 1, rfl⟩
        case measure => simp [intOf]; omega
    · obtain rfl : j = n := by omega
      have H3 : Hid (∃ T, PX KP w0 (y2.drewN m) t ms mt r T T) := by
        obtain ⟨T, p⟩ := H2.out
        exact ⟨T, p.below (below_drewN (Below.refl _ _) _)⟩
      clear H2 HR
      generalize y2.drewN m = y3 at *
      go_wp2_with fail
      go_ret
      exact ⟨rfl, H3.out⟩
set_option maxHeartbeats 6400000 in
theorem does_o {KP : Nat → Array Value → Prop} {w0 w : World} {t ms mt r : Nat} {L : List Tm} (h : PX KP w0 w t ms mt r L L) (x : Ac) (ok : AcOk x) (n : ∀ i : Nat, i < 7 → x.kd ≠ i) : Calls Try.prog 9 #[.pointer (some ⟨t, 0, none⟩), .pointer (some ⟨r, 0, none⟩), .agg (acA x)] w fun e w' => e = .returned (.bool true) ∧ ∃ T, PX KP w0 w' t ms mt r T T := by
  have HA : Hid (_) := h.act x
  clear h
  have c0 := HA.out.c0
  have lq := HA.out.lt
  have H2 : Hid (∃ T, PX KP w0 (w.alloc (.cells (acA x) 32)) t ms mt r T T) := ⟨_, HA.out.px⟩
  have m0 : (x.kd == 0) = false := by have := n 0 (by decide); simp; omega
  have m1 : (x.kd == 1) = false := by have := n 1 (by decide); simp; omega
  have m2 : (x.kd == 2) = false := by have := n 2 (by decide); simp; omega
  have m3 : (x.kd == 3) = false := by have := n 3 (by decide); simp; omega
  have m4 : (x.kd == 4) = false := by have := n 4 (by decide); simp; omega
  have m5 : (x.kd == 5) = false := by have := n 5 (by decide); simp; omega
  have m6 : (x.kd == 6) = false := by have := n 6 (by decide); simp; omega
  clear n HA ok
  generalize x.kd = kd at *
  go_enter Try.func9, Try.ntmps9
  go_upto_region 1 with fail
  generalize w.heap.size = q at *
  generalize w.alloc (.cells (acA x) 32) = y at *
  go_wp2_with fail
  go_ret
  exact ⟨rfl, H2.out⟩
end Go.Proofs.Ytgiafngiledmbaa
