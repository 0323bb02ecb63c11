/-
  does: a call on both timers.
-/
import Derived.Test.YtgiafngiledmbaaPa
import Derived.Deep.RegionHeld2
import Derived.Deep.Cut
namespace Go.Proofs.Ytgiafngiledmbaa
open Go.RowKit Go.Maps
set_option linter.unusedVariables false
set_option maxRecDepth 100000
set_option maxHeartbeats 6400000 in
theorem does_k0 {KP : Nat → Array Value → Prop} {w0 w : World} {t ms mt r : Nat} {L : List Tm} (h : PX KP w0 w t ms mt r L L) (x : Ac) (ok : AcOk x) (hk : x.kd = 0) : Calls Try.prog 9 #[.pointer (some ⟨t, 0, none⟩), .pointer (some ⟨r, 0, none⟩), .agg (acA x)] w fun e w' => e = .returned (.bool true) ∧ ∃ T, PX KP w0 w' t ms mt r T T := by
  have HA : Hid (_) := h.act x
  clear h
  have HG : Hid (∀ (T : List Tm) (W : World) (q : Nat), PA KP w0 W t ms mt r q x T T → ∃ T, PX KP w0 W t ms mt r T T) := fun T W q p => ⟨T, p.px⟩
  have HL : Hid (∃ y, w.alloc (.cells (acA x) 32) = y ∧ PA KP w0 y t ms mt r w.heap.size x L L) := ⟨_, rfl, HA.out⟩
  have HO : Hid (AcOk x) := ok
  clear HA ok
  go_enter Try.func9, Try.ntmps9
  go_upto_region 1 with fail
  obtain ⟨y, hy, HA0⟩ := HL.out
  rw [hy]
  have HA : Hid (_) := HA0
  have c0 := HA0.c0
  have c1 := HA0.c1
  have c2 := HA0.c2
  have lq := HA0.lt
  rw [hk] at c0
  clear HL hy HA0
  generalize w.heap.size = q at *
  obtain ⟨id, hid⟩ : ∃ id, x.id = id := ⟨_, rfl⟩
  obtain ⟨nn, hnn⟩ : ∃ nn, x.nn = nn := ⟨_, rfl⟩
  have HK : Hid (KW id ∧ 0 ≤ nn) := ⟨hid ▸ HO.out.1, hnn ▸ HO.out.2.1⟩
  rw [hid] at c1
  rw [hnn] at c2
  obtain ⟨a1, hz1⟩ : ∃ a, beE L id = a := ⟨_, rfl⟩
  obtain ⟨z1, hz2⟩ : ∃ z1, beL L id nn = z1 := ⟨_, rfl⟩
  have C1 := HA.out.drew.begin_ (k := id) (c := nn) HK.out.1 HK.out.2
  rw [hz1, hz2] at C1
  have e1 : (fun w' : World => w'.cell? ⟨q, 1, none⟩ = some (.int .i64 id) ∧ w'.cell? ⟨q, 2, none⟩ = some (.int .u64 nn)) y.drew := ⟨(HA.out.drew.c1).trans (by rw [hid]), (HA.out.drew.c2).trans (by rw [hnn])⟩
  go_wp2_with fail
  go_region_held2 (fun w' : World => w'.cell? ⟨q, 1, none⟩ = some (.int .i64 id) ∧ w'.cell? ⟨q, 2, none⟩ = some (.int .u64 nn)) (first | exact e1 | exact e2 | exact e3)
    (first
      | (go_at_call 14; refine C1.mono ?_; rintro e y1 ⟨rfl, hY1⟩; (have e2 : (fun w' : World => w'.cell? ⟨q, 1, none⟩ = some (.int .i64 id) ∧ w'.cell? ⟨q, 2, none⟩ = some (.int .u64 nn)) y1 := ⟨(hY1.c1).trans (by rw [hid]), (hY1.c2).trans (by rw [hnn])⟩); (have C2 := hY1.rbegin (k := id) (c := nn) HK.out.1 HK.out.2); rw [hz1, hz2] at C2)
      | (go_at_call 21; refine C2.mono ?_; rintro e y2 ⟨rfl, hY2⟩; (have e3 : (fun w' : World => w'.cell? ⟨q, 1, none⟩ = some (.int .i64 id) ∧ w'.cell? ⟨q, 2, none⟩ = some (.int .u64 nn)) y2 := ⟨(hY2.c1).trans (by rw [hid]), (hY2.c2).trans (by rw [hnn])⟩)))
  have H2 : Hid (_) := HG.out _ _ _ hY2
  clear hY2
  go_wp2_with fail
  go_ret
  exact ⟨rfl, H2.out⟩
set_option maxHeartbeats 6400000 in
theorem does_k1 {KP : Nat → Array Value → Prop} {w0 w : World} {t ms mt r : Nat} {L : List Tm} (h : PX KP w0 w t ms mt r L L) (x : Ac) (ok : AcOk x) (hk : x.kd = 1) : Calls Try.prog 9 #[.pointer (some ⟨t, 0, none⟩), .pointer (some ⟨r, 0, none⟩), .agg (acA x)] w fun e w' => e = .returned (.bool true) ∧ ∃ T, PX KP w0 w' t ms mt r T T := by
  have HA : Hid (_) := h.act x
  clear h
  have HG : Hid (∀ (T : List Tm) (W : World) (q : Nat), PA KP w0 W t ms mt r q x T T → ∃ T, PX KP w0 W t ms mt r T T) := fun T W q p => ⟨T, p.px⟩
  have HL : Hid (∃ y, w.alloc (.cells (acA x) 32) = y ∧ PA KP w0 y t ms mt r w.heap.size x L L) := ⟨_, rfl, HA.out⟩
  have HO : Hid (AcOk x) := ok
  clear HA ok
  go_enter Try.func9, Try.ntmps9
  go_upto_region 1 with fail
  obtain ⟨y, hy, HA0⟩ := HL.out
  rw [hy]
  have HA : Hid (_) := HA0
  have c0 := HA0.c0
  have c1 := HA0.c1
  have c2 := HA0.c2
  have lq := HA0.lt
  rw [hk] at c0
  clear HL hy HA0
  generalize w.heap.size = q at *
  obtain ⟨id, hid⟩ : ∃ id, x.id = id := ⟨_, rfl⟩
  obtain ⟨nn, hnn⟩ : ∃ nn, x.nn = nn := ⟨_, rfl⟩
  have HK : Hid (KW id ∧ 0 ≤ nn) := ⟨hid ▸ HO.out.1, hnn ▸ HO.out.2.1⟩
  rw [hid] at c1
  rw [hnn] at c2
  obtain ⟨a1, hz1⟩ : ∃ a, (if (fnd L id).isSome = true then (0 : Int) else 14) = a := ⟨_, rfl⟩
  obtain ⟨z1, hz2⟩ : ∃ z1, mod L id (stD nn true) = z1 := ⟨_, rfl⟩
  have C1 := HA.out.drew.set_ (k := id) (c := nn) HK.out.1 HK.out.2
  rw [hz1, hz2] at C1
  have e1 : (fun w' : World => w'.cell? ⟨q, 1, none⟩ = some (.int .i64 id) ∧ w'.cell? ⟨q, 2, none⟩ = some (.int .u64 nn)) y.drew := ⟨(HA.out.drew.c1).trans (by rw [hid]), (HA.out.drew.c2).trans (by rw [hnn])⟩
  go_wp2_with fail
  go_region_held2 (fun w' : World => w'.cell? ⟨q, 1, none⟩ = some (.int .i64 id) ∧ w'.cell? ⟨q, 2, none⟩ = some (.int .u64 nn)) (first | exact e1 | exact e2 | exact e3)
    (first
      | (go_at_call 15; refine C1.mono ?_; rintro e y1 ⟨rfl, hY1⟩; (have e2 : (fun w' : World => w'.cell? ⟨q, 1, none⟩ = some (.int .i64 id) ∧ w'.cell? ⟨q, 2, none⟩ = some (.int .u64 nn)) y1 := ⟨(hY1.c1).trans (by rw [hid]), (hY1.c2).trans (by rw [hnn])⟩); (have C2 := hY1.rset (k := id) (c := nn) HK.out.2 true); rw [hz1, hz2] at C2)
      | (go_at_call 22; refine C2.mono ?_; rintro e y2 ⟨rfl, hY2⟩; (have e3 : (fun w' : World => w'.cell? ⟨q, 1, none⟩ = some (.int .i64 id) ∧ w'.cell? ⟨q, 2, none⟩ = some (.int .u64 nn)) y2 := ⟨(hY2.c1).trans (by rw [hid]), (hY2.c2).trans (by rw [hnn])⟩)))
  have H2 : Hid (_) := HG.out _ _ _ hY2
  clear hY2
  go_wp2_with fail
  go_ret
  exact ⟨rfl, H2.out⟩
set_option maxHeartbeats 6400000 in
theorem does_k2 {KP : Nat → Array Value → Prop} {w0 w : World} {t ms mt r : Nat} {L : List Tm} (h : PX KP w0 w t ms mt r L L) (x : Ac) (ok : AcOk x) (hk : x.kd = 2) : Calls Try.prog 9 #[.pointer (some ⟨t, 0, none⟩), .pointer (some ⟨r, 0, none⟩), .agg (acA x)] w fun e w' => e = .returned (.bool true) ∧ ∃ T, PX KP w0 w' t ms mt r T T := by
  have HA : Hid (_) := h.act x
  clear h
  have HG : Hid (∀ (T : List Tm) (W : World) (q : Nat), PA KP w0 W t ms mt r q x T T → ∃ T, PX KP w0 W t ms mt r T T) := fun T W q p => ⟨T, p.px⟩
  have HL : Hid (∃ y, w.alloc (.cells (acA x) 32) = y ∧ PA KP w0 y t ms mt r w.heap.size x L L) := ⟨_, rfl, HA.out⟩
  have HO : Hid (AcOk x) := ok
  clear HA ok
  go_enter Try.func9, Try.ntmps9
  go_upto_region 1 with fail
  obtain ⟨y, hy, HA0⟩ := HL.out
  rw [hy]
  have HA : Hid (_) := HA0
  have c0 := HA0.c0
  have c1 := HA0.c1
  have c2 := HA0.c2
  have lq := HA0.lt
  rw [hk] at c0
  clear HL hy HA0
  generalize w.heap.size = q at *
  obtain ⟨id, hid⟩ : ∃ id, x.id = id := ⟨_, rfl⟩
  obtain ⟨nn, hnn⟩ : ∃ nn, x.nn = nn := ⟨_, rfl⟩
  have HK : Hid (KW id ∧ 0 ≤ nn) := ⟨hid ▸ HO.out.1, hnn ▸ HO.out.2.1⟩
  rw [hid] at c1
  rw [hnn] at c2
  obtain ⟨a1, hz1⟩ : ∃ a, (if (fnd L id).isSome = true then (0 : Int) else 14) = a := ⟨_, rfl⟩
  obtain ⟨z1, hz2⟩ : ∃ z1, mod L id (stD 0 false) = z1 := ⟨_, rfl⟩
  have C1 := HA.out.drew.stop_ (k := id) HK.out.1
  rw [hz1, hz2] at C1
  have e1 : (fun w' : World => w'.cell? ⟨q, 1, none⟩ = some (.int .i64 id)) y.drew := (HA.out.drew.c1).trans (by rw [hid])
  go_wp2_with fail
  go_region_held2 (fun w' : World => w'.cell? ⟨q, 1, none⟩ = some (.int .i64 id)) (first | exact e1 | exact e2 | exact e3)
    (first
      | (go_at_call 16; refine C1.mono ?_; rintro e y1 ⟨rfl, hY1⟩; (have e2 : (fun w' : World => w'.cell? ⟨q, 1, none⟩ = some (.int .i64 id)) y1 := (hY1.c1).trans (by rw [hid])); (have C2 := hY1.rset (k := id) (c := 0) (by omega) false); rw [hz1, hz2] at C2)
      | (go_at_call 22; refine C2.mono ?_; rintro e y2 ⟨rfl, hY2⟩; (have e3 : (fun w' : World => w'.cell? ⟨q, 1, none⟩ = some (.int .i64 id)) y2 := (hY2.c1).trans (by rw [hid]))))
  have H2 : Hid (_) := HG.out _ _ _ hY2
  clear hY2
  go_wp2_with fail
  go_ret
  exact ⟨rfl, H2.out⟩
set_option maxHeartbeats 6400000 in
theorem does_k3 {KP : Nat → Array Value → Prop} {w0 w : World} {t ms mt r : Nat} {L : List Tm} (h : PX KP w0 w t ms mt r L L) (x : Ac) (ok : AcOk x) (hk : x.kd = 3) : Calls Try.prog 9 #[.pointer (some ⟨t, 0, none⟩), .pointer (some ⟨r, 0, none⟩), .agg (acA x)] w fun e w' => e = .returned (.bool true) ∧ ∃ T, PX KP w0 w' t ms mt r T T := by
  have HA : Hid (_) := h.act x
  clear h
  have HG : Hid (∀ (T : List Tm) (W : World) (q : Nat), PA KP w0 W t ms mt r q x T T → ∃ T, PX KP w0 W t ms mt r T T) := fun T W q p => ⟨T, p.px⟩
  have HL : Hid (∃ y, w.alloc (.cells (acA x) 32) = y ∧ PA KP w0 y t ms mt r w.heap.size x L L) := ⟨_, rfl, HA.out⟩
  have HO : Hid (AcOk x) := ok
  clear HA ok
  go_enter Try.func9, Try.ntmps9
  go_upto_region 1 with fail
  obtain ⟨y, hy, HA0⟩ := HL.out
  rw [hy]
  have HA : Hid (_) := HA0
  have c0 := HA0.c0
  have c1 := HA0.c1
  have c2 := HA0.c2
  have lq := HA0.lt
  rw [hk] at c0
  clear HL hy HA0
  generalize w.heap.size = q at *
  obtain ⟨id, hid⟩ : ∃ id, x.id = id := ⟨_, rfl⟩
  obtain ⟨nn, hnn⟩ : ∃ nn, x.nn = nn := ⟨_, rfl⟩
  have HK : Hid (KW id ∧ 0 ≤ nn) := ⟨hid ▸ HO.out.1, hnn ▸ HO.out.2.1⟩
  rw [hid] at c1
  rw [hnn] at c2
  obtain ⟨a1, hz1⟩ : ∃ a, haE L id = a := ⟨_, rfl⟩
  obtain ⟨z1, hz2⟩ : ∃ z1, haL L id nn = z1 := ⟨_, rfl⟩
  have C1 := HA.out.drew.halt_ (k := id) (c := nn) HK.out.1 HK.out.2
  rw [hz1, hz2] at C1
  have e1 : (fun w' : World => w'.cell? ⟨q, 1, none⟩ = some (.int .i64 id) ∧ w'.cell? ⟨q, 2, none⟩ = some (.int .u64 nn)) y.drew := ⟨(HA.out.drew.c1).trans (by rw [hid]), (HA.out.drew.c2).trans (by rw [hnn])⟩
  go_wp2_with fail
  go_region_held2 (fun w' : World => w'.cell? ⟨q, 1, none⟩ = some (.int .i64 id) ∧ w'.cell? ⟨q, 2, none⟩ = some (.int .u64 nn)) (first | exact e1 | exact e2 | exact e3)
    (first
      | (go_at_call 17; refine C1.mono ?_; rintro e y1 ⟨rfl, hY1⟩; (have e2 : (fun w' : World => w'.cell? ⟨q, 1, none⟩ = some (.int .i64 id) ∧ w'.cell? ⟨q, 2, none⟩ = some (.int .u64 nn)) y1 := ⟨(hY1.c1).trans (by rw [hid]), (hY1.c2).trans (by rw [hnn])⟩); (have C2 := hY1.rhalt (k := id) (c := nn) HK.out.2); rw [hz1, hz2] at C2)
      | (go_at_call 23; refine C2.mono ?_; rintro e y2 ⟨rfl, hY2⟩; (have e3 : (fun w' : World => w'.cell? ⟨q, 1, none⟩ = some (.int .i64 id) ∧ w'.cell? ⟨q, 2, none⟩ = some (.int .u64 nn)) y2 := ⟨(hY2.c1).trans (by rw [hid]), (hY2.c2).trans (by rw [hnn])⟩)))
  have H2 : Hid (_) := HG.out _ _ _ hY2
  clear hY2
  go_wp2_with fail
  go_ret
  exact ⟨rfl, H2.out⟩
set_option maxHeartbeats 6400000 in
theorem does_k4 {KP : Nat → Array Value → Prop} {w0 w : World} {t ms mt r : Nat} {L : List Tm} (h : PX KP w0 w t ms mt r L L) (x : Ac) (ok : AcOk x) (hk : x.kd = 4) : Calls Try.prog 9 #[.pointer (some ⟨t, 0, none⟩), .pointer (some ⟨r, 0, none⟩), .agg (acA x)] w fun e w' => e = .returned (.bool true) ∧ ∃ T, PX KP w0 w' t ms mt r T T := by
  have HA : Hid (_) := h.act x
  clear h
  have HG : Hid (∀ (T : List Tm) (W : World) (q : Nat), PA KP w0 W t ms mt r q x T T → ∃ T, PX KP w0 W t ms mt r T T) := fun T W q p => ⟨T, p.px⟩
  have HL : Hid (∃ y, w.alloc (.cells (acA x) 32) = y ∧ PA KP w0 y t ms mt r w.heap.size x L L) := ⟨_, rfl, HA.out⟩
  have HO : Hid (AcOk x) := ok
  clear HA ok
  go_enter Try.func9, Try.ntmps9
  go_upto_region 1 with fail
  obtain ⟨y, hy, HA0⟩ := HL.out
  rw [hy]
  have HA : Hid (_) := HA0
  have c0 := HA0.c0
  have c1 := HA0.c1
  have c2 := HA0.c2
  have lq := HA0.lt
  rw [hk] at c0
  clear HL hy HA0
  generalize w.heap.size = q at *
  obtain ⟨id, hid⟩ : ∃ id, x.id = id := ⟨_, rfl⟩
  obtain ⟨nn, hnn⟩ : ∃ nn, x.nn = nn := ⟨_, rfl⟩
  have HK : Hid (KW id ∧ 0 ≤ nn) := ⟨hid ▸ HO.out.1, hnn ▸ HO.out.2.1⟩
  rw [hid] at c1
  rw [hnn] at c2
  obtain ⟨a1, hz1⟩ : ∃ a, goE L id = a := ⟨_, rfl⟩
  obtain ⟨z1, hz2⟩ : ∃ z1, goL L id nn = z1 := ⟨_, rfl⟩
  have C1 := HA.out.drew.go_ (k := id) (c := nn) HK.out.1 HK.out.2
  rw [hz1, hz2] at C1
  have e1 : (fun w' : World => w'.cell? ⟨q, 1, none⟩ = some (.int .i64 id) ∧ w'.cell? ⟨q, 2, none⟩ = some (.int .u64 nn)) y.drew := ⟨(HA.out.drew.c1).trans (by rw [hid]), (HA.out.drew.c2).trans (by rw [hnn])⟩
  go_wp2_with fail
  go_region_held2 (fun w' : World => w'.cell? ⟨q, 1, none⟩ = some (.int .i64 id) ∧ w'.cell? ⟨q, 2, none⟩ = some (.int .u64 nn)) (first | exact e1 | exact e2 | exact e3)
    (first
      | (go_at_call 18; refine C1.mono ?_; rintro e y1 ⟨rfl, hY1⟩; (have e2 : (fun w' : World => w'.cell? ⟨q, 1, none⟩ = some (.int .i64 id) ∧ w'.cell? ⟨q, 2, none⟩ = some (.int .u64 nn)) y1 := ⟨(hY1.c1).trans (by rw [hid]), (hY1.c2).trans (by rw [hnn])⟩); (have C2 := hY1.rgo (k := id) (c := nn) HK.out.2); rw [hz1, hz2] at C2)
      | (go_at_call 23; refine C2.mono ?_; rintro e y2 ⟨rfl, hY2⟩; (have e3 : (fun w' : World => w'.cell? ⟨q, 1, none⟩ = some (.int .i64 id) ∧ w'.cell? ⟨q, 2, none⟩ = some (.int .u64 nn)) y2 := ⟨(hY2.c1).trans (by rw [hid]), (hY2.c2).trans (by rw [hnn])⟩)))
  have H2 : Hid (_) := HG.out _ _ _ hY2
  clear hY2
  go_wp2_with fail
  go_ret
  exact ⟨rfl, H2.out⟩
set_option maxHeartbeats 6400000 in
theorem does_k6 {KP : Nat → Array Value → Prop} {w0 w : World} {t ms mt r : Nat} {L : List Tm} (h : PX KP w0 w t ms mt r L L) (x : Ac) (ok : AcOk x) (hk : x.kd = 6) : Calls Try.prog 9 #[.pointer (some ⟨t, 0, none⟩), .pointer (some ⟨r, 0, none⟩), .agg (acA x)] w fun e w' => e = .returned (.bool true) ∧ ∃ T, PX KP w0 w' t ms mt r T T := by
  have HA : Hid (_) := h.act x
  clear h
  have HG : Hid (∀ (T : List Tm) (W : World) (q : Nat), PA KP w0 W t ms mt r q x T T → ∃ T, PX KP w0 W t ms mt r T T) := fun T W q p => ⟨T, p.px⟩
  have HL : Hid (∃ y, w.alloc (.cells (acA x) 32) = y ∧ PA KP w0 y t ms mt r w.heap.size x L L) := ⟨_, rfl, HA.out⟩
  have HO : Hid (AcOk x) := ok
  clear HA ok
  go_enter Try.func9, Try.ntmps9
  go_upto_region 1 with fail
  obtain ⟨y, hy, HA0⟩ := HL.out
  rw [hy]
  have HA : Hid (_) := HA0
  have c0 := HA0.c0
  have c1 := HA0.c1
  have c2 := HA0.c2
  have lq := HA0.lt
  rw [hk] at c0
  clear HL hy HA0
  generalize w.heap.size = q at *
  obtain ⟨id, hid⟩ : ∃ id, x.id = id := ⟨_, rfl⟩
  obtain ⟨nn, hnn⟩ : ∃ nn, x.nn = nn := ⟨_, rfl⟩
  have HK : Hid (KW id ∧ 0 ≤ nn) := ⟨hid ▸ HO.out.1, hnn ▸ HO.out.2.1⟩
  rw [hid] at c1
  rw [hnn] at c2
  obtain ⟨a1, hz1⟩ : ∃ a, (if (fnd L id).isSome = true then (0 : Int) else 14) = a := ⟨_, rfl⟩
  obtain ⟨z1, hz2⟩ : ∃ z1, del L id = z1 := ⟨_, rfl⟩
  have C1 := HA.out.drew.end_ (k := id) HK.out.1
  rw [hz1, hz2] at C1
  have e1 : (fun w' : World => w'.cell? ⟨q, 1, none⟩ = some (.int .i64 id)) y.drew := (HA.out.drew.c1).trans (by rw [hid])
  go_wp2_with fail
  go_region_held2 (fun w' : World => w'.cell? ⟨q, 1, none⟩ = some (.int .i64 id)) (first | exact e1 | exact e2 | exact e3)
    (first
      | (go_at_call 20; refine C1.mono ?_; rintro e y1 ⟨rfl, hY1⟩; (have e2 : (fun w' : World => w'.cell? ⟨q, 1, none⟩ = some (.int .i64 id)) y1 := (hY1.c1).trans (by rw [hid])); (have C2 := hY1.rend (k := id)); rw [hz1, hz2] at C2)
      | (go_at_call 25; refine C2.mono ?_; rintro e y2 ⟨rfl, hY2⟩; (have e3 : (fun w' : World => w'.cell? ⟨q, 1, none⟩ = some (.int .i64 id)) y2 := (hY2.c1).trans (by rw [hid]))))
  have H2 : Hid (_) := HG.out _ _ _ hY2
  clear hY2
  go_wp2_with fail
  go_ret
  exact ⟨rfl, H2.out⟩
end Go.Proofs.Ytgiafngiledmbaa
