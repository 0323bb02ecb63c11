/-
  does: a call on both controllers.
-/
import Derived.Test.YtncjhdhfhojohaaPa
import Derived.Test.YtncjhdhfhojohaaGr
import Derived.Deep.RegionHeld2
import Derived.Deep.Cut
namespace Go.Proofs.Ytncjhdhfhojohaa
open Go.RowKit
set_option linter.unusedVariables false
set_option maxRecDepth 100000
set_option maxHeartbeats 6400000 in
theorem does_k0 {w0 w : World} {b c : Nat} {z : Z} (h : PX w0 w b c z z) (k : Ok z) (x : Ac) (hk : x.kd = 0) : Calls Try.prog 10 #[.pointer (some ⟨b, 0, none⟩), .pointer (some ⟨c, 0, none⟩), .agg (acA x)] w fun e w' => e = .returned (.bool true) ∧ ∃ T, PX w0 w' b c T T ∧ Ok T := by
  have HA : Hid (_) := h.act x
  have HK : Hid (Ok z) := k
  clear h k
  have HG : Hid (∀ (T : Z) (W : World) (q : Nat), PA w0 W b c q x T T → Ok T → ∃ T, PX w0 W b c T T ∧ Ok T) := fun T W q p o => ⟨T, p.px, o⟩
  have HL : Hid (∃ y, w.alloc (.cells (acA x) 33) = y ∧ PA w0 y b c w.heap.size x z z) := ⟨_, rfl, HA.out⟩
  clear HA
  go_enter Try.func10, Try.ntmps10
  go_upto_region 1 with fail
  obtain ⟨y, hy, HA0⟩ := HL.out
  rw [hy]
  have HA : Hid (_) := HA0
  have c0 := HA0.c0
  have c1 := HA0.c1
  have c2 := HA0.c2
  have c3 := HA0.c3
  have c4 := HA0.c4
  have lq := HA0.lt
  rw [hk] at c0
  clear HL hy HA0
  generalize w.heap.size = q at *
  obtain ⟨vc, hvc⟩ : ∃ vc, x.vc = vc := ⟨_, rfl⟩
  obtain ⟨so, hso⟩ : ∃ so, x.so = so := ⟨_, rfl⟩
  obtain ⟨nn, hnn⟩ : ∃ nn, x.nn = nn := ⟨_, rfl⟩
  obtain ⟨on, hon⟩ : ∃ on, x.on = on := ⟨_, rfl⟩
  rw [hvc] at c1
  rw [hso] at c2
  rw [hnn] at c3
  rw [hon] at c4
  obtain ⟨p, hp⟩ : ∃ p, src so = p := ⟨_, rfl⟩
  have K1 := is_any so y
  rw [hp] at K1
  cases p
  · have K2 := HA.out.raise HK.out so
    rw [hp] at K2
    have hz : raiP z so = z := by unfold raiP; rw [hp]; rfl
    rw [hz] at K2
    unfold chk at K2
    clear hz
    go_wp2_with fail
    refine K1.mono ?_
    rintro e y ⟨rfl, rfl⟩
    go_wp2_with fail
    refine K2.mono ?_
    rintro e w2 ⟨rfl, h2⟩
    have H2 : Hid (_) := HG.out _ _ _ h2 HK.out
    clear h2
    go_wp2_with fail
    go_ret
    exact ⟨rfl, H2.out⟩
  · obtain ⟨s, rfl, s1, s2⟩ := src_nat hp
    have hs17 : (s : Int) < 17 := by omega
    have cc := HA.out.px.rs.cP s (by omega)
    have ff := HA.out.px.rs.f (1 + s * 7)
    have lc := HA.out.px.rs.lt
    have H1 : Hid (_) := HA.out.putP s (by omega) true
    have HS : Hid (1 ≤ s ∧ s ≤ 16) := ⟨s1, s2⟩
    go_wp2_with fail
    refine K1.mono ?_
    rintro e y ⟨rfl, rfl⟩
    go_wp2_with fail
    go_region
    have H1' : Hid (_) := H1.out.drew
    have d2 := H1'.out.c2
    have lq := H1'.out.lt
    have K2 := H1'.out.raise HK.out (s : Int)
    rw [src_at s HS.out.1 (by have := HS.out.2; omega), raiP_at z s HS.out.1 (by have := HS.out.2; omega)] at K2
    unfold chk at K2
    clear H1 c0 c1 c2 c3 c4 cc ff lc
    rw [hso] at d2
    generalize (y.setCell ⟨c, 1 + s * 7, none⟩ (.bool true)).drew = x2 at *
    go_wp2_with fail
    refine K2.mono ?_
    rintro e w2 ⟨rfl, h2⟩
    have H2 : Hid (_) := HG.out _ _ _ h2 (HK.out.setP s HS.out.1 true)
    clear h2
    go_wp2_with fail
    go_ret
    exact ⟨rfl, H2.out⟩
set_option maxHeartbeats 6400000 in
theorem does_k1 {w0 w : World} {b c : Nat} {z : Z} (h : PX w0 w b c z z) (k : Ok z) (x : Ac) (hk : x.kd = 1) : Calls Try.prog 10 #[.pointer (some ⟨b, 0, none⟩), .pointer (some ⟨c, 0, none⟩), .agg (acA x)] w fun e w' => e = .returned (.bool true) ∧ ∃ T, PX w0 w' b c T T ∧ Ok T := by
  have HA : Hid (_) := h.act x
  have HK : Hid (Ok z) := k
  clear h k
  have HG : Hid (∀ (T : Z) (W : World) (q : Nat), PA w0 W b c q x T T → Ok T → ∃ T, PX w0 W b c T T ∧ Ok T) := fun T W q p o => ⟨T, p.px, o⟩
  have HL : Hid (∃ y, w.alloc (.cells (acA x) 33) = y ∧ PA w0 y b c w.heap.size x z z) := ⟨_, rfl, HA.out⟩
  clear HA
  go_enter Try.func10, Try.ntmps10
  go_upto_region 1 with fail
  obtain ⟨y, hy, HA0⟩ := HL.out
  rw [hy]
  have HA : Hid (_) := HA0
  have c0 := HA0.c0
  have c1 := HA0.c1
  have c2 := HA0.c2
  have c3 := HA0.c3
  have c4 := HA0.c4
  have lq := HA0.lt
  rw [hk] at c0
  clear HL hy HA0
  generalize w.heap.size = q at *
  obtain ⟨vc, hvc⟩ : ∃ vc, x.vc = vc := ⟨_, rfl⟩
  obtain ⟨so, hso⟩ : ∃ so, x.so = so := ⟨_, rfl⟩
  obtain ⟨nn, hnn⟩ : ∃ nn, x.nn = nn := ⟨_, rfl⟩
  obtain ⟨on, hon⟩ : ∃ on, x.on = on := ⟨_, rfl⟩
  rw [hvc] at c1
  rw [hso] at c2
  rw [hnn] at c3
  rw [hon] at c4
  obtain ⟨a1, hz1⟩ : ∃ a, chk (enaF z vc so) = a := ⟨_, rfl⟩
  obtain ⟨z1, hz2⟩ : ∃ z1, enaP z vc so on = z1 := ⟨_, rfl⟩
  have C1 := HA.out.drew.enable HK.out vc so on
  have HO : Hid (Ok z1) := by rw [← hz2]; exact enaP_ok HK.out vc so on
  rw [hz1, hz2] at C1
  have e1 : (fun w' : World => w'.cell? ⟨q, 1, none⟩ = some (.int .i64 vc) ∧ w'.cell? ⟨q, 2, none⟩ = some (.int .i64 so) ∧ w'.cell? ⟨q, 4, none⟩ = some (.bool on)) y.drew := ⟨(HA.out.drew.c1).trans (by rw [hvc]), (HA.out.drew.c2).trans (by rw [hso]), (HA.out.drew.c4).trans (by rw [hon])⟩
  go_wp2_with fail
  go_region_held2 (fun w' => w'.cell? ⟨q, 1, none⟩ = some (.int .i64 vc) ∧ w'.cell? ⟨q, 2, none⟩ = some (.int .i64 so) ∧ w'.cell? ⟨q, 4, none⟩ = some (.bool on)) (first | exact e1 | exact e2 | exact e3)
    (first
      | (go_at_call 18; refine C1.mono ?_; rintro e y1 ⟨rfl, hY1⟩; (have e2 : (fun w' : World => w'.cell? ⟨q, 1, none⟩ = some (.int .i64 vc) ∧ w'.cell? ⟨q, 2, none⟩ = some (.int .i64 so) ∧ w'.cell? ⟨q, 4, none⟩ = some (.bool on)) y1 := ⟨(hY1.c1).trans (by rw [hvc]), (hY1.c2).trans (by rw [hso]), (hY1.c4).trans (by rw [hon])⟩); (have C2 := hY1.renable HK.out vc so on); rw [hz1, hz2] at C2)
      | (go_at_call 24; refine C2.mono ?_; rintro e y2 ⟨rfl, hY2⟩; (have e3 : (fun w' : World => w'.cell? ⟨q, 1, none⟩ = some (.int .i64 vc) ∧ w'.cell? ⟨q, 2, none⟩ = some (.int .i64 so) ∧ w'.cell? ⟨q, 4, none⟩ = some (.bool on)) y2 := ⟨(hY2.c1).trans (by rw [hvc]), (hY2.c2).trans (by rw [hso]), (hY2.c4).trans (by rw [hon])⟩)))
  have H2 : Hid (_) := HG.out _ _ _ hY2 HO.out
  clear hY2
  go_wp2_with fail
  go_ret
  exact ⟨rfl, H2.out⟩
set_option maxHeartbeats 6400000 in
theorem does_k2 {w0 w : World} {b c : Nat} {z : Z} (h : PX w0 w b c z z) (k : Ok z) (x : Ac) (hk : x.kd = 2) : Calls Try.prog 10 #[.pointer (some ⟨b, 0, none⟩), .pointer (some ⟨c, 0, none⟩), .agg (acA x)] w fun e w' => e = .returned (.bool true) ∧ ∃ T, PX w0 w' b c T T ∧ Ok T := by
  have HA : Hid (_) := h.act x
  have HK : Hid (Ok z) := k
  clear h k
  have HG : Hid (∀ (T : Z) (W : World) (q : Nat), PA w0 W b c q x T T → Ok T → ∃ T, PX w0 W b c T T ∧ Ok T) := fun T W q p o => ⟨T, p.px, o⟩
  have HL : Hid (∃ y, w.alloc (.cells (acA x) 33) = y ∧ PA w0 y b c w.heap.size x z z) := ⟨_, rfl, HA.out⟩
  clear HA
  go_enter Try.func10, Try.ntmps10
  go_upto_region 1 with fail
  obtain ⟨y, hy, HA0⟩ := HL.out
  rw [hy]
  have HA : Hid (_) := HA0
  have c0 := HA0.c0
  have c1 := HA0.c1
  have c2 := HA0.c2
  have c3 := HA0.c3
  have c4 := HA0.c4
  have lq := HA0.lt
  rw [hk] at c0
  clear HL hy HA0
  generalize w.heap.size = q at *
  obtain ⟨vc, hvc⟩ : ∃ vc, x.vc = vc := ⟨_, rfl⟩
  obtain ⟨so, hso⟩ : ∃ so, x.so = so := ⟨_, rfl⟩
  obtain ⟨nn, hnn⟩ : ∃ nn, x.nn = nn := ⟨_, rfl⟩
  obtain ⟨on, hon⟩ : ∃ on, x.on = on := ⟨_, rfl⟩
  rw [hvc] at c1
  rw [hso] at c2
  rw [hnn] at c3
  rw [hon] at c4
  obtain ⟨p, hp⟩ : ∃ p, src so = p := ⟨_, rfl⟩
  have K1 := is_any so y
  rw [hp] at K1
  cases p
  · have hf : weiF so nn = false := by unfold weiF; rw [hp]; rfl
    have hz : weiP z so nn = z := by unfold weiP weiF; rw [hp]; rfl
    have K2 := HA.out.weigh HK.out so nn
    rw [hf, hz] at K2
    unfold chk at K2
    clear hz hf
    go_wp2_with fail
    refine K1.mono ?_
    rintro e y ⟨rfl, rfl⟩
    go_wp2_with fail
    refine K2.mono ?_
    rintro e w2 ⟨rfl, h2⟩
    have H2 : Hid (_) := HG.out _ _ _ h2 HK.out
    clear h2
    go_wp2_with fail
    go_ret
    exact ⟨rfl, H2.out⟩
  · obtain ⟨s, rfl, s1, s2⟩ := src_nat hp
    by_cases n0 : nn < 0
    · have hwg : wgt nn = false := decide_eq_false (by omega)
      have hn0 : decide (nn < 0) = true := decide_eq_true n0
      have hf : weiF (s : Int) nn = false := by unfold weiF; rw [hp, hwg]; rfl
      have hz : weiP z (s : Int) nn = z := by unfold weiP weiF; rw [hp, hwg]; rfl
      have K2 := HA.out.weigh HK.out (s : Int) nn
      rw [hf, hz] at K2
      unfold chk at K2
      clear hz hf
      go_wp2_with fail
      refine K1.mono ?_
      rintro e y ⟨rfl, rfl⟩
      go_wp2_with fail
      refine K2.mono ?_
      rintro e w2 ⟨rfl, h2⟩
      have H2 : Hid (_) := HG.out _ _ _ h2 HK.out
      clear h2
      go_wp2_with fail
      go_ret
      exact ⟨rfl, H2.out⟩
    · have hn0 : decide (nn < 0) = false := decide_eq_false n0
      by_cases n7 : 7 < nn
      · have hwg : wgt nn = false := decide_eq_false (by omega)
        have hn7 : decide (7 < nn) = true := decide_eq_true n7
        have hf : weiF (s : Int) nn = false := by unfold weiF; rw [hp, hwg]; rfl
        have hz : weiP z (s : Int) nn = z := by unfold weiP weiF; rw [hp, hwg]; rfl
        have K2 := HA.out.weigh HK.out (s : Int) nn
        rw [hf, hz] at K2
        unfold chk at K2
        clear hz hf
        go_wp2_with fail
        refine K1.mono ?_
        rintro e y ⟨rfl, rfl⟩
        go_wp2_with fail
        refine K2.mono ?_
        rintro e w2 ⟨rfl, h2⟩
        have H2 : Hid (_) := HG.out _ _ _ h2 HK.out
        clear h2
        go_wp2_with fail
        go_ret
        exact ⟨rfl, H2.out⟩
      · have hn7 : decide (7 < nn) = false := decide_eq_false n7
        have hwg : wgt nn = true := decide_eq_true (by omega)
        have hs17 : (s : Int) < 17 := by omega
        have cc := HA.out.px.rs.cW s (by omega)
        have ff := HA.out.px.rs.f (1 + s * 7 + 2)
        have lc := HA.out.px.rs.lt
        have H1 : Hid (_) := HA.out.putW s (by omega) nn
        have HS : Hid (1 ≤ s ∧ s < 17) := ⟨s1, by omega⟩
        have hf : weiF (s : Int) nn = true := by unfold weiF; rw [hp, hwg]; rfl
        go_wp2_with fail
        refine K1.mono ?_
        rintro e y ⟨rfl, rfl⟩
        go_wp2_with fail
        go_region
        have H1' : Hid (_) := H1.out.drew
        have d2 := H1'.out.c2
        have d3 := H1'.out.c3
        have lq := H1'.out.lt
        have K2 := H1'.out.weigh HK.out (s : Int) nn
        rw [hf, weiP_at z s nn HS.out.1 HS.out.2 hwg] at K2
        unfold chk at K2
        clear H1 c0 c1 c2 c3 c4 cc ff lc
        rw [hso] at d2
        rw [hnn] at d3
        generalize (y.setCell ⟨c, 1 + s * 7 + 2, none⟩ (.int .i64 nn)).drew = x2 at *
        go_wp2_with fail
        refine K2.mono ?_
        rintro e w2 ⟨rfl, h2⟩
        have H2 : Hid (_) := HG.out _ _ _ h2 ((fun k => ⟨k.n1, k.n4, k.p0, k.t⟩ : Ok z → Ok (z.setW s nn)) HK.out)
        clear h2
        go_wp2_with fail
        go_ret
        exact ⟨rfl, H2.out⟩
set_option maxHeartbeats 6400000 in
theorem does_k3 {w0 w : World} {b c : Nat} {z : Z} (h : PX w0 w b c z z) (k : Ok z) (x : Ac) (hk : x.kd = 3) : Calls Try.prog 10 #[.pointer (some ⟨b, 0, none⟩), .pointer (some ⟨c, 0, none⟩), .agg (acA x)] w fun e w' => e = .returned (.bool true) ∧ ∃ T, PX w0 w' b c T T ∧ Ok T := by
  have HA : Hid (_) := h.act x
  have HK : Hid (Ok z) := k
  clear h k
  have HG : Hid (∀ (T : Z) (W : World) (q : Nat), PA w0 W b c q x T T → Ok T → ∃ T, PX w0 W b c T T ∧ Ok T) := fun T W q p o => ⟨T, p.px, o⟩
  have HL : Hid (∃ y, w.alloc (.cells (acA x) 33) = y ∧ PA w0 y b c w.heap.size x z z) := ⟨_, rfl, HA.out⟩
  clear HA
  go_enter Try.func10, Try.ntmps10
  go_upto_region 1 with fail
  obtain ⟨y, hy, HA0⟩ := HL.out
  rw [hy]
  have HA : Hid (_) := HA0
  have c0 := HA0.c0
  have c1 := HA0.c1
  have c2 := HA0.c2
  have c3 := HA0.c3
  have c4 := HA0.c4
  have lq := HA0.lt
  rw [hk] at c0
  clear HL hy HA0
  generalize w.heap.size = q at *
  obtain ⟨vc, hvc⟩ : ∃ vc, x.vc = vc := ⟨_, rfl⟩
  obtain ⟨so, hso⟩ : ∃ so, x.so = so := ⟨_, rfl⟩
  obtain ⟨nn, hnn⟩ : ∃ nn, x.nn = nn := ⟨_, rfl⟩
  obtain ⟨on, hon⟩ : ∃ on, x.on = on := ⟨_, rfl⟩
  rw [hvc] at c1
  rw [hso] at c2
  rw [hnn] at c3
  rw [hon] at c4
  obtain ⟨p, hp⟩ : ∃ p, hasV z vc = p := ⟨_, rfl⟩
  have K1 := rhas_is HA.out.px.rs vc
  rw [hp] at K1
  cases p
  · have hf : barF z vc nn = false := by unfold barF; rw [hp]; rfl
    have hz : barP z vc nn = z := by unfold barP barF; rw [hp]; rfl
    have K2 := HA.out.bar HK.out vc nn
    rw [hf, hz] at K2
    unfold chk at K2
    clear hz hf
    go_wp2_with fail
    refine K1.mono ?_
    rintro e y ⟨rfl, rfl⟩
    go_wp2_with fail
    refine K2.mono ?_
    rintro e w2 ⟨rfl, h2⟩
    have H2 : Hid (_) := HG.out _ _ _ h2 HK.out
    clear h2
    go_wp2_with fail
    go_ret
    exact ⟨rfl, H2.out⟩
  · obtain ⟨v, rfl, v1, v2⟩ := has_nat HK.out hp
    by_cases n0 : nn < 0
    · have hwg : wgt nn = false := decide_eq_false (by omega)
      have hn0 : decide (nn < 0) = true := decide_eq_true n0
      have hf : barF z (v : Int) nn = false := by unfold barF; rw [hp, hwg]; rfl
      have hz : barP z (v : Int) nn = z := by unfold barP barF; rw [hp, hwg]; rfl
      have K2 := HA.out.bar HK.out (v : Int) nn
      rw [hf, hz] at K2
      unfold chk at K2
      clear hz hf
      go_wp2_with fail
      refine K1.mono ?_
      rintro e y ⟨rfl, rfl⟩
      go_wp2_with fail
      refine K2.mono ?_
      rintro e w2 ⟨rfl, h2⟩
      have H2 : Hid (_) := HG.out _ _ _ h2 HK.out
      clear h2
      go_wp2_with fail
      go_ret
      exact ⟨rfl, H2.out⟩
    · have hn0 : decide (nn < 0) = false := decide_eq_false n0
      by_cases n7 : 7 < nn
      · have hwg : wgt nn = false := decide_eq_false (by omega)
        have hn7 : decide (7 < nn) = true := decide_eq_true n7
        have hf : barF z (v : Int) nn = false := by unfold barF; rw [hp, hwg]; rfl
        have hz : barP z (v : Int) nn = z := by unfold barP barF; rw [hp, hwg]; rfl
        have K2 := HA.out.bar HK.out (v : Int) nn
        rw [hf, hz] at K2
        unfold chk at K2
        clear hz hf
        go_wp2_with fail
        refine K1.mono ?_
        rintro e y ⟨rfl, rfl⟩
        go_wp2_with fail
        refine K2.mono ?_
        rintro e w2 ⟨rfl, h2⟩
        have H2 : Hid (_) := HG.out _ _ _ h2 HK.out
        clear h2
        go_wp2_with fail
        go_ret
        exact ⟨rfl, H2.out⟩
      · have hn7 : decide (7 < nn) = false := decide_eq_false n7
        have hwg : wgt nn = true := decide_eq_true (by omega)
        have hv4 : (v : Int) < 4 := by omega
        have cc := HA.out.px.rs.cB v v1
        have ff := HA.out.px.rs.f (120 + v)
        have lc := HA.out.px.rs.lt
        have H1 : Hid (_) := HA.out.putB v v1 nn
        have HV : Hid (v < z.n) := v2
        have hf : barF z (v : Int) nn = true := by unfold barF; rw [hp, hwg]; rfl
        go_wp2_with fail
        refine K1.mono ?_
        rintro e y ⟨rfl, rfl⟩
        go_wp2_with fail
        go_region
        have H1' : Hid (_) := H1.out.drew
        have d2 := H1'.out.c1
        have d3 := H1'.out.c3
        have lq := H1'.out.lt
        have K2 := H1'.out.bar HK.out (v : Int) nn
        rw [hf, barP_at z v nn HV.out hwg] at K2
        unfold chk at K2
        clear H1 c0 c1 c2 c3 c4 cc ff lc
        rw [hvc] at d2
        rw [hnn] at d3
        generalize (y.setCell ⟨c, 120 + v, none⟩ (.int .i64 nn)).drew = x2 at *
        go_wp2_with fail
        refine K2.mono ?_
        rintro e w2 ⟨rfl, h2⟩
        have H2 : Hid (_) := HG.out _ _ _ h2 ((fun k => ⟨k.n1, k.n4, k.p0, k.t⟩ : Ok z → Ok (z.setB v nn)) HK.out)
        clear h2
        go_wp2_with fail
        go_ret
        exact ⟨rfl, H2.out⟩
set_option maxHeartbeats 6400000 in
theorem does_k4 {w0 w : World} {b c : Nat} {z : Z} (h : PX w0 w b c z z) (k : Ok z) (x : Ac) (hk : x.kd = 4) : Calls Try.prog 10 #[.pointer (some ⟨b, 0, none⟩), .pointer (some ⟨c, 0, none⟩), .agg (acA x)] w fun e w' => e = .returned (.bool true) ∧ ∃ T, PX w0 w' b c T T ∧ Ok T := by
  have HA : Hid (_) := h.act x
  have HK : Hid (Ok z) := k
  clear h k
  have HG : Hid (∀ (T : Z) (W : World) (q : Nat), PA w0 W b c q x T T → Ok T → ∃ T, PX w0 W b c T T ∧ Ok T) := fun T W q p o => ⟨T, p.px, o⟩
  have HL : Hid (∃ y, w.alloc (.cells (acA x) 33) = y ∧ PA w0 y b c w.heap.size x z z) := ⟨_, rfl, HA.out⟩
  clear HA
  go_enter Try.func10, Try.ntmps10
  go_upto_region 1 with fail
  obtain ⟨y, hy, HA0⟩ := HL.out
  rw [hy]
  have HA : Hid (_) := HA0
  have c0 := HA0.c0
  have c1 := HA0.c1
  have c2 := HA0.c2
  have c3 := HA0.c3
  have c4 := HA0.c4
  have lq := HA0.lt
  rw [hk] at c0
  clear HL hy HA0
  generalize w.heap.size = q at *
  obtain ⟨vc, hvc⟩ : ∃ vc, x.vc = vc := ⟨_, rfl⟩
  obtain ⟨so, hso⟩ : ∃ so, x.so = so := ⟨_, rfl⟩
  obtain ⟨nn, hnn⟩ : ∃ nn, x.nn = nn := ⟨_, rfl⟩
  obtain ⟨on, hon⟩ : ∃ on, x.on = on := ⟨_, rfl⟩
  rw [hvc] at c1
  rw [hso] at c2
  rw [hnn] at c3
  rw [hon] at c4
  obtain ⟨a1, hz1⟩ : ∃ a, claK z vc = a := ⟨_, rfl⟩
  obtain ⟨a2, hz3⟩ : ∃ a, chk (hasV z vc) = a := ⟨_, rfl⟩
  obtain ⟨z1, hz2⟩ : ∃ z1, claP z vc = z1 := ⟨_, rfl⟩
  have K1 := HA.out.claim HK.out vc
  have HO : Hid (Ok z1) := by rw [← hz2]; exact claP_ok HK.out vc
  rw [hz1, hz2, hz3] at K1
  go_wp2_with fail
  refine K1.mono ?_
  rintro e y1 ⟨rfl, h1⟩
  have K2 := h1.rclaim HK.out vc
  rw [hz1, hz2, hz3] at K2
  have d1 := h1.c1
  rw [hvc] at d1
  have lq := h1.lt
  clear h1 K1 HA
  go_wp2_with fail
  refine K2.mono ?_
  rintro e y2 ⟨rfl, h2⟩
  have H2 : Hid (_) := HG.out _ _ _ h2 HO.out
  clear h2
  go_wp2_with fail
  go_ret
  exact ⟨rfl, H2.out⟩
set_option maxHeartbeats 6400000 in
theorem does_k5 {w0 w : World} {b c : Nat} {z : Z} (h : PX w0 w b c z z) (k : Ok z) (x : Ac) (hk : x.kd = 5) : Calls Try.prog 10 #[.pointer (some ⟨b, 0, none⟩), .pointer (some ⟨c, 0, none⟩), .agg (acA x)] w fun e w' => e = .returned (.bool true) ∧ ∃ T, PX w0 w' b c T T ∧ Ok T := by
  have HA : Hid (_) := h.act x
  have HK : Hid (Ok z) := k
  clear h k
  have HG : Hid (∀ (T : Z) (W : World) (q : Nat), PA w0 W b c q x T T → Ok T → ∃ T, PX w0 W b c T T ∧ Ok T) := fun T W q p o => ⟨T, p.px, o⟩
  have HL : Hid (∃ y, w.alloc (.cells (acA x) 33) = y ∧ PA w0 y b c w.heap.size x z z) := ⟨_, rfl, HA.out⟩
  clear HA
  go_enter Try.func10, Try.ntmps10
  go_upto_region 1 with fail
  obtain ⟨y, hy, HA0⟩ := HL.out
  rw [hy]
  have HA : Hid (_) := HA0
  have c0 := HA0.c0
  have c1 := HA0.c1
  have c2 := HA0.c2
  have c3 := HA0.c3
  have c4 := HA0.c4
  have lq := HA0.lt
  rw [hk] at c0
  clear HL hy HA0
  generalize w.heap.size = q at *
  obtain ⟨vc, hvc⟩ : ∃ vc, x.vc = vc := ⟨_, rfl⟩
  obtain ⟨so, hso⟩ : ∃ so, x.so = so := ⟨_, rfl⟩
  obtain ⟨nn, hnn⟩ : ∃ nn, x.nn = nn := ⟨_, rfl⟩
  obtain ⟨on, hon⟩ : ∃ on, x.on = on := ⟨_, rfl⟩
  rw [hvc] at c1
  rw [hso] at c2
  rw [hnn] at c3
  rw [hon] at c4
  obtain ⟨a1, hz1⟩ : ∃ a, comE z vc so = a := ⟨_, rfl⟩
  obtain ⟨z1, hz2⟩ : ∃ z1, comP z vc so = z1 := ⟨_, rfl⟩
  have C1 := HA.out.drew.complete HK.out vc so
  have HO : Hid (Ok z1) := by rw [← hz2]; exact comP_ok HK.out vc so
  rw [hz1, hz2] at C1
  have e1 : (fun w' : World => w'.cell? ⟨q, 1, none⟩ = some (.int .i64 vc) ∧ w'.cell? ⟨q, 2, none⟩ = some (.int .i64 so)) y.drew := ⟨(HA.out.drew.c1).trans (by rw [hvc]), (HA.out.drew.c2).trans (by rw [hso])⟩
  go_wp2_with fail
  go_region_held2 (fun w' => w'.cell? ⟨q, 1, none⟩ = some (.int .i64 vc) ∧ w'.cell? ⟨q, 2, none⟩ = some (.int .i64 so)) (first | exact e1 | exact e2 | exact e3)
    (first
      | (go_at_call 21; refine C1.mono ?_; rintro e y1 ⟨rfl, hY1⟩; (have e2 : (fun w' : World => w'.cell? ⟨q, 1, none⟩ = some (.int .i64 vc) ∧ w'.cell? ⟨q, 2, none⟩ = some (.int .i64 so)) y1 := ⟨(hY1.c1).trans (by rw [hvc]), (hY1.c2).trans (by rw [hso])⟩); (have C2 := hY1.rcomplete HK.out vc so); rw [hz1, hz2] at C2)
      | (go_at_call 26; refine C2.mono ?_; rintro e y2 ⟨rfl, hY2⟩; (have e3 : (fun w' : World => w'.cell? ⟨q, 1, none⟩ = some (.int .i64 vc) ∧ w'.cell? ⟨q, 2, none⟩ = some (.int .i64 so)) y2 := ⟨(hY2.c1).trans (by rw [hvc]), (hY2.c2).trans (by rw [hso])⟩)))
  have H2 : Hid (_) := HG.out _ _ _ hY2 HO.out
  clear hY2
  go_wp2_with fail
  go_ret
  exact ⟨rfl, H2.out⟩
set_option maxHeartbeats 6400000 in
theorem does_k6 {w0 w : World} {b c : Nat} {z : Z} (h : PX w0 w b c z z) (k : Ok z) (x : Ac) (hk : x.kd = 6) : Calls Try.prog 10 #[.pointer (some ⟨b, 0, none⟩), .pointer (some ⟨c, 0, none⟩), .agg (acA x)] w fun e w' => e = .returned (.bool true) ∧ ∃ T, PX w0 w' b c T T ∧ Ok T := by
  have HA : Hid (_) := h.act x
  have HK : Hid (Ok z) := k
  clear h k
  have HG : Hid (∀ (T : Z) (W : World) (q : Nat), PA w0 W b c q x T T → Ok T → ∃ T, PX w0 W b c T T ∧ Ok T) := fun T W q p o => ⟨T, p.px, o⟩
  have HL : Hid (∃ y, w.alloc (.cells (acA x) 33) = y ∧ PA w0 y b c w.heap.size x z z) := ⟨_, rfl, HA.out⟩
  clear HA
  go_enter Try.func10, Try.ntmps10
  go_upto_region 1 with fail
  obtain ⟨y, hy, HA0⟩ := HL.out
  rw [hy]
  have HA : Hid (_) := HA0
  have c0 := HA0.c0
  have c1 := HA0.c1
  have c2 := HA0.c2
  have c3 := HA0.c3
  have c4 := HA0.c4
  have lq := HA0.lt
  rw [hk] at c0
  clear HL hy HA0
  generalize w.heap.size = q at *
  obtain ⟨vc, hvc⟩ : ∃ vc, x.vc = vc := ⟨_, rfl⟩
  obtain ⟨so, hso⟩ : ∃ so, x.so = so := ⟨_, rfl⟩
  obtain ⟨nn, hnn⟩ : ∃ nn, x.nn = nn := ⟨_, rfl⟩
  obtain ⟨on, hon⟩ : ∃ on, x.on = on := ⟨_, rfl⟩
  rw [hvc] at c1
  rw [hso] at c2
  rw [hnn] at c3
  rw [hon] at c4
  obtain ⟨p, hp⟩ : ∃ p, hasV z vc = p := ⟨_, rfl⟩
  have K1 := rhas_is HA.out.px.rs vc
  rw [hp] at K1
  cases p
  · have hf : hasV z vc = false := by exact hp
    have hz : pokP z vc = z := by unfold pokP; rw [hp]; rfl
    have K2 := HA.out.poke HK.out vc
    rw [hf, hz] at K2
    unfold chk at K2
    clear hz hf
    go_wp2_with fail
    refine K1.mono ?_
    rintro e y ⟨rfl, rfl⟩
    go_wp2_with fail
    refine K2.mono ?_
    rintro e w2 ⟨rfl, h2⟩
    have H2 : Hid (_) := HG.out _ _ _ h2 HK.out
    clear h2
    go_wp2_with fail
    go_ret
    exact ⟨rfl, H2.out⟩
  · obtain ⟨v, rfl, v1, v2⟩ := has_nat HK.out hp
    have hv4 : (v : Int) < 4 := by omega
    have cc := HA.out.px.rs.cS v v1
    have ff := HA.out.px.rs.f (124 + v)
    have lc := HA.out.px.rs.lt
    have H1 : Hid (_) := HA.out.putS v v1 true
    have hz : pokP z (v : Int) = z.setS v true := by unfold pokP; rw [hp, if_pos rfl, Int.toNat_natCast]
    go_wp2_with fail
    refine K1.mono ?_
    rintro e y ⟨rfl, rfl⟩
    go_wp2_with fail
    go_region
    have H1' : Hid (_) := H1.out.drew
    have d1 := H1'.out.c1
    have lq := H1'.out.lt
    have K2 := H1'.out.poke HK.out (v : Int)
    rw [hp, hz] at K2
    unfold chk at K2
    clear H1 c0 c1 c2 c3 c4 cc ff lc
    rw [hvc] at d1
    generalize (y.setCell ⟨c, 124 + v, none⟩ (.bool true)).drew = x2 at *
    go_wp2_with fail
    refine K2.mono ?_
    rintro e w2 ⟨rfl, h2⟩
    have H2 : Hid (_) := HG.out _ _ _ h2 ((fun k => ⟨k.n1, k.n4, k.p0, k.t⟩ : Ok z → Ok (z.setS v true)) HK.out)
    clear h2
    go_wp2_with fail
    go_ret
    exact ⟨rfl, H2.out⟩
set_option maxHeartbeats 6400000 in
theorem does_k7 {w0 w : World} {b c : Nat} {z : Z} (h : PX w0 w b c z z) (k : Ok z) (x : Ac) (hk : x.kd = 7) : Calls Try.prog 10 #[.pointer (some ⟨b, 0, none⟩), .pointer (some ⟨c, 0, none⟩), .agg (acA x)] w fun e w' => e = .returned (.bool true) ∧ ∃ T, PX w0 w' b c T T ∧ Ok T := by
  have HA : Hid (_) := h.act x
  have HK : Hid (Ok z) := k
  clear h k
  have HG : Hid (∀ (T : Z) (W : World) (q : Nat), PA w0 W b c q x T T → Ok T → ∃ T, PX w0 W b c T T ∧ Ok T) := fun T W q p o => ⟨T, p.px, o⟩
  have HL : Hid (∃ y, w.alloc (.cells (acA x) 33) = y ∧ PA w0 y b c w.heap.size x z z) := ⟨_, rfl, HA.out⟩
  clear HA
  go_enter Try.func10, Try.ntmps10
  go_upto_region 1 with fail
  obtain ⟨y, hy, HA0⟩ := HL.out
  rw [hy]
  have HA : Hid (_) := HA0
  have c0 := HA0.c0
  have c1 := HA0.c1
  have c2 := HA0.c2
  have c3 := HA0.c3
  have c4 := HA0.c4
  have lq := HA0.lt
  rw [hk] at c0
  clear HL hy HA0
  generalize w.heap.size = q at *
  obtain ⟨vc, hvc⟩ : ∃ vc, x.vc = vc := ⟨_, rfl⟩
  obtain ⟨so, hso⟩ : ∃ so, x.so = so := ⟨_, rfl⟩
  obtain ⟨nn, hnn⟩ : ∃ nn, x.nn = nn := ⟨_, rfl⟩
  obtain ⟨on, hon⟩ : ∃ on, x.on = on := ⟨_, rfl⟩
  rw [hvc] at c1
  rw [hso] at c2
  rw [hnn] at c3
  rw [hon] at c4
  obtain ⟨p, hp⟩ : ∃ p, hasV z vc = p := ⟨_, rfl⟩
  have K1 := rhas_is HA.out.px.rs vc
  rw [hp] at K1
  cases p
  · have hb : sofB z vc = false := by unfold sofB; rw [hp]; rfl
    have hz : sofP z vc = z := by unfold sofP; rw [hp]; rfl
    have K2 := HA.out.soft HK.out vc
    rw [hb, hz] at K2
    clear hz hb
    go_wp2_with fail
    refine K1.mono ?_
    rintro e y ⟨rfl, rfl⟩
    go_wp2_with fail
    refine K2.mono ?_
    rintro e w2 ⟨rfl, h2⟩
    have H2 : Hid (_) := HG.out _ _ _ h2 HK.out
    clear h2
    go_wp2_with fail
    go_ret
    exact ⟨rfl, H2.out⟩
  · obtain ⟨v, rfl, v1, v2⟩ := has_nat HK.out hp
    have hv4 : (v : Int) < 4 := by omega
    have cc := HA.out.px.rs.cS v v1
    have lc := HA.out.px.rs.lt
    have HV : Hid (v < 4) := v1
    have hz : sofP z (v : Int) = z.setS v false := by unfold sofP; rw [hp, if_pos rfl, Int.toNat_natCast]
    have hb : sofB z (v : Int) = z.S v := by unfold sofB; rw [hp, Int.toNat_natCast]; rfl
    obtain ⟨sv, hsv⟩ : ∃ sv, z.S v = sv := ⟨_, rfl⟩
    rw [hsv] at cc hb
    go_wp2_with fail
    refine K1.mono ?_
    rintro e y ⟨rfl, rfl⟩
    go_wp2_with fail
    go_quiet (fail)
    have HA1 : Hid (_) := HA.out.below (below_drewN (Below.refl _ _) nq)
    clear HA c0 c1 c2 c3 c4 cc lc lq
    generalize y.drewN nq = x1 at *
    have c1 := HA1.out.c1
    rw [hvc] at c1
    have lq := HA1.out.lt
    have cc := HA1.out.px.rs.cS v HV.out
    have ff := HA1.out.px.rs.f (124 + v)
    have lc := HA1.out.px.rs.lt
    have H1 : Hid (_) := HA1.out.putS v HV.out false
    go_wp2_with fail
    go_region
    have H1' : Hid (_) := H1.out.drew
    have d1 := H1'.out.c1
    have lq := H1'.out.lt
    have K2 := H1'.out.soft HK.out (v : Int)
    rw [hb, hz] at K2
    clear H1 c1 cc ff lc HA1
    rw [hvc] at d1
    generalize (x1.setCell ⟨c, 124 + v, none⟩ (.bool false)).drew = x2 at *
    go_wp2_with fail
    refine K2.mono ?_
    rintro e w2 ⟨rfl, h2⟩
    have H2 : Hid (_) := HG.out _ _ _ h2 ((fun k => ⟨k.n1, k.n4, k.p0, k.t⟩ : Ok z → Ok (z.setS v false)) HK.out)
    clear h2
    go_wp2_with fail
    go_ret
    exact ⟨rfl, H2.out⟩
set_option maxHeartbeats 6400000 in
theorem does_o {w0 w : World} {b c : Nat} {z : Z} (h : PX w0 w b c z z) (k : Ok z) (x : Ac) (n : ∀ i : Nat, i < 8 → x.kd ≠ i) : Calls Try.prog 10 #[.pointer (some ⟨b, 0, none⟩), .pointer (some ⟨c, 0, none⟩), .agg (acA x)] w fun e w' => e = .returned (.bool true) ∧ ∃ T, PX w0 w' b c T T ∧ Ok T := by
  have HA : Hid (_) := h.act x
  have HK : Hid (Ok z) := k
  clear h k
  have c0 := HA.out.c0
  have lq := HA.out.lt
  have H2 : Hid (∃ T, PX w0 (w.alloc (.cells (acA x) 33)) b c T T ∧ Ok T) := ⟨_, HA.out.px, HK.out⟩
  have m0 : (x.kd == 0) = false := by have := n 0 (by decide); simp; omega
  have m1 : (x.kd == 1) = false := by have := n 1 (by decide); simp; omega
  have m2 : (x.kd == 2) = false := by have := n 2 (by decide); simp; omega
  have m3 : (x.kd == 3) = false := by have := n 3 (by decide); simp; omega
  have m4 : (x.kd == 4) = false := by have := n 4 (by decide); simp; omega
  have m5 : (x.kd == 5) = false := by have := n 5 (by decide); simp; omega
  have m6 : (x.kd == 6) = false := by have := n 6 (by decide); simp; omega
  have m7 : (x.kd == 7) = false := by have := n 7 (by decide); simp; omega
  clear n HA
  generalize x.kd = kd at *
  go_enter Try.func10, Try.ntmps10
  go_upto_region 1 with fail
  generalize w.heap.size = q at *
  generalize w.alloc (.cells (acA x) 33) = y at *
  go_wp2_with fail
  go_ret
  exact ⟨rfl, H2.out⟩
theorem does_any {w0 w : World} {b c : Nat} {z : Z} (h : PX w0 w b c z z) (k : Ok z) (x : Ac) : Calls Try.prog 10 #[.pointer (some ⟨b, 0, none⟩), .pointer (some ⟨c, 0, none⟩), .agg (acA x)] w fun e w' => e = .returned (.bool true) ∧ ∃ T, PX w0 w' b c T T ∧ Ok T := by
  by_cases n : ∀ i : Nat, i < 8 → x.kd ≠ i
  · exact does_o h k x n
  · by_cases h0 : x.kd = 0; exact does_k0 h k x h0
    by_cases h1 : x.kd = 1; exact does_k1 h k x h1
    by_cases h2 : x.kd = 2; exact does_k2 h k x h2
    by_cases h3 : x.kd = 3; exact does_k3 h k x h3
    by_cases h4 : x.kd = 4; exact does_k4 h k x h4
    by_cases h5 : x.kd = 5; exact does_k5 h k x h5
    by_cases h6 : x.kd = 6; exact does_k6 h k x h6
    by_cases h7 : x.kd = 7; exact does_k7 h k x h7
    exact absurd (fun i hi => by omega) n
end Go.Proofs.Ytncjhdhfhojohaa
