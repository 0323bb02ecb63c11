/-
  The walk of VintcOnce.
-/
import Derived.Test.YtncjhdhfhojohaaOn
namespace Go.Proofs.Ytncjhdhfhojohaa
open Go.RowKit
set_option linter.unusedVariables false
set_option maxRecDepth 100000
theorem bits_lo (x m : Int) (k : Nat) (hk : (BitVec.ofInt 64 m).toNat = k) (hb : k < 9223372036854775808) : ∃ i : Nat, i ≤ k ∧ bits .and .i64 x m = (i : Int) := and_low x m k hk hb
theorem tmod_lo (k n : Nat) (h : 1 ≤ n) : ∃ v : Nat, v < n ∧ (k : Int).tmod n = v := ⟨k % n, Nat.mod_lt _ (by omega), rfl⟩
theorem has_at (z : Z) (v : Nat) (h : v < z.n) : hasV z v = true := decide_eq_true (by omega)
set_option maxHeartbeats 12800000 in
theorem owalk (vn : Int) (ad : Option Addr) (len cap : Nat) (w : World) (hK : ActsIn w ad len) (hl : (len : Int) ≤ 9223372036854775807) : Calls Try.prog 5 #[.int .i64 vn, .slice ad len cap] w fun e w' => e = .returned (.bool true) ∧ Below w.heap.size w w' := by
  obtain ⟨k0, hk0, hk⟩ := bits_lo vn 3 3 (by decide) (by decide)
  obtain ⟨n, hn⟩ : ∃ n : Nat, (1 : Int) + k0 = n := ⟨1 + k0, by omega⟩
  have C1 := new_is n (by omega) (by omega) w
  have HNN : Hid (1 ≤ n ∧ n ≤ 4) := ⟨by omega, by omega⟩
  have HK : Hid (ActsIn w ad len) := hK
  clear hK
  go_enter Try.func5, Try.ntmps5
  go_wp2_with fail
  refine C1.mono ?_
  rintro e w1 ⟨rfl, h1, b1⟩
  have HL : Hid (w.heap.size < w1.heap.size) := h1.lt
  have H0 : Hid (∃ y, (((w1.alloc (.cells #[.int .i64 0, .int .i64 0, .int .i64 0, .int .i64 0, .int .i64 0, .int .i64 0, .int .i64 0, .int .i64 0, .int .i64 0, .int .i64 0, .int .i64 0, .int .i64 0, .int .i64 0, .int .i64 0, .int .i64 0, .int .i64 0, .int .i64 0] 58)).alloc (.cells #[.int .i64 0, .int .i64 0, .int .i64 0, .int .i64 0, .int .i64 0, .int .i64 0, .int .i64 0, .int .i64 0, .int .i64 0, .int .i64 0, .int .i64 0, .int .i64 0, .int .i64 0, .int .i64 0, .int .i64 0, .int .i64 0, .int .i64 0] 58)).alloc (.cells #[.int .i64 0, .int .i64 0, .int .i64 0, .int .i64 0, .int .i64 0, .int .i64 0, .int .i64 0, .int .i64 0, .int .i64 0, .int .i64 0, .int .i64 0, .int .i64 0, .int .i64 0, .int .i64 0, .int .i64 0, .int .i64 0, .int .i64 0] 58)) = y ∧ OM w y w.heap.size w1.heap.size (w1.heap.size + 1) (w1.heap.size + 1 + 1) (nz n 17) (fun _ => 0) (fun _ => 0) (fun _ => 0)) := by
    have hl := h1.lt
    have a1 := ar_new w1
    have c1 := below_box w1 (.cells #[.int .i64 0, .int .i64 0, .int .i64 0, .int .i64 0, .int .i64 0, .int .i64 0, .int .i64 0, .int .i64 0, .int .i64 0, .int .i64 0, .int .i64 0, .int .i64 0, .int .i64 0, .int .i64 0, .int .i64 0, .int .i64 0, .int .i64 0] 58)
    have z1 : (w1.alloc (.cells #[.int .i64 0, .int .i64 0, .int .i64 0, .int .i64 0, .int .i64 0, .int .i64 0, .int .i64 0, .int .i64 0, .int .i64 0, .int .i64 0, .int .i64 0, .int .i64 0, .int .i64 0, .int .i64 0, .int .i64 0, .int .i64 0, .int .i64 0] 58)).heap.size = w1.heap.size + 1 := by simp
    generalize w1.alloc (.cells #[.int .i64 0, .int .i64 0, .int .i64 0, .int .i64 0, .int .i64 0, .int .i64 0, .int .i64 0, .int .i64 0, .int .i64 0, .int .i64 0, .int .i64 0, .int .i64 0, .int .i64 0, .int .i64 0, .int .i64 0, .int .i64 0, .int .i64 0] 58) = y1 at *
    have a2 := ar_new y1
    have c2 := below_box y1 (.cells #[.int .i64 0, .int .i64 0, .int .i64 0, .int .i64 0, .int .i64 0, .int .i64 0, .int .i64 0, .int .i64 0, .int .i64 0, .int .i64 0, .int .i64 0, .int .i64 0, .int .i64 0, .int .i64 0, .int .i64 0, .int .i64 0, .int .i64 0] 58)
    have z2 : (y1.alloc (.cells #[.int .i64 0, .int .i64 0, .int .i64 0, .int .i64 0, .int .i64 0, .int .i64 0, .int .i64 0, .int .i64 0, .int .i64 0, .int .i64 0, .int .i64 0, .int .i64 0, .int .i64 0, .int .i64 0, .int .i64 0, .int .i64 0, .int .i64 0] 58)).heap.size = y1.heap.size + 1 := by simp
    rw [z1] at a2 z2
    generalize y1.alloc (.cells #[.int .i64 0, .int .i64 0, .int .i64 0, .int .i64 0, .int .i64 0, .int .i64 0, .int .i64 0, .int .i64 0, .int .i64 0, .int .i64 0, .int .i64 0, .int .i64 0, .int .i64 0, .int .i64 0, .int .i64 0, .int .i64 0, .int .i64 0] 58) = y2 at *
    have a3 := ar_new y2
    have c3 := below_box y2 (.cells #[.int .i64 0, .int .i64 0, .int .i64 0, .int .i64 0, .int .i64 0, .int .i64 0, .int .i64 0, .int .i64 0, .int .i64 0, .int .i64 0, .int .i64 0, .int .i64 0, .int .i64 0, .int .i64 0, .int .i64 0, .int .i64 0, .int .i64 0] 58)
    rw [z2] at a3
    have e1 := h1.below c1
    have e2 := e1.below c2
    have e3 := e2.below c3
    exact ⟨_, rfl, ((b1.trans (c1.mono (by omega))).trans (c2.mono (by omega))).trans (c3.mono (by omega)), e3, (a1.below c2).below c3, a2.below c3, a3, ⟨by omega, by omega, by omega, by omega⟩, ⟨by omega, by omega, by omega⟩⟩
  clear C1 h1 b1
  go_wp2_with fail
  obtain ⟨y, hy, hOM⟩ := H0.out
  clear H0
  rw [hy]
  generalize w1.heap.size = g at *
  have H1 : Hid (_) := hOM
  clear hOM hy HL
  go_loopw [10] (fun q wr => ∃ j : Nat, j ≤ len ∧ q = .int .i64 j ∧ ∃ z r h t, Hid (OM w wr w.heap.size g (g + 1) (g + 1 + 1) z r h t ∧ Cn z n r h t j)) (fun q _ => len - (intOf q).toNat)
  case atStart => exact ⟨0, by omega, rfl, _, _, _, _, H1.out, cn_new n HNN.out.1 HNN.out.2⟩
  case round =>
    obtain ⟨j, hj, rfl, z, r, h, t, HJ⟩ := hrel
    clear H1
    by_cases hjn : j < len
    · have hjn' : (j : Int) < len := by omega
      have hj0 : (j : Int) < 9223372036854775807 := by omega
      obtain ⟨B, off, rfl, hB, x, hx, hA⟩ := HK.out.at hjn
      obtain ⟨a0, a1, a2, a3, a4⟩ := hA.below HJ.out.1.bel hB
      have lB : B < wr.heap.size := Nat.lt_of_lt_of_le hB HJ.out.1.bel.size
      have HX : Hid (∃ y, wr.alloc (.cells #[.int .i64 x.kd, .int .i64 x.vc, .int .i64 x.so, .int .i64 x.nn, .bool x.on] 33) = y ∧ OM w y w.heap.size g (g + 1) (g + 1 + 1) z r h t ∧ y.cell? ⟨wr.heap.size, 0, none⟩ = some (.int .i64 x.kd) ∧ y.cell? ⟨wr.heap.size, 1, none⟩ = some (.int .i64 x.vc) ∧ y.cell? ⟨wr.heap.size, 2, none⟩ = some (.int .i64 x.so) ∧ y.cell? ⟨wr.heap.size, 3, none⟩ = some (.int .i64 x.nn) ∧ y.cell? ⟨wr.heap.size, 4, none⟩ = some (.bool x.on) ∧ wr.heap.size < y.heap.size) := by
        have bx := below_box wr (.cells #[.int .i64 x.kd, .int .i64 x.vc, .int .i64 x.so, .int .i64 x.nn, .bool x.on] 33)
        have ax := heap_alloc_at wr (.cells #[.int .i64 x.kd, .int .i64 x.vc, .int .i64 x.so, .int .i64 x.nn, .bool x.on] 33)
        exact ⟨_, rfl, HJ.out.1.below bx, cell_at ax 0, cell_at ax 1, cell_at ax 2, cell_at ax 3, cell_at ax 4, by simp⟩
      have HC : Hid (Cn z n r h t j) := HJ.out.2
      obtain ⟨k1, hk1, hs0⟩ := bits_lo x.so 15 15 (by decide) (by decide)
      obtain ⟨s, hs1⟩ : ∃ s : Nat, (1 : Int) + k1 = s := ⟨1 + k1, by omega⟩
      obtain ⟨k2, hk2, hv0⟩ := bits_lo x.vc 3 3 (by decide) (by decide)
      obtain ⟨v, hv1, hv2⟩ := tmod_lo k2 n HNN.out.1
      have hn0 : ¬ (n : Int) = 0 := by have := HNN.out.1; omega
      have HS : Hid (1 ≤ s ∧ s < 17 ∧ v < n) := ⟨by omega, by omega, hv1⟩
      have hs17 : (s : Int) < 17 := by omega
      clear HJ hA hx hB hv1 hk1 hk2
      generalize x.kd = kd at *
      generalize x.vc = vc at *
      generalize x.so = so at *
      generalize x.nn = nn at *
      generalize x.on = on at *
      by_cases n0 : kd = 0
      · subst n0
        go_wp2_with fail
        obtain ⟨y, hy, om, d0, d1, d2, d3, d4, hg⟩ := HX.out
        rw [hy]
        have HO : Hid (_) := om
        clear HX hy om a0 a1 a2 a3 a4 lB
        generalize wr.heap.size = q at *
        go_quiet (fail)
        have d3 : (y.drewN nq).cell? ⟨q, 3, none⟩ = some (.int .i64 nn) := d3
        have d4 : (y.drewN nq).cell? ⟨q, 4, none⟩ = some (.bool on) := d4
        have hg : q < (y.drewN nq).heap.size := hg
        have d0 : (y.drewN nq).cell? ⟨q, 0, none⟩ = some (.int .i64 0) := d0
        have HO : Hid (OM w (y.drewN nq) w.heap.size g (g + 1) (g + 1 + 1) z r h t) := HO.out.below (below_drewN (Below.refl _ _) _)
        generalize y.drewN nq = x at *
        have K1 := raise_is HO.out.is HC.out.ok s
        rw [src_at s HS.out.1 HS.out.2.1, raiP_at _ _ HS.out.1 HS.out.2.1] at K1
        unfold chk at K1
        go_wp2_with fail
        refine K1.mono ?_
        rintro e w2 ⟨rfl, i2, t2⟩
        have H2 : Hid (_) := HO.out.call i2 t2
        have c1 := H2.out.a1.c s HS.out.2.1
        have f1 := H2.out.a1.fz s
        have l1 := H2.out.a1.lt
        have r1 := HC.out.rlo HS.out.1 HS.out.2.1
        have r2 := HC.out.r0 s
        have r3 : r s < 9223372036854775807 := by omega
        have HF : Hid (_) := H2.out.set1 s HS.out.2.1 (r s + 1)
        have HG : Hid (_) := HC.out.raise HS.out.1 HS.out.2.1
        clear i2 t2 K1 HO H2 HC
        generalize r s = rv at *
        go_wp2_with fail
        go_roundw
        case rel => exact ⟨j + 1, by omega, by go_num, _, _, _, _, HF.out, HG.out⟩
        case measure => simp [intOf]; omega
      · skip
        by_cases n1 : kd = 1
        · subst n1
          go_wp2_with fail
          obtain ⟨y, hy, om, d0, d1, d2, d3, d4, hg⟩ := HX.out
          rw [hy]
          have HO : Hid (_) := om
          clear HX hy om a0 a1 a2 a3 a4 lB
          generalize wr.heap.size = q at *
          go_quiet (fail)
          have d3 : (y.drewN nq).cell? ⟨q, 3, none⟩ = some (.int .i64 nn) := d3
          have d4 : (y.drewN nq).cell? ⟨q, 4, none⟩ = some (.bool on) := d4
          have hg : q < (y.drewN nq).heap.size := hg
          have d0 : (y.drewN nq).cell? ⟨q, 0, none⟩ = some (.int .i64 1) := d0
          have HO : Hid (OM w (y.drewN nq) w.heap.size g (g + 1) (g + 1 + 1) z r h t) := HO.out.below (below_drewN (Below.refl _ _) _)
          generalize y.drewN nq = x at *
          have K1 := enable_is HO.out.is HC.out.ok v s on
          have hE : enaF z v s = true := by unfold enaF; rw [src_at s HS.out.1 HS.out.2.1, has_at z v (by rw [HC.out.n]; exact HS.out.2.2)]; rfl
          rw [hE, enaP_at _ _ _ _ HS.out.1 HS.out.2.1 (by rw [HC.out.n]; exact HS.out.2.2)] at K1
          unfold chk at K1
          clear hE
          go_wp2_with fail
          refine K1.mono ?_
          rintro e w2 ⟨rfl, i2, t2⟩
          have H2 : Hid (_) := HO.out.call i2 t2
          have HG : Hid (_) := HC.out.same (z' := z.setE s v on) rfl rfl rfl
          clear i2 t2 K1 HO HC
          go_wp2_with fail
          go_roundw
          case rel => exact ⟨j + 1, by omega, by go_num, _, _, _, _, H2.out, HG.out⟩
          case measure => simp [intOf]; omega
        · skip
          by_cases n2 : kd = 2
          · subst n2
            go_wp2_with fail
            obtain ⟨y, hy, om, d0, d1, d2, d3, d4, hg⟩ := HX.out
            rw [hy]
            have HO : Hid (_) := om
            clear HX hy om a0 a1 a2 a3 a4 lB
            generalize wr.heap.size = q at *
            go_quiet (fail)
            have d3 : (y.drewN nq).cell? ⟨q, 3, none⟩ = some (.int .i64 nn) := d3
            have d4 : (y.drewN nq).cell? ⟨q, 4, none⟩ = some (.bool on) := d4
            have hg : q < (y.drewN nq).heap.size := hg
            have d0 : (y.drewN nq).cell? ⟨q, 0, none⟩ = some (.int .i64 2) := d0
            have HO : Hid (OM w (y.drewN nq) w.heap.size g (g + 1) (g + 1 + 1) z r h t) := HO.out.below (below_drewN (Below.refl _ _) _)
            generalize y.drewN nq = x at *
            have K1 := weigh_is HO.out.is HC.out.ok s (bits .and .i64 nn 7)
            have hE : weiF s (bits .and .i64 nn 7) = true := by unfold weiF; rw [src_at s HS.out.1 HS.out.2.1, and_wgt]; rfl
            rw [hE, weiP_at _ _ _ HS.out.1 HS.out.2.1 (and_wgt _)] at K1
            unfold chk at K1
            clear hE
            obtain ⟨b7, hb7⟩ : ∃ b, bits .and .i64 nn 7 = b := ⟨_, rfl⟩
            rw [hb7] at K1
            go_wp2_with fail
            refine K1.mono ?_
            rintro e w2 ⟨rfl, i2, t2⟩
            have H2 : Hid (_) := HO.out.call i2 t2
            have HG : Hid (_) := HC.out.same (z' := z.setW s b7) rfl rfl rfl
            clear i2 t2 K1 HO HC
            go_wp2_with fail
            go_roundw
            case rel => exact ⟨j + 1, by omega, by go_num, _, _, _, _, H2.out, HG.out⟩
            case measure => simp [intOf]; omega
          · skip
            by_cases n3 : kd = 3
            · subst n3
              go_wp2_with fail
              obtain ⟨y, hy, om, d0, d1, d2, d3, d4, hg⟩ := HX.out
              rw [hy]
              have HO : Hid (_) := om
              clear HX hy om a0 a1 a2 a3 a4 lB
              generalize wr.heap.size = q at *
              go_quiet (fail)
              have d3 : (y.drewN nq).cell? ⟨q, 3, none⟩ = some (.int .i64 nn) := d3
              have d4 : (y.drewN nq).cell? ⟨q, 4, none⟩ = some (.bool on) := d4
              have hg : q < (y.drewN nq).heap.size := hg
              have d0 : (y.drewN nq).cell? ⟨q, 0, none⟩ = some (.int .i64 3) := d0
              have HO : Hid (OM w (y.drewN nq) w.heap.size g (g + 1) (g + 1 + 1) z r h t) := HO.out.below (below_drewN (Below.refl _ _) _)
              generalize y.drewN nq = x at *
              have K1 := bar_is HO.out.is HC.out.ok v (bits .and .i64 nn 7)
              have hE : barF z v (bits .and .i64 nn 7) = true := by unfold barF; rw [has_at z v (by rw [HC.out.n]; exact HS.out.2.2), and_wgt]; rfl
              rw [hE, barP_at _ _ _ (by rw [HC.out.n]; exact HS.out.2.2) (and_wgt _)] at K1
              unfold chk at K1
              clear hE
              obtain ⟨b7, hb7⟩ : ∃ b, bits .and .i64 nn 7 = b := ⟨_, rfl⟩
              rw [hb7] at K1
              go_wp2_with fail
              refine K1.mono ?_
              rintro e w2 ⟨rfl, i2, t2⟩
              have H2 : Hid (_) := HO.out.call i2 t2
              have HG : Hid (_) := HC.out.same (z' := z.setB v b7) rfl rfl rfl
              clear i2 t2 K1 HO HC
              go_wp2_with fail
              go_roundw
              case rel => exact ⟨j + 1, by omega, by go_num, _, _, _, _, H2.out, HG.out⟩
              case measure => simp [intOf]; omega
            · skip
              by_cases n4 : kd = 4
              · subst n4
                go_wp2_with fail
                obtain ⟨y, hy, om, d0, d1, d2, d3, d4, hg⟩ := HX.out
                rw [hy]
                have HO : Hid (_) := om
                clear HX hy om a0 a1 a2 a3 a4 lB
                generalize wr.heap.size = q at *
                go_quiet (fail)
                have d3 : (y.drewN nq).cell? ⟨q, 3, none⟩ = some (.int .i64 nn) := d3
                have d4 : (y.drewN nq).cell? ⟨q, 4, none⟩ = some (.bool on) := d4
                have hg : q < (y.drewN nq).heap.size := hg
                have d0 : (y.drewN nq).cell? ⟨q, 0, none⟩ = some (.int .i64 4) := d0
                have HO : Hid (OM w (y.drewN nq) w.heap.size g (g + 1) (g + 1 + 1) z r h t) := HO.out.below (below_drewN (Below.refl _ _) _)
                generalize y.drewN nq = x at *
                have hh := has_at z v (by rw [HC.out.n]; exact HS.out.2.2)
                have K1 := line_is HO.out.is HC.out.ok v
                rw [hh, Bool.true_and, Int.toNat_natCast] at K1
                have K2 : Hid (∀ x2, IS 50 x2 w.heap.size z → Calls Try.prog 16 #[.pointer (some ⟨w.heap.size, 0, none⟩), .int .i64 v] x2 fun e w' => e = .returned (.tuple #[.int .i64 (fst z v), .int .i64 0]) ∧ IS 50 w' w.heap.size (if fst z v ≠ 0 then (z.setP (fst z v) false).setT (fst z v) v else z) ∧ Trn (fun k => k = w.heap.size) x2 w') := fun x2 hi => by
                  have := claim_is hi HC.out.ok v
                  unfold claK claP at this
                  rw [hh, if_pos rfl, Int.toNat_natCast] at this
                  by_cases e : fst z v = 0
                  · rw [if_neg (fun h => h.2 e)] at this
                    rw [if_neg (fun h => h e)]
                    exact this
                  · rw [if_pos ⟨rfl, e⟩] at this
                    rw [if_pos e]
                    exact this
                have HFM : Hid (∀ k, fst z v = k → k ≠ 0 → 1 ≤ k ∧ k < 17 ∧ z.P k = true ∧ z.T k = -1) := fun k => fst_may
                clear hh
                generalize fst z v = f at *
                by_cases hf : f = 0
                · subst hf
                  have e1 : decide (0 < 0) = false := rfl
                  rw [e1] at K1
                  go_wp2_with fail
                  refine K1.mono ?_
                  rintro e w2 ⟨rfl, b2⟩
                  have H2 : Hid (_) := HO.out.below b2
                  have K3 := K2.out w2 H2.out.is
                  rw [if_neg (fun h => h rfl)] at K3
                  clear b2 K1 HO K2
                  go_wp2_with fail
                  refine K3.mono ?_
                  rintro e w3 ⟨rfl, i3, t3⟩
                  have H3 : Hid (_) := H2.out.call i3 t3
                  have HG : Hid (_) := HC.out.none
                  clear i3 t3 K3 H2 HC
                  go_wp2_with fail
                  go_roundw
                  case rel => exact ⟨j + 1, by omega, by go_num, _, _, _, _, H3.out, HG.out⟩
                  case measure => simp [intOf]; omega
                · obtain ⟨f1, f2, f3, f4⟩ := HFM.out f rfl hf
                  have e1 : decide (0 < f) = true := decide_eq_true (by omega)
                  rw [e1] at K1
                  obtain ⟨F, hF⟩ : ∃ F : Int, (f : Int) = F := ⟨_, rfl⟩
                  have hfp : decide (0 < F) = true := decide_eq_true (by omega)
                  have hfn : decide (F < 0) = false := decide_eq_false (by omega)
                  have hfx : decide (16 < F) = false := decide_eq_false (by omega)
                  have hf1 : 1 ≤ F := by omega
                  have hf17 : F < 17 := by omega
                  have hFt : F.toNat = f := by omega
                  have HFF : Hid (1 ≤ f ∧ f < 17 ∧ z.P f = true ∧ z.T f = -1) := ⟨f1, f2, f3, f4⟩
                  go_wp2_with fail
                  refine K1.mono ?_
                  rintro e w2 ⟨rfl, b2⟩
                  have H2 : Hid (_) := HO.out.below b2
                  have K3 := K2.out w2 H2.out.is
                  rw [if_pos hf, hF] at K3
                  clear b2 K1 HO K2 hf f1 f2 f3 f4 e1 hF
                  go_wp2_with fail
                  refine K3.mono ?_
                  rintro e w3 ⟨rfl, i3, t3⟩
                  have H3 : Hid (_) := H2.out.call i3 t3
                  have q1 := H3.out.a1.c f HFF.out.2.1
                  have q2 := H3.out.a2.c f HFF.out.2.1
                  have q3 := H3.out.a3.c f HFF.out.2.1
                  have y2 := H3.out.a2.fz f
                  have y3 := H3.out.a3.fz f
                  have l1 := H3.out.a1.lt
                  have l2 := H3.out.a2.lt
                  have l3 := H3.out.a3.lt
                  have ht0 : t f = 0 := by rw [HC.out.t f HFF.out.1 HFF.out.2.1, HFF.out.2.2.2]; rfl
                  have p1 := HC.out.h1 f HFF.out.1 HFF.out.2.1
                  rw [HFF.out.2.2.1, if_pos rfl] at p1
                  have p2 := HC.out.h0 f
                  have p3 := HC.out.r0 f
                  have hd : decide (r f < h f + 1) = false := decide_eq_false (by omega)
                  have p4 : h f < 9223372036854775807 := by omega
                  rw [ht0] at q3
                  have H4 : Hid (_) := H3.out.set2 f HFF.out.2.1 (h f + 1)
                  have HG : Hid (_) := HC.out.claim (v := v) HFF.out.1 HFF.out.2.1 HFF.out.2.2.1
                  have HNE : Hid (_) := H3.out.ne
                  have q4 := H4.out.a1.c f HFF.out.2.1
                  have q5 := H4.out.a3.c f HFF.out.2.1
                  have q6 := H4.out.a2.c f HFF.out.2.1
                  rw [ht0] at q5
                  rw [up_same] at q6
                  have y4 := H4.out.a3.fz f
                  have m1 := H4.out.a1.lt
                  have m2 := H4.out.a2.lt
                  have m3 := H4.out.a3.lt
                  have H5 : Hid (_) := H4.out.set3 f HFF.out.2.1 (1 + v)
                  have hv4 : (v : Int) < 4 := by have := HS.out.2.2; have := HNN.out.2; omega
                  clear i3 t3 K3 H2 HC p1 p3 ht0
                  generalize h f = hv at *
                  generalize r f = rv at *
                  go_wp2_with fail
                  generalize w3.setCell ⟨g + 1, f, none⟩ (.int .i64 (hv + 1)) = x4 at *
                  clear q1 q2 q3
                  go_quiet (fail)
                  have q5 : (x4.drewN nq).cell? _ = _ := q5
                  have y4 : (x4.drewN nq).frozen? _ = _ := y4
                  have m3 : _ < (x4.drewN nq).heap.size := m3
                  have H6 : Hid (_) := (H4.out.below (below_drewN (Below.refl _ _) nq)).set3 f HFF.out.2.1 (1 + v)
                  clear H5 H4 q4 q6 m1 m2
                  generalize x4.drewN nq = x5 at *
                  go_wp2_with fail
                  go_roundw
                  case rel => exact ⟨j + 1, by omega, by go_num, _, _, _, _, H6.out, HG.out⟩
                  case measure => simp [intOf]; omega
              · skip
                by_cases n5 : kd = 5
                · subst n5
                  go_wp2_with fail
                  obtain ⟨y, hy, om, d0, d1, d2, d3, d4, hg⟩ := HX.out
                  rw [hy]
                  have HO : Hid (_) := om
                  clear HX hy om a0 a1 a2 a3 a4 lB
                  generalize wr.heap.size = q at *
                  go_quiet (fail)
                  have d3 : (y.drewN nq).cell? ⟨q, 3, none⟩ = some (.int .i64 nn) := d3
                  have d4 : (y.drewN nq).cell? ⟨q, 4, none⟩ = some (.bool on) := d4
                  have hg : q < (y.drewN nq).heap.size := hg
                  have d0 : (y.drewN nq).cell? ⟨q, 0, none⟩ = some (.int .i64 5) := d0
                  have HO : Hid (OM w (y.drewN nq) w.heap.size g (g + 1) (g + 1 + 1) z r h t) := HO.out.below (below_drewN (Below.refl _ _) _)
                  generalize y.drewN nq = x at *
                  have hvn : v < z.n := by rw [HC.out.n]; exact HS.out.2.2
                  have K1 := complete_is HO.out.is HC.out.ok v s
                  have hE : enaF z v s = true := by unfold enaF; rw [src_at s HS.out.1 HS.out.2.1, has_at z v hvn]; rfl
                  unfold comE comP at K1
                  rw [hE, if_pos rfl, Int.toNat_natCast] at K1
                  have ht := HC.out.t s HS.out.1 HS.out.2.1
                  clear hE hvn
                  by_cases c : z.T s = v
                  · rw [if_pos c, if_pos ⟨rfl, c⟩] at K1
                    rw [c] at ht
                    go_wp2_with fail
                    refine K1.mono ?_
                    rintro e w2 ⟨rfl, i2, t2⟩
                    have H2 : Hid (_) := HO.out.call i2 t2
                    have c1 := H2.out.a3.c s HS.out.2.1
                    have f1 := H2.out.a3.fz s
                    have l1 := H2.out.a3.lt
                    rw [ht] at c1
                    have HF : Hid (_) := H2.out.set3 s HS.out.2.1 0
                    have HG : Hid (_) := HC.out.complete HS.out.1 HS.out.2.1
                    have hv4 : (v : Int) < 4 := by have := HS.out.2.2; have := HNN.out.2; omega
                    clear i2 t2 K1 HO H2 HC ht c
                    go_wp2_with fail
                    go_roundw
                    case rel => exact ⟨j + 1, by omega, by go_num, _, _, _, _, HF.out, HG.out⟩
                    case measure => simp [intOf]; omega
                  · rw [if_neg c, if_neg (fun h => c h.2)] at K1
                    go_wp2_with fail
                    refine K1.mono ?_
                    rintro e w2 ⟨rfl, i2, t2⟩
                    have H2 : Hid (_) := HO.out.call i2 t2
                    have c1 := H2.out.a3.c s HS.out.2.1
                    have l1 := H2.out.a3.lt
                    have hv4 : (v : Int) < 4 := by have := HS.out.2.2; have := HNN.out.2; omega
                    have hc : (t s == 1 + (v : Int)) = false := by simp; omega
                    have HG : Hid (_) := HC.out.none
                    clear i2 t2 K1 HO HC ht c
                    generalize t s = tv at *
                    go_wp2_with fail
                    go_roundw
                    case rel => exact ⟨j + 1, by omega, by go_num, _, _, _, _, H2.out, HG.out⟩
                    case measure => simp [intOf]; omega
                · skip
                  go_wp2_with fail
                  obtain ⟨y, hy, om, d0, d1, d2, d3, d4, hg⟩ := HX.out
                  rw [hy]
                  have HO : Hid (_) := om
                  clear HX hy om a0 a1 a2 a3 a4 lB
                  generalize wr.heap.size = q at *
                  go_quiet (fail)
                  have d3 : (y.drewN nq).cell? ⟨q, 3, none⟩ = some (.int .i64 nn) := d3
                  have d4 : (y.drewN nq).cell? ⟨q, 4, none⟩ = some (.bool on) := d4
                  have hg : q < (y.drewN nq).heap.size := hg
                  have d0 : (y.drewN nq).cell? ⟨q, 0, none⟩ = some (.int .i64 kd) := d0
                  have HO : Hid (OM w (y.drewN nq) w.heap.size g (g + 1) (g + 1 + 1) z r h t) := HO.out.below (below_drewN (Below.refl _ _) _)
                  generalize y.drewN nq = x at *
                  have HG : Hid (_) := HC.out.none
                  have m0 : (kd == 0) = false := by simp [n0]
                  have m1 : (kd == 1) = false := by simp [n1]
                  have m2 : (kd == 2) = false := by simp [n2]
                  have m3 : (kd == 3) = false := by simp [n3]
                  have m4 : (kd == 4) = false := by simp [n4]
                  have m5 : (kd == 5) = false := by simp [n5]
                  clear n0 n1 n2 n3 n4 n5
                  go_wp2_with fail
                  go_roundw
                  case rel => exact ⟨j + 1, by omega, by go_num, _, _, _, _, HO.out, HG.out⟩
                  case measure => simp [intOf]; omega
    · obtain rfl : j = len := by omega
      have hB : Hid (_) := HJ.out.1.bel
      clear HJ HK hl
      go_wp2_with fail
      go_ret
      exact ⟨rfl, hB.out⟩
end Go.Proofs.Ytncjhdhfhojohaa
