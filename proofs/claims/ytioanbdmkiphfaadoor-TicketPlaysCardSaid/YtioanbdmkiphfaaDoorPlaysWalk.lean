/-
  The walk of TicketPlays.
-/
import Derived.Test.YtioanbdmkiphfaaDoorActs
import Derived.Deep.RegionHeld2
import Derived.Deep.DeepCutAuto
import Derived.Deep.CutRange
namespace Go.Proofs.YtioanbdmkiphfaaDoor
open Go.RowKit
set_option linter.unusedVariables false
set_option maxRecDepth 20000
namespace ticketPlays
theorem names_any (w : World) : Calls Tryd.prog 10 #[] w fun e w' => e = .returned (.bool true) ∧ w' = w := by
  go_enter Tryd.func10, Tryd.ntmps10
  go_wp2
  go_ret
  exact ⟨rfl, rfl⟩
/-- between two acts -/
def K0 (w0 w : World) (J : Bk) (t : Int) (n : Nat) : Prop := ∃ P : Ls, PX w0 w J t n P P ∧ P.zs.length = 512
/-- with an act -/
def K1 (w0 w : World) (J : Bk) (t : Int) (n A : Nat) (x : Ac) : Prop := ∃ P : Ls, PY w0 w J t n A x P P ∧ P.zs.length = 512
/-- both memories and both locks are made -/
theorem made (w0 w1 w2 w3 w4 : World) (b g bo go k q s u n : Nat) (t : Int) (hp : 1 < w0.heap.size) (ht : 0 ≤ t) (ht' : t + 16 ≤ 512) (hb1 : Below w0.heap.size w0 w1) (lg : w0.heap.size ≤ g)
    (hb1' : b < w1.heap.size) (hg1 : g < w1.heap.size) (hb2 : Below w1.heap.size w1 w2) (lgo : w1.heap.size ≤ go) (go2 : go < w2.heap.size)
    (h3 : LX w3 k b g (splice (List.replicate (2 * 256) 0) t.toNat (List.replicate 16 0)) t n (fun _ => 0) (fun _ => 0)) (hk3 : w2.heap.size ≤ k) (hr3 : w2.grownBy w3 (some g))
    (h4 : RK w4 q bo go s u (List.replicate 512 0) t n (fun _ => 0) (fun _ => 0)) (ls : w3.heap.size ≤ s) (lu : w3.heap.size ≤ u) (hr4 : w3.grownBy w4 (some go)) :
    K0 w0 w4 ⟨k, b, g, q, bo, go, s, u⟩ t n := by
  rw [splice_zeros _ _ (by omega)] at h3
  have hs1 := hb1.size
  have hs2 := hb2.size
  have hs3 := hr3.size
  have bel : Below w0.heap.size w0 w4 := ((hb1.trans (hb2.mono hs1)).grown hr3 (by omega) (by intro x e; cases e; exact lg)).grown hr4 (by omega) (by intro x e; cases e; omega)
  refine ⟨⟨List.replicate 512 0, fun _ => 0, fun _ => 0⟩, ⟨h3.other (Trn.of_grown (S := fun x => x = go) hr4 fun x e => by cases e; rfl) (fun x e => by rw [e]; omega), h4, by show g ≠ go; omega, bel, ?_, hp⟩, by simp⟩
  rintro x (e | e | e | e | e) <;> rw [e]
  · show w0.heap.size ≤ k; omega
  · exact lg
  · show w0.heap.size ≤ s; omega
  · show w0.heap.size ≤ u; omega
  · show w0.heap.size ≤ go; omega
theorem K0.lt {w0 w : World} {J : Bk} {t : Int} {n : Nat} (h : K0 w0 w J t n) : Below w0.heap.size w0 w := let ⟨_, h, _⟩ := h; h.bel
theorem k01 {w0 w : World} {J : Bk} {t : Int} {n : Nat} {x : Ac} (h : K0 w0 w J t n) : K1 w0 (w.alloc (.cells #[.int .i64 x.kd, .int .i64 x.co, .int .u64 x.v] 39)) J t n w.heap.size x := by
  obtain ⟨P, h, hl⟩ := h
  exact ⟨P, ⟨h.below ((Below.refl _ _).alloc (Nat.le_refl _) _), heap_alloc_at _ _⟩, hl⟩
theorem stp_len (P : Ls) (t : Int) (n : Nat) (c : Int) (ht : 0 ≤ t) (h : P.zs.length = 512) : (P.stp t n c).zs.length = 512 := by
  unfold Ls.stp
  split
  · exact (stpZ_len t P.zs _ ht).trans h
  · exact h
set_option maxHeartbeats 8000000 in
theorem walk_ok (t : Int) (n : Nat) (ad : Option Addr) (len cap : Nat) (w : World) (hT : TB w) (hA : ActsIn w ad len) (hlen : len < 9223372036854775808) (hn1 : 1 ≤ n) (hn8 : n ≤ 8) (ht : 0 ≤ t) (ht8 : t % 8 = 0) (ht' : t + 16 ≤ 512) :
    Calls Tryd.prog 3 #[.int .u64 t, .int .i64 n, .slice ad len cap] w fun e w' => e = .returned (.bool true) ∧ Below w.heap.size w w' := by
  have HK : Hid (ActsIn w ad len) := hA
  have HN : Hid (_) := new_yes 2 w (by decide) (by decide)
  have HT : Hid (TB w) := hT
  have hp := hT.pos
  clear hA hT
  go_enter Tryd.func3, Tryd.ntmps3
  go_wp2_with fail
  refine Calls.mono HN.out ?_
  rintro e w1 ⟨b, g, rfl, hM, lb, lg, hb1⟩
  have HR := rnew_yes 2 w1 (by decide) (by decide)
  have HM : Hid (MM w1 b g (List.replicate (2 * 256) 0)) := hM
  have HB1 : Hid (Below w.heap.size w w1) := hb1
  clear HN hM hb1
  go_wp2_with fail
  refine HR.mono ?_
  rintro e w2 ⟨bo, go, rfl, hR, lbo, lgo, hb2⟩
  have HRM : Hid (RM w2 bo go (List.replicate (2 * 256) 0)) := hR
  have HB2 : Hid (Below w1.heap.size w1 w2) := hb2
  have HNA := names_any w2
  clear HR hR hb2
  go_wp2_with fail
  refine HNA.mono ?_
  rintro e w2' ⟨rfl, rfl⟩
  have hg1 : 1 < g := by omega
  have hM2 := HM.out.below HB2.out
  have C3 := new_ok b g _ t n _ hM2 ((HT.out.below HB1.out).below HB2.out) hg1 (by simp) ⟨hn1, hn8⟩ ht ht8 (by simpa using ht')
  clear HNA hM2
  go_wp2_with fail
  refine C3.mono ?_
  rintro e w3 ⟨k, rfl, hX3, hk3, hr3⟩
  have hne1 : bo ≠ g := by have := HM.out.glt; omega
  have hne2 : go ≠ g := by have := HM.out.glt; omega
  have hR3 : RM w3 bo go (List.replicate 512 0) := HRM.out.kept hr3 (by simp; omega) (by simp; omega)
  have C4 := rnew_ok bo go 512 t n w3 hR3 (by decide) hn1 hn8 ht ht8 ht'
  have HX3 : Hid (_) := hX3
  have HR3 : Hid (_) := hr3
  clear C3 hX3 hr3 hR3
  go_wp2_with fail
  refine C4.mono ?_
  rintro e w4 ⟨q, s, u, rfl, hK4, ls, lu, hr4⟩
  have E0 : Hid (K0 w w4 ⟨k, b, g, q, bo, go, s, u⟩ t n) := made w w1 _ w3 w4 b g bo go k q s u n t hp ht ht' HB1.out lg HM.out.blt HM.out.glt HB2.out lgo HRM.out.glt HX3.out hk3 HR3.out hK4 ls lu hr4
  clear C4 hK4 hr4 HX3 HR3 HRM HB2 HM HB1 HT ls lu hk3 hne1 hne2 lgo lbo lg lb hg1 hp
  obtain ⟨J, rfl, rfl, rfl, rfl, rfl, rfl, rfl, rfl⟩ : ∃ J : Bk, k = J.k ∧ b = J.b ∧ g = J.g ∧ q = J.q ∧ bo = J.bo ∧ go = J.go ∧ s = J.s ∧ u = J.u := ⟨⟨k, b, g, q, bo, go, s, u⟩, rfl, rfl, rfl, rfl, rfl, rfl, rfl, rfl⟩
  have E1 : Hid (K0 w w4 J t n) := E0.out
  clear E0
  go_wp2_with fail
  go_loopw [14] (fun q wr => ∃ j : Nat, j ≤ len ∧ q = .int .i64 j ∧ Hid (K0 w wr J t n)) (fun q _ => len - (intOf q).toNat)
  case atStart => exact ⟨0, by omega, rfl, E1⟩
  case round =>
    obtain ⟨j, hj, rfl, HZ⟩ := hrel
    clear E1
    by_cases hjn : j < len
    · have hjn' : (j : Int) < (len : Int) := by omega
      obtain ⟨kb, off, rfl, hkb, x, hv, i0, i1, i2⟩ := HK.out.at hjn
      have hbel := HZ.out.lt
      have k0 := ((bcell hbel).1 _ _ hkb).trans i0
      have k1 := ((bcell hbel).1 _ _ hkb).trans i1
      have k2 := ((bcell hbel).1 _ _ hkb).trans i2
      have hkw : kb < wr.heap.size := Nat.lt_of_lt_of_le hkb hbel.size
      have HY : Hid (K1 w (wr.alloc (.cells #[.int .i64 x.kd, .int .i64 x.co, .int .u64 x.v] 39)) J t n wr.heap.size x) := k01 HZ.out
      have HV : Hid (U x.v) := hv
      clear HZ hbel i0 i1 i2 hv
      obtain ⟨y0, rfl⟩ : ∃ y0, y0 = wr := ⟨_, rfl⟩
      go_upto_region 12 with fail
      go_cut [15] from 66 to 201 (fun p wx => ∃ A : Nat, p = .pointer (some ⟨A, 0, none⟩) ∧ Hid (K1 w wx J t n A x))
      case first =>
        go_wp2_with fail
        go_meet
        case rel => exact ⟨_, rfl, HY⟩
      case rest =>
        obtain ⟨A, rfl, HY1⟩ := hcut
        clear HY k0 k1 k2 hkw
        obtain ⟨y1, rfl⟩ : ∃ y1, y1 = wc := ⟨_, rfl⟩
        go_step
        go_step
        go_cut [16, 17, 18, 19] from 66 to 201 (fun _ _ _ _ wx => True ∧ Hid (K1 w wx J t n A x))
        case first =>
         as_aux_lemma =>
          by_cases h0 : x.kd = 0
          · obtain ⟨P, hP, hl⟩ := HY1.out
            obtain ⟨a0, a1, a2, al⟩ := hP.cells
            rw [h0] at a0
            have HL : Hid (P.zs.length = 512) := hl
            have bD : Below y1.heap.size y1 y1.drew := (Below.refl _ _).drew
            have e1 : y1.drew.cell? ⟨A, 1, none⟩ = some (.int .i64 x.co) := a1
            have C1 := (hP.below bD).take x.co
            obtain ⟨E, HE⟩ : ∃ E, Hid (begE n P.S x.co 0 = E) := ⟨_, rfl⟩
            rw [HE.out] at C1
            clear hP hl bD h0
            go_wp2_with fail
            go_region_held (fun w' => w'.cell? ⟨A, 1, none⟩ = some (.int .i64 x.co)) (first | exact e1 | exact e2 | exact e3)
              (first
                | (go_at_call 14; refine D2.mono ?_; rintro e y3 ⟨rfl, hY3⟩; obtain ⟨_, e3, _, _⟩ := hY3.cells)
                | (go_at_call 13; refine C1.mono ?_; rintro e y2 ⟨rfl, hY2⟩; obtain ⟨_, e2, _, _⟩ := hY2.cells; (have D2 := hY2.rset x.co 0 1); rw [HE.out] at D2))
            all_goals
              have HF : Hid (K1 w y3 J t n A x) := ⟨_, hY3, HL.out⟩
              clear C1 D2 e1 e2 e3 hY2 hY3 a0 a1 a2 al HL HE
              go_wp2_with fail
              go_meet
              case rel => exact ⟨trivial, HF⟩
          by_cases h1 : x.kd = 1
          · obtain ⟨P, hP, hl⟩ := HY1.out
            obtain ⟨a0, a1, a2, al⟩ := hP.cells
            rw [h1] at a0
            have HL : Hid (P.zs.length = 512) := hl
            have bD : Below y1.heap.size y1 y1.drew := (Below.refl _ _).drew
            have e1 : y1.drew.cell? ⟨A, 1, none⟩ = some (.int .i64 x.co) := a1
            have C1 := (hP.below bD).give x.co
            obtain ⟨E, HE⟩ : ∃ E, Hid (begE n P.S x.co 3 = E) := ⟨_, rfl⟩
            rw [HE.out] at C1
            clear hP hl bD h1
            go_wp2_with fail
            go_region_held (fun w' => w'.cell? ⟨A, 1, none⟩ = some (.int .i64 x.co)) (first | exact e1 | exact e2 | exact e3)
              (first
                | (go_at_call 14; refine D2.mono ?_; rintro e y3 ⟨rfl, hY3⟩; obtain ⟨_, e3, _, _⟩ := hY3.cells)
                | (go_at_call 15; refine C1.mono ?_; rintro e y2 ⟨rfl, hY2⟩; obtain ⟨_, e2, _, _⟩ := hY2.cells; (have D2 := hY2.rset x.co 3 4); rw [HE.out] at D2))
            all_goals
              have HF : Hid (K1 w y3 J t n A x) := ⟨_, hY3, HL.out⟩
              clear C1 D2 e1 e2 e3 hY2 hY3 a0 a1 a2 al HL HE
              go_wp2_with fail
              go_meet
              case rel => exact ⟨trivial, HF⟩
          by_cases h2 : x.kd = 2
          · obtain ⟨P, hP, hl⟩ := HY1.out
            obtain ⟨a0, a1, a2, al⟩ := hP.cells
            rw [h2] at a0
            have HL : Hid ((P.stp t n x.co).zs.length = 512) := stp_len P t n x.co hP.px.lx.t0 hl
            have HS : Hid (∀ c, 0 ≤ P.S c ∧ P.S c ≤ 4) := hP.px.lx.lk.st
            have C1 := hP.step x.co
            obtain ⟨E, HE⟩ : ∃ E, Hid (stV P t n x.co = E) := ⟨_, rfl⟩
            obtain ⟨F, HF0⟩ : ∃ F, Hid (stE n x.co = F) := ⟨_, rfl⟩
            rw [HE.out, HF0.out] at C1
            clear hP hl h2
            go_wp2_with fail
            refine C1.mono ?_
            rintro e y2 ⟨rfl, hY2⟩
            clear C1 a0 a1 a2 al
            obtain ⟨a0, a1, a2, al⟩ := hY2.cells
            have D2 := hY2.rstep HS.out x.co
            rw [HE.out, HF0.out] at D2
            clear hY2
            go_wp2_with fail
            refine D2.mono ?_
            rintro e y3 ⟨rfl, hY3⟩
            have HF : Hid (K1 w y3 J t n A x) := ⟨_, hY3, HL.out⟩
            clear D2 hY3 a0 a1 a2 al HL HS HE HF0
            go_wp2_with fail
            go_meet
            case rel => exact ⟨trivial, HF⟩
          by_cases h3 : x.kd = 3
          · obtain ⟨P, hP, hl⟩ := HY1.out
            obtain ⟨a0, a1, a2, al⟩ := hP.cells
            rw [h3] at a0
            have t0 := hP.px.lx.t0
            have hsm := hP.px.lx.small
            obtain ⟨i, hi, ei⟩ := and_low x.co 1 1 rfl (by decide)
            obtain ⟨t1, et1, ht1⟩ : ∃ t1 : Int, t + 8 * (i : Int) = t1 ∧ (t1 = t ∨ t1 = t + 8) := ⟨_, rfl, by omega⟩
            have HL : Hid ((P.sto t1 x.v).zs.length = 512) := (storeV_len P.zs t1 8 x.v (by omega)).trans hl
            have C1 := hP.store t1 x.v ht1 HV.out
            clear hP hl h3
            go_wp2_with fail
            refine C1.mono ?_
            rintro e y2 ⟨rfl, hY2⟩
            clear C1 a0 a1 a2 al
            obtain ⟨a0, a1, a2, al⟩ := hY2.cells
            have D2 := hY2.rstore t1 x.v ht1 HV.out
            clear hY2
            go_wp2_with fail
            refine D2.mono ?_
            rintro e y3 ⟨rfl, hY3⟩
            have HF : Hid (K1 w y3 J t n A x) := ⟨_, hY3, HL.out⟩
            clear D2 hY3 a0 a1 a2 al HL
            go_wp2_with fail
            go_meet
            case rel => exact ⟨trivial, HF⟩
          have b0 : (x.kd == 0) = false := beq_false_of_ne h0
          have b1 : (x.kd == 1) = false := beq_false_of_ne h1
          have b2 : (x.kd == 2) = false := beq_false_of_ne h2
          have b3 : (x.kd == 3) = false := beq_false_of_ne h3
          obtain ⟨P, hP, hl⟩ := HY1.out
          obtain ⟨a0, a1, a2, al⟩ := hP.cells
          clear hP
          go_wp2_with fail
          go_meet
          case rel => exact ⟨trivial, HY1⟩
        case rest =>
         as_aux_lemma =>
          obtain ⟨_, HT⟩ := hcut
          clear HY1 HV
          obtain ⟨y2, rfl⟩ : ∃ y2, y2 = wc := ⟨_, rfl⟩
          obtain ⟨P, hP, hl⟩ := HT.out
          obtain ⟨a0, a1, a2, al⟩ := hP.cells
          have C1 := hP.state x.co
          have HL : Hid (P.zs.length = 512) := hl
          clear hP hl HT
          go_wp2_with fail
          refine C1.mono ?_
          rintro e y3 ⟨rfl, hY3⟩
          clear C1 a0 a1 a2 al
          obtain ⟨a0, a1, a2, al⟩ := hY3.cells
          have HD : Hid (∀ m, Calls Tryd.prog 21 #[.pointer (some ⟨J.q, 0, none⟩), .int .i64 x.co] (y3.drewN m) fun e w' => e = .returned (.bool (hasC n x.co)) ∧ w' = y3.drewN m) := fun m => (hY3.below (same_drewN y3 m)).rhas x.co
          obtain ⟨c0, c1, c2, c3⟩ := hY3.px.rk.cells
          have hql := hY3.px.rk.lt
          have HF : Hid (∀ m, K0 w (y3.drewN m) J t n) := fun m => ⟨P, (hY3.below (same_drewN y3 m)).px, HL.out⟩
          cases hc : hasC n x.co
          · rw [hc] at HD
            rw [show saV P n x.co = 0 by unfold saV; rw [hc]; rfl, show saT P n x.co = 0 by unfold saT; rw [hc]; rfl]
            clear hY3
            go_wp2_with fail
            go_quiet ((go_at_call 21; refine Calls.quiet_of_same (HD.out _)))
            go_wp2_with fail
            go_roundw
            case rel => exact ⟨j + 1, by omega, by go_num, HF.out _⟩
            case measure => simp [intOf]; omega
          · rw [hc] at HD
            obtain ⟨d, ed, hd⟩ := hasC_yes hc
            have e0 := hY3.px.rk.rs.at d hd
            have e1 := hY3.px.rk.rt.at d hd
            have ls := hY3.px.rk.rs.lt
            have lu := hY3.px.rk.rt.lt
            have hd' : (d : Int) < (n : Int) := by omega
            rw [show saV P n x.co = P.S d by unfold saV; rw [hc, ed]; rfl, show saT P n x.co = P.T d by unfold saT; rw [hc, ed]; rfl]
            rw [ed] at a1 HD
            clear hY3 hc ed
            go_wp2_with fail
            go_quiet ((go_at_call 21; refine Calls.quiet_of_same (HD.out _)))
            go_wp2_with fail
            go_roundw
            case rel => exact ⟨j + 1, by omega, by go_num, HF.out _⟩
            case measure => simp [intOf]; omega
    · have hj9 : (len : Int) ≤ (j : Int) := by omega
      have hd9 : decide (j < len) = false := decide_eq_false hjn
      obtain ⟨P, hP, hl⟩ := HZ.out
      have hbl := mbytes_yes J.b J.g P.zs 0 512 wr hP.lx.mm (by omega)
      have HP : Hid (PX w wr J t n P P) := hP
      have HL : Hid (P.zs.length = 512) := hl
      clear hP hl HZ HK hjn
      go_wp2_with fail
      refine hbl.mono ?_
      rintro e y1 ⟨gi, rfl, hown, hb1⟩
      have hP1 := HP.out.below hb1
      have bD : Below y1.heap.size y1 y1.drew := (Below.refl _ _).drew
      have hs := SL.own hown (bytes_mid hP1.lx.mm.bytes 0 512)
      rw [show (P.zs.drop 0).take 512 = P.zs by rw [List.drop_zero]; exact List.take_of_length_le (by have := HL.out; omega)] at hs
      have cv1 := conv_sl 512 (SL.below hs bD)
      have hR := hP1.rk.rm.below bD
      have cv2 := conv_sl P.zs.length (RM.slAll hR)
      have c0 := hR.cell0
      rw [HL.out] at cv2 c0
      have hlb : J.bo < y1.heap.size := hP1.rk.rm.blt
      obtain ⟨SO, HSO⟩ : ∃ SO, Hid (strOfNums P.zs = SO) := ⟨_, rfl⟩
      rw [HSO.out] at cv1 cv2
      have HB : Hid (Below w.heap.size w y1) := hP1.bel
      have c0' : y1.cell? ⟨J.bo, 0, none⟩ = some (.slice (some ⟨J.go, 0, none⟩) 512 512) := c0
      clear hown hs hR hP1 hb1 hbl bD
      go_wp2_with fail
      go_region
      all_goals
        go_wp2_with fail
        go_ret
        exact ⟨ret_bool (by simp), HB.out.drew⟩
end ticketPlays
end Go.Proofs.YtioanbdmkiphfaaDoor
