/-
  A disk under any calls does the document's requests, and has its bytes, as the memory has: the walk of DiskPlays.
-/
import Derived.Test.YtkadpmmielegfaaPb
import Derived.Test.YtkadpmmielegfaaIns
import Derived.Deep.DeepCutAuto
import Derived.Deep.CutRange
import Derived.Deep.RegionHeld2
namespace Go.Proofs.Ytkadpmmielegfaa
open Go.RowKit Go.Maps
set_option linter.unusedVariables false
set_option maxRecDepth 20000

namespace diskPlays
set_option maxHeartbeats 6400000 in
theorem walk_yes (B : Nat) (hB1 : 1 ≤ B) (hB2 : B ≤ 65536) (ad : Option Addr) (len cap : Nat) (w : World) (hA : ActsIn w ad len) (hcap : len ≤ cap) (hm : cap ≤ 9223372036854775807) :
    Calls Try.prog 3 #[.int .i64 B, .slice ad len cap] w fun e w' => e = .returned (.bool true) ∧ Below w.heap.size w w' := by
  have DN := dnew_yes B w hB1 hB2
  have HK : Hid (ActsIn w ad len) := hA
  clear hA
  go_enter Try.func3, Try.ntmps3
  go_wp2_with fail
  refine DN.mono ?_
  rintro e x1 ⟨D, m, rfl, h1, lD, lm, b1⟩
  clear DN
  have RN := rdnew_yes B x1 hB1 hB2
  go_wp2_with fail
  refine RN.mono ?_
  rintro e x2 ⟨R, rb, rfl, h2, lR, lrb, b2⟩
  clear RN
  have MN := new_yes 4 x2 (by omega) (by omega)
  rw [show ((4 : Nat) : Int) = 4 from rfl] at MN
  go_wp2_with fail
  refine MN.mono ?_
  rintro e x3 ⟨b, g, rfl, m3, lb, lg, b3⟩
  clear MN
  have MR := rnew_yes 4 x3 (by omega) (by omega)
  rw [show ((4 : Nat) : Int) = 4 from rfl] at MR
  go_wp2_with fail
  refine MR.mono ?_
  rintro e x4 ⟨c, h, rfl, m4, lc, lh, b4⟩
  clear MR
  have s1 := b1.size
  have s2 := b2.size
  have s3 := b3.size
  have s4 := b4.size
  have rbl := (h2 0).rlt
  have gl := m3.glt
  have PL : Pl x4.heap.size w D m R rb b g c h := ⟨by omega, by omega, by omega, by omega, by omega, by omega, by omega, by omega, m4.glt, by omega, by omega, by omega, by omega⟩
  have E0 : Hid (PZ x4.heap.size w x4 D m R rb B b g c h ⟨[], List.replicate (B * 256) 0, List.replicate (4 * 256) 0⟩) :=
    ⟨⟨_, (((h1 _).below b2).below b3).below b4⟩, ⟨_, ((h2 _).below b3).below b4⟩, m3.below b4, m4, ((b1.trans (b2.mono b1.size)).trans (b3.mono (by omega))).trans (b4.mono (by omega)), Nat.le_refl _, by simp⟩
  generalize hN0 : x4.heap.size = N0 at PL E0
  clear h1 h2 m3 m4 b1 b2 b3 b4 hN0 s1 s2 s3 s4 rbl gl lD lm lR lrb lb lg lc lh
  go_wp2_with fail
  refine (names_any _).mono ?_
  rintro e x4 ⟨rfl, rfl⟩
  go_wp2_with fail
  go_loopw [13] (fun i wr => ∃ (j : Nat) (S : S3), j ≤ len ∧ i = .int .i64 j ∧ Hid (PZ N0 w wr D m R rb B b g c h S)) (fun i _ => len - (intOf i).toNat)
  case atStart => exact ⟨0, _, by omega, rfl, E0⟩
  case round =>
    obtain ⟨j, S, hj, rfl, HZ⟩ := hrel
    clear E0
    by_cases hjl : j < len
    · have hj' : (j : Int) < (len : Int) := by omega
      rcases HK.out with h00 | ⟨kb, off, rfl, hkb, hact⟩
      · omega
      obtain ⟨x, ys, hcs, hwK, hsl, hnil, hle, hlc⟩ := hact j hjl
      have hbc := (bcell HZ.out.bel).1
      have k0 : wr.cell? ⟨kb, off + j * 7, none⟩ = some (.int .i64 x.kd) := (hbc _ _ hkb).trans (hcs 0 _ rfl)
      have k1 : wr.cell? ⟨kb, off + j * 7 + 1, none⟩ = some (.int .i64 x.r.i) := (hbc _ _ hkb).trans (hcs 1 _ rfl)
      have k2 : wr.cell? ⟨kb, off + j * 7 + 2, none⟩ = some (.bool x.r.w) := (hbc _ _ hkb).trans (hcs 2 _ rfl)
      have k3 : wr.cell? ⟨kb, off + j * 7 + 3, none⟩ = some (.int .i64 x.r.b) := (hbc _ _ hkb).trans (hcs 3 _ rfl)
      have k4 : wr.cell? ⟨kb, off + j * 7 + 4, none⟩ = some (.int .i64 x.r.f) := (hbc _ _ hkb).trans (hcs 4 _ rfl)
      have k5 : wr.cell? ⟨kb, off + j * 7 + 5, none⟩ = some (.int .i64 x.K) := (hbc _ _ hkb).trans (hcs 5 _ rfl)
      have k6 : wr.cell? ⟨kb, off + j * 7 + 6, none⟩ = some (.slice x.a x.len x.cap) := (hbc _ _ hkb).trans (hcs 6 _ rfl)
      have hkr : kb < wr.heap.size := by have := HZ.out.bel.size; omega
      have HY : Hid (PX N0 w (wr.alloc (.cells #[.int .i64 x.kd, .int .i64 x.r.i, .bool x.r.w, .int .i64 x.r.b, .int .i64 x.r.f, .int .i64 x.K, .slice x.a x.len x.cap] 41)) D m R rb B b g c h wr.heap.size x S S) := HZ.out.act x
      have HA : Hid ((Lit.int .i64 x.K).wf = true ∧ SL w x.a x.len ys ∧ (x.a = none → x.len = 0 ∧ x.cap = 0) ∧ x.len ≤ 140737488351232 ∧ x.len ≤ x.cap) := ⟨hwK, hsl, hnil, hle, hlc⟩
      clear hcs hbc hwK hsl hnil hle hlc hact HZ
      obtain ⟨A, hA⟩ : ∃ A, wr.heap.size = A := ⟨_, rfl⟩
      rw [hA] at HY
      go_upto_region 10 with fail
      go_cut [14] from 64 to 207 (fun p wx => p = .pointer (some ⟨A, 0, none⟩) ∧ Hid (PX N0 w wx D m R rb B b g c h A x S S))
      case first =>
        go_wp2_with fail
        go_meet
        case rel => exact ⟨rfl, HY⟩
      case rest =>
        obtain ⟨rfl, HY0⟩ := hcut
        clear HY k0 k1 k2 k3 k4 k5 k6 hkr hA
        obtain ⟨y0, rfl⟩ : ∃ y0, y0 = wc := ⟨_, rfl⟩
        go_step
        go_step
        go_cut [15, 16, 17, 18, 19, 20] from 64 to 207 (fun _ _ _ _ _ _ wx => True ∧ Hid (∃ T, PX N0 w wx D m R rb B b g c h A x T T))
        case first =>
         as_aux_lemma =>
          obtain ⟨a0, a1, a2, a3, a4, a5, a6, al⟩ := HY0.out.cells
          by_cases h0 : x.kd = 0
          · rw [h0] at a0
            obtain ⟨er, HER⟩ : ∃ er, Hid (subE B S.ps x.r = er) := ⟨_, rfl⟩
            have C1 := HY0.out.drew.submit PL x.r
            rw [HER.out] at C1
            unfold rv at C1
            have e1 := HY0.out.drew.rcs
            unfold RCs at e1
            clear a5 a6
            go_wp2_with fail
            go_region_held2 (fun w' => w'.cell? ⟨A, 1, none⟩ = some (.int .i64 x.r.i) ∧ w'.cell? ⟨A, 2, none⟩ = some (.bool x.r.w) ∧ w'.cell? ⟨A, 3, none⟩ = some (.int .i64 x.r.b) ∧ w'.cell? ⟨A, 4, none⟩ = some (.int .i64 x.r.f)) (first | exact e1 | exact e2 | exact e3)
              (first
                | (go_at_call 12; refine C1.mono ?_; rintro q y1 ⟨rfl, hY1⟩; (have e2 := hY1.rcs); unfold RCs at e2; (have C2 := hY1.rsubmit PL x.r); rw [HER.out] at C2; unfold rv at C2)
                | (go_at_call 13; refine C2.mono ?_; rintro q y2 ⟨rfl, hY2⟩; (have e3 := hY2.rcs); unfold RCs at e3))
            go_wp2_with fail
            go_meet
            case rel => exact ⟨trivial, ⟨_, hY2⟩⟩
          · by_cases h1' : x.kd = 1
            · rw [h1'] at a0
              obtain ⟨er, HER⟩ : ∃ er, Hid (comE S x.K = er) := ⟨_, rfl⟩
              obtain ⟨q, HQ⟩ : ∃ q, Hid (comR S x.K = q) := ⟨_, rfl⟩
              have C1 := HY0.out.complete PL x.K
              rw [HER.out, HQ.out] at C1
              unfold rv at C1
              clear a1 a2 a3 a4 a6
              go_wp2_with fail
              refine C1.mono ?_
              rintro e y1 ⟨rfl, hY1⟩
              clear C1 a0 a5 al
              have bA : Below y1.heap.size y1 (y1.alloc (.cells #[.int .i64 q.i, .bool q.w, .int .i64 q.b, .int .i64 q.f] 38)) := (Below.refl _ _).alloc (Nat.le_refl _) _
              have hY1' := hY1.below bA
              obtain ⟨_, _, _, _, _, a5, _, al⟩ := hY1.cells
              have C2 := hY1'.rcomplete PL x.K
              rw [HER.out, HQ.out] at C2
              unfold rv at C2
              clear hY1 hY1' bA HER HQ
              go_wp2_with fail
              refine C2.mono ?_
              rintro e y2 ⟨rfl, hY2, kp⟩
              clear C2
              have k38 := kp y1.heap.size _ (heap_alloc_at y1 (.cells #[.int .i64 q.i, .bool q.w, .int .i64 q.b, .int .i64 q.f] 38))
              have d0 : y2.cell? ⟨y1.heap.size, 0, none⟩ = some (.int .i64 q.i) := cell_of k38 rfl
              have d1 : y2.cell? ⟨y1.heap.size, 1, none⟩ = some (.bool q.w) := cell_of k38 rfl
              have d2 : y2.cell? ⟨y1.heap.size, 2, none⟩ = some (.int .i64 q.b) := cell_of k38 rfl
              have d3 : y2.cell? ⟨y1.heap.size, 3, none⟩ = some (.int .i64 q.f) := cell_of k38 rfl
              have dl := lt_of_heap k38
              have EN : Hid (∃ T, PX N0 w (y2.alloc (.cells #[.int .i64 q.i, .bool q.w, .int .i64 q.b, .int .i64 q.f] 44)) D m R rb B b g c h A x T T) := ⟨_, hY2.below ((Below.refl _ _).alloc (Nat.le_refl _) _)⟩
              clear kp k38 hY2 a5 al
              go_wp2_with fail
              go_meet
              case rel => exact ⟨trivial, EN⟩
            · by_cases h2' : x.kd = 2
              · rw [h2'] at a0
                obtain ⟨hwK, hsl, hnil, hle, hlc⟩ := HA.out
                obtain ⟨er, HER⟩ : ∃ er, Hid (putE B x.K ys.length = er) := ⟨_, rfl⟩
                have bE : Below y0.heap.size y0 (y0.alloc (.cells #[] 5)) := (Below.refl _ _).alloc (Nat.le_refl _) _
                have hownA : (y0.alloc (.cells #[] 5)).ownsRow y0.heap.size 5 1 (.slice (some ⟨y0.heap.size, 0, none⟩) 0 0) 0 (([] : List Int).map (Value.int .u8)) := World.ownsRow_lit y0 #[] 0 (Nat.le_refl _) (by decide) rfl
                have hsA : SL (y0.alloc (.cells #[] 5)) x.a x.len ys := SL.below (SL.below hsl HY0.out.bel) bE
                have HS : Hid (SL w x.a x.len ys ∧ (x.a = none → x.len = 0 ∧ x.cap = 0) ∧ Below y0.heap.size y0 (y0.alloc (.cells #[] 5))) := ⟨hsl, hnil, bE⟩
                have HNE : Hid (0 < x.len → ∀ b0 off, x.a = some ⟨b0, off, none⟩ → b0 ≠ rb) := fun h0 b0 off0 e0 => by
                  rcases hsl.2.2 with h | ⟨b1, o1, e1, l1, _⟩
                  · omega
                  · rw [e1] at e0; cases e0; have := PL.lrb; omega
                clear a1 a2 a3 a4 hsl hnil bE hwK
                go_wp2_with (at_builtin; refine wpList_append_sl rfl (.tmp 119) (.tmp 121) rfl y0.heap.size (.slice (some ⟨y0.heap.size, 0, none⟩) 0 0) 0 [] rfl hownA _ x.len x.cap ys rfl HS.out.2.1 hsA (by omega) (by simp) ?_; intro v1 w1 hown1 hgrow1; obtain ⟨a1, c1, rfl, hs1, hc1, hcm, hf1⟩ := own_fl hown1 HS.out.1.2.1 HS.out.1.1)
                have bw : Below y0.heap.size y0 w1 := HS.out.2.2.grown hgrow1 (by simp) (by intro k h; cases h; exact Nat.le_refl _)
                have hY1 := HY0.out.below bw
                have HF1 : Hid (x.len = 0 ∨ ∃ X, a1 = some ⟨X, 0, none⟩ ∧ N0 ≤ X ∧ FL w1 X x.len ∧ Safe w1 m B X ∧ X ≠ m) := by
                  rcases hf1 with h0 | ⟨X, e1, e2, e3⟩
                  · exact .inl h0
                  · exact .inr ⟨X, e1, by have := HY0.out.sz; omega, e3, (HY0.out.safe e2).keep (bw.block m (HY0.out.mblock).1), by have := (HY0.out.mblock).1; omega⟩
                have C1 := hY1.drew.put PL x.K a1 x.len c1 ys (SL.below hs1 (Below.refl _ _).drew)
                rw [HER.out] at C1
                have e1 : w1.drew.cell? ⟨A, 5, none⟩ = some (.int .i64 x.K) ∧ w1.drew.cell? ⟨A, 6, none⟩ = some (.slice x.a x.len x.cap) := by
                  obtain ⟨_, _, _, _, _, q5, q6, _⟩ := hY1.drew.cells
                  exact ⟨q5, q6⟩
                clear hownA hsA hown1 hgrow1 bw hY1 hs1 hf1 a0 a5 a6 al
                go_wp2_with fail
                go_region_held2 (fun w' => w'.cell? ⟨A, 5, none⟩ = some (.int .i64 x.K) ∧ w'.cell? ⟨A, 6, none⟩ = some (.slice x.a x.len x.cap)) (first | exact e1 | exact e2 | exact e3)
                  (first
                    | (go_at_call 16; refine C1.mono ?_; rintro q y1 ⟨rfl, hY1, t1, sf1⟩; obtain ⟨_, _, _, _, _, q5, q6, _⟩ := hY1.cells; (have e2 : y1.cell? ⟨A, 5, none⟩ = some (.int .i64 x.K) ∧ y1.cell? ⟨A, 6, none⟩ = some (.slice x.a x.len x.cap) := ⟨q5, q6⟩); (have C2 := hY1.rput PL x.K x.a x.len x.cap ys (SL.below HS.out.1 hY1.bel) HNE.out hlc (by omega)); rw [HER.out] at C2)
                    | (go_at_call 17; refine C2.mono ?_; rintro q y2 ⟨rfl, hY2, t2⟩; obtain ⟨_, _, _, _, _, r5, r6, _⟩ := hY2.cells; (have e3 : y2.cell? ⟨A, 5, none⟩ = some (.int .i64 x.K) ∧ y2.cell? ⟨A, 6, none⟩ = some (.slice x.a x.len x.cap) := ⟨r5, r6⟩)))
                have E2 : Hid (∃ T, PX N0 w y2 D m R rb B b g c h A x T T ∧ (x.len = 0 ∨ ∃ X, a1 = some ⟨X, 0, none⟩ ∧ N0 ≤ X ∧ FL y2 X x.len ∧ Safe y2 m B X)) := by
                  refine ⟨_, hY2, ?_⟩
                  rcases HF1.out with h0 | ⟨X, g1, g2, g3, g4, g5⟩
                  · exact .inl h0
                  · obtain ⟨ml1, es1, cl1, hm1⟩ := hY1.mblock
                    have f0 : FL w1.drew X x.len := g3.keep rfl
                    have f1 : FL y1 X x.len := f0.keep (gr_keep t1 f0.lt g5)
                    have hXr : X ≠ rb := by have := PL.hrb; omega
                    have hmr : m ≠ rb := by
                      obtain ⟨u, hu⟩ := hY1.rd
                      exact fun e => ne_map hu.row hm1 e.symm
                    exact .inr ⟨X, g1, g2, f1.keep (gr_keep t2 f1.lt hXr), (sf1 X f0.lt (g4.keep rfl)).keep (gr_keep t2 ml1 hmr)⟩
                clear C1 C2 e1 e2 e3 hY1 hY2 t1 t2 sf1 HF1 q5 q6 r5 r6 HNE HS
                go_wp2_with fail
                go_loopw [20] (fun i wr => ∃ q : Nat, q ≤ x.len ∧ i = .int .i64 q ∧ Hid (∃ T, PX N0 w wr D m R rb B b g c h A x T T ∧ (x.len = 0 ∨ ∃ X, a1 = some ⟨X, 0, none⟩ ∧ N0 ≤ X ∧ FL wr X x.len ∧ Safe wr m B X))) (fun i _ => x.len - (intOf i).toNat)
                case atStart => exact ⟨0, by omega, rfl, E2⟩
                case round =>
                  obtain ⟨q, hq, rfl, EQ⟩ := hrel
                  clear E2
                  by_cases hqn : q < x.len
                  · have hq' : (q : Int) < (x.len : Int) := by omega
                    obtain ⟨T, hT, hf⟩ := EQ.out
                    rcases hf with h0 | ⟨X, rfl, h2, h3, h4⟩
                    · omega
                    obtain ⟨⟨z, cz⟩, fz, xl⟩ := h3.at q hqn
                    have EN : Hid (∀ z', ∃ T, PX N0 w (wr.setCell ⟨X, q, none⟩ (.int .u8 z')) D m R rb B b g c h A x T T ∧ (x.len = 0 ∨ ∃ X', some (⟨X, 0, none⟩ : Addr) = some ⟨X', 0, none⟩ ∧ N0 ≤ X' ∧ FL (wr.setCell ⟨X, q, none⟩ (.int .u8 z')) X' x.len ∧ Safe (wr.setCell ⟨X, q, none⟩ (.int .u8 z')) m B X')) := fun z' => by
                      obtain ⟨f1, f2⟩ := h3.set q hqn z'
                      obtain ⟨ml, es, cl, hmt⟩ := hT.mblock
                      refine ⟨T, hT.turned PL h3 h2 h4 f2, .inr ⟨X, rfl, h2, f1, h4.keep (gr_keep f2 ml (fun e => ?_))⟩⟩
                      obtain ⟨cur, hc, _⟩ := h3
                      exact ne_map hc hmt e.symm
                    clear h3 h4 hT EQ
                    go_wp2_with fail
                    go_roundw
                    case rel => exact ⟨q + 1, by omega, by go_num, EN.out _⟩
                    case measure => simp [intOf]; omega
                  · have hq9 : (x.len : Int) ≤ (q : Int) := by omega
                    have EZ : Hid (∃ T, PX N0 w wr D m R rb B b g c h A x T T) := by
                      obtain ⟨T, hT, _⟩ := EQ.out
                      exact ⟨T, hT⟩
                    clear EQ
                    go_wp2_with fail
                    go_meet
                    case rel => exact ⟨trivial, EZ⟩
              · by_cases h3' : x.kd = 3
                · rw [h3'] at a0
                  obtain ⟨ii, hii, eii⟩ := and_low x.K 3 3 rfl (by decide)
                  have C1 := HY0.out.mput PL ((ii : Int) * 256) x.a x.len x.cap ys (SL.below HA.out.2.1 HY0.out.bel) (by have := HA.out.2.2.2.1; omega) (by omega) (by omega)
                  generalize plcE S.ms.length ((ii : Int) * 256) ys.length = er1 at C1
                  clear a1 a2 a3 a4
                  go_wp2_with fail
                  refine C1.mono ?_
                  rintro e y1 ⟨rfl, hY1⟩
                  clear C1 a0 a5 a6 al
                  obtain ⟨_, _, _, _, _, a5, a6, al⟩ := hY1.cells
                  have C2 := hY1.rmput PL ((ii : Int) * 256) x.a x.len x.cap ys (SL.below HA.out.2.1 hY1.bel) (fun h0 b0 off0 e0 => by
                    rcases HA.out.2.1.2.2 with h | ⟨b1, o1, e1, l1, _⟩
                    · omega
                    · rw [e1] at e0; cases e0; have := PL.lh; omega) HA.out.2.2.2.2 (by have := HA.out.2.2.2.1; omega) (by omega) (by omega)
                  generalize plcE S.ms.length ((ii : Int) * 256) ys.length = er2 at C2
                  clear hY1
                  go_wp2_with fail
                  refine C2.mono ?_
                  rintro e y2 ⟨rfl, hY2⟩
                  clear C2
                  go_wp2_with fail
                  go_meet
                  case rel => exact ⟨trivial, ⟨_, hY2⟩⟩
                · have b0 : (x.kd == 0) = false := beq_false_of_ne h0
                  have b1 : (x.kd == 1) = false := beq_false_of_ne h1'
                  have b2 : (x.kd == 2) = false := beq_false_of_ne h2'
                  have b3 : (x.kd == 3) = false := beq_false_of_ne h3'
                  clear a1 a2 a3 a4 a5 a6
                  go_wp2_with fail
                  go_meet
                  case rel => exact ⟨trivial, ⟨_, HY0.out⟩⟩
        case rest =>
         as_aux_lemma =>
          obtain ⟨_, HT⟩ := hcut
          obtain ⟨T, hX⟩ := HT.out
          obtain ⟨y, rfl⟩ : ∃ y, y = wc := ⟨_, rfl⟩
          obtain ⟨_, _, _, _, _, a5, _, al⟩ := hX.cells
          have CB := hX.block x.K
          clear HT HY0 hX HA
          obtain ⟨er, HER⟩ : ∃ er, Hid (hasE B x.K = er) := ⟨_, rfl⟩
          rw [HER.out] at CB
          go_wp2_with fail
          refine CB.mono ?_
          rintro e y1 ⟨ba, n1, rfl, sl1, hX1, hf1⟩
          clear CB a5 al
          obtain ⟨_, _, _, _, _, a5, _, al⟩ := hX1.cells
          have CR := hX1.rblock x.K
          have H1 : Hid (SL y1 ba n1 (blkB B T.zs x.K) ∧ (n1 = 0 ∨ n1 = 256 ∧ ∃ X, ba = some ⟨X, 0, none⟩ ∧ N0 ≤ X ∧ FL y1 X 256 ∧ Safe y1 m B X) ∧ PX N0 w y1 D m R rb B b g c h A x T T) := ⟨sl1, hf1, hX1⟩
          clear sl1 hX1 hf1
          rw [HER.out] at CR
          go_wp2_with fail
          refine CR.mono ?_
          rintro e y2 ⟨ra, n2, c2, rfl, sl2, hX2, bl2⟩
          clear CR a5 al
          have cv1 := conv_sl n1 (SL.below H1.out.1 bl2)
          have cv2 := conv_sl c2 sl2
          have CS := hX2.stands rfl rfl
          have H2 : Hid (Below y1.heap.size y1 y2) := bl2
          clear sl2 bl2 hX2 HER
          generalize strOfNums (blkB B T.zs x.K) = st at *
          go_wp2_with fail
          refine CS.mono ?_
          rintro e y3 ⟨rfl, hX3, bl3⟩
          clear CS cv1 cv2
          have E3 : Hid (PX N0 w y3 D m R rb B b g c h A x T T ∧ (n1 = 0 ∨ n1 = 256 ∧ ∃ X, ba = some ⟨X, 0, none⟩ ∧ N0 ≤ X ∧ FL y3 X 256 ∧ Safe y3 m B X)) := by
            refine ⟨hX3, ?_⟩
            rcases H1.out.2.1 with h0 | ⟨h0, X, h1, h2, h3, h4⟩
            · exact .inl h0
            · have hb := H2.out.trans (bl3.mono H2.out.size)
              exact .inr ⟨h0, X, h1, h2, h3.keep (hb.block X h3.lt), h4.keep (hb.block m (H1.out.2.2.mblock).1)⟩
          have hn1 : n1 ≤ 256 := by
            rcases E3.out.2 with h0 | ⟨h0, _⟩ <;> omega
          clear H1 H2 hX3 bl3
          go_wp2_with fail
          go_loopw [25] (fun i wr => ∃ q : Nat, q ≤ n1 ∧ i = .int .i64 q ∧ Hid (PX N0 w wr D m R rb B b g c h A x T T ∧ (n1 = 0 ∨ n1 = 256 ∧ ∃ X, ba = some ⟨X, 0, none⟩ ∧ N0 ≤ X ∧ FL wr X 256 ∧ Safe wr m B X))) (fun i _ => n1 - (intOf i).toNat)
          case atStart => exact ⟨0, by omega, rfl, E3⟩
          case round =>
            obtain ⟨q, hq, rfl, EQ⟩ := hrel
            clear E3
            by_cases hqn : q < n1
            · have hq' : (q : Int) < (n1 : Int) := by omega
              rcases EQ.out.2 with h0 | ⟨h0, X, rfl, h2, h3, h4⟩
              · omega
              obtain ⟨⟨z, cz⟩, fz, xl⟩ := h3.at q (by omega)
              obtain ⟨f1, f2⟩ := h3.set q (by omega) 7
              have EN : Hid (PX N0 w (wr.setCell ⟨X, q, none⟩ (.int .u8 7)) D m R rb B b g c h A x T T ∧ (n1 = 0 ∨ n1 = 256 ∧ ∃ X', some (⟨X, 0, none⟩ : Addr) = some ⟨X', 0, none⟩ ∧ N0 ≤ X' ∧ FL (wr.setCell ⟨X, q, none⟩ (.int .u8 7)) X' 256 ∧ Safe (wr.setCell ⟨X, q, none⟩ (.int .u8 7)) m B X')) := by
                obtain ⟨ml, es, cl, hmt⟩ := EQ.out.1.mblock
                refine ⟨EQ.out.1.turned PL h3 h2 h4 f2, .inr ⟨h0, X, rfl, h2, f1, h4.keep (gr_keep f2 ml (fun e => ?_))⟩⟩
                obtain ⟨cur, hc, _⟩ := h3
                exact ne_map hc hmt e.symm
              clear f1 f2 h3 h4
              go_wp2_with fail
              go_roundw
              case rel => exact ⟨q + 1, by omega, by go_num, EN⟩
              case measure => simp [intOf]; omega
            · have hq9 : (n1 : Int) ≤ (q : Int) := by omega
              have EZ : Hid (PZ N0 w wr D m R rb B b g c h T) := EQ.out.1.z
              clear EQ
              go_wp2_with fail
              go_roundw
              case rel => exact ⟨j + 1, T, by omega, by go_num, EZ⟩
              case measure => simp [intOf]; omega
    · have hj9 : (len : Int) ≤ (j : Int) := by omega
      have hml := HZ.out.ml
      have BY := mbytes_yes b g S.ms 0 1024 _ HZ.out.mm (by omega)
      rw [show ((0 : Nat) : Int) = 0 from rfl, show ((1024 : Nat) : Int) = 1024 from rfl, List.drop_zero, List.take_of_length_le (by omega)] at BY
      go_wp2_with fail
      refine BY.mono ?_
      rintro e y1 ⟨gx, rfl, own, b1⟩
      clear BY
      have rm1 := HZ.out.rm.below b1
      have bD : Below y1.heap.size y1 y1.drew := (Below.refl _ _).drew
      have sx := SL.own own HZ.out.mm.bytes
      have sr := rm1.slAll
      rw [hml] at sr
      have cx := conv_sl 1024 (SL.below sx bD)
      have cr := conv_sl 1024 (SL.below sr bD)
      have hc := rm1.cell0
      rw [hml] at hc
      have hcl := rm1.blt
      have HB : Hid (Below w.heap.size w y1.drew) := HZ.out.bel.trans ((b1.trans (bD.mono b1.size)).mono HZ.out.bel.size)
      clear rm1 bD sx sr own b1 HZ hml
      generalize strOfNums S.ms = st at *
      go_wp2_with fail
      go_region
      all_goals
        go_wp2_with fail
        go_ret
        exact ⟨rfl, HB.out⟩
set_option maxHeartbeats 1600000 in
theorem walk_no (f : Int) (hf : ¬ (1 ≤ f ∧ f ≤ 65536)) (ad : Option Addr) (len cap : Nat) (w : World) :
    Calls Try.prog 3 #[.int .i64 f, .slice ad len cap] w fun e w' => e = .returned (.bool true) ∧ Below w.heap.size w w' := by
  go_enter Try.func3, Try.ntmps3
  go_wp2_with fail
  refine (dnew_no f _ hf).mono ?_
  rintro e x1 ⟨rfl, rfl⟩
  go_wp2_with fail
  refine (rdnew_no f _ hf).mono ?_
  rintro e x2 ⟨rfl, rfl⟩
  have MN := new_yes 4 x2 (by omega) (by omega)
  rw [show ((4 : Nat) : Int) = 4 from rfl] at MN
  go_wp2_with fail
  refine MN.mono ?_
  rintro e x3 ⟨b, g, rfl, m3, lb, lg, b3⟩
  clear MN
  have MR := rnew_yes 4 x3 (by omega) (by omega)
  rw [show ((4 : Nat) : Int) = 4 from rfl] at MR
  go_wp2_with fail
  refine MR.mono ?_
  rintro e x4 ⟨c, h, rfl, m4, lc, lh, b4⟩
  clear MR
  have H4 : Hid (MM x4 b g (List.replicate (4 * 256) 0) ∧ RM x4 c h (List.replicate (4 * 256) 0) ∧ Below x2.heap.size x2 x4) := ⟨m3.below b4, m4, b3.trans (b4.mono b3.size)⟩
  clear m3 m4 b3 b4 lb lg lc lh
  go_wp2_with fail
  refine (names_any _).mono ?_
  rintro e x4 ⟨rfl, rfl⟩
  go_wp2_with fail
  go_loopw [13] (fun i wr => i = .int .i64 0 ∧ wr = x4) (fun _ _ => 0)
  case atStart => exact ⟨rfl, rfl⟩
  case round =>
    obtain ⟨rfl, rfl⟩ := hrel
    have BY := mbytes_yes b g (List.replicate (4 * 256) 0) 0 1024 _ H4.out.1 (by simp)
    rw [show ((0 : Nat) : Int) = 0 from rfl, show ((1024 : Nat) : Int) = 1024 from rfl, List.drop_zero, List.take_of_length_le (by simp)] at BY
    have hml : (List.replicate (4 * 256) (0 : Int)).length = 1024 := by simp
    generalize List.replicate (4 * 256) (0 : Int) = Z at *
    by_cases hl : 0 < len
    case' pos => have hl' : (0 : Int) < (len : Int) := by omega
    case' neg => have hl' : (len : Int) ≤ 0 := by omega
    all_goals
      go_wp2_with fail
      refine BY.mono ?_
      rintro e y1 ⟨gx, rfl, own, b1⟩
      clear BY
      have rm1 := H4.out.2.1.below b1
      have bD : Below y1.heap.size y1 y1.drew := (Below.refl _ _).drew
      have sx := SL.own own H4.out.1.bytes
      have sr := rm1.slAll
      rw [hml] at sr
      have cx := conv_sl 1024 (SL.below sx bD)
      have cr := conv_sl 1024 (SL.below sr bD)
      have hc := rm1.cell0
      rw [hml] at hc
      have hcl := rm1.blt
      have HB : Hid (Below x2.heap.size x2 y1.drew) := H4.out.2.2.trans ((b1.trans (bD.mono b1.size)).mono H4.out.2.2.size)
      clear rm1 bD sx sr own b1 H4 hml
      generalize strOfNums Z = st at *
      go_wp2_with fail
      go_region
      all_goals
        go_wp2_with fail
        go_ret
        exact ⟨rfl, HB.out⟩
theorem walk (f : Int) (ad : Option Addr) (len cap : Nat) (w : World) (hA : ActsIn w ad len) (hcap : len ≤ cap) (hm : cap ≤ 9223372036854775807) :
    Calls Try.prog 3 #[.int .i64 f, .slice ad len cap] w fun e w' => e = .returned (.bool true) ∧ Below w.heap.size w w' := by
  by_cases hf : 1 ≤ f ∧ f ≤ 65536
  · obtain ⟨B, rfl⟩ := Int.eq_ofNat_of_zero_le (show 0 ≤ f by omega)
    exact walk_yes B (by omega) (by omega) ad len cap w hA hcap hm
  · exact walk_no f hf ad len cap w
end diskPlays
end Go.Proofs.Ytkadpmmielegfaa
