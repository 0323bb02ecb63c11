/-
  The walk of WireApart.
-/
import Derived.Test.YtnjkbpjkaignbaaAp
namespace Go.Proofs.Ytnjkbpjkaignbaa
open Go.RowKit
set_option linter.unusedVariables false
set_option maxRecDepth 20000
/-- both wires in one world -/
structure AZ (w y : World) (l b : Nat) (C : Nat → Nat) (l2 b2 : Nat) (C2 : Nat → Nat) (S T : Nat → List (Int × List Int)) : Prop where
  x1 : WX w.heap.size y l b 4 C g4 S (fun _ => False)
  x2 : WX w.heap.size y l2 b2 4 C2 g4 T (fun _ => False)
  nb : b ≠ b2
  nc : ∀ i j, i < 4 → j < 4 → C i ≠ C2 j
  bel : Below w.heap.size w y
theorem AX.z {w y : World} {l b : Nat} {C : Nat → Nat} {l2 b2 : Nat} {C2 : Nat → Nat} {A : Nat} {x : Ac} {ys : List Int} {S T : Nat → List (Int × List Int)} (h : AX w y l b C l2 b2 C2 A x ys S T) : AZ w y l b C l2 b2 C2 S T := ⟨h.x1, h.x2, h.nb, h.nc, h.bel⟩
theorem AZ.act {w y : World} {l b : Nat} {C : Nat → Nat} {l2 b2 : Nat} {C2 : Nat → Nat} {S T : Nat → List (Int × List Int)} (h : AZ w y l b C l2 b2 C2 S T) (x : Ac) (ys : List Int) (hs : SL w x.a x.len ys) :
    AX w (y.alloc (.cells x.cs.toArray 34)) l b C l2 b2 C2 y.heap.size x ys S T := by
  have hb : Below y.heap.size y (y.alloc (.cells x.cs.toArray 34)) := (Below.refl _ _).alloc (Nat.le_refl _) _
  have hb' := h.bel.trans (hb.mono h.bel.size)
  exact ⟨h.x1.below hb, h.x2.below hb, h.nb, h.nc, hb', heap_alloc_at _ _, hs.below hb'⟩
theorem AZ.below {w y y' : World} {l b : Nat} {C : Nat → Nat} {l2 b2 : Nat} {C2 : Nat → Nat} {S T : Nat → List (Int × List Int)} (h : AZ w y l b C l2 b2 C2 S T) (hb : Below y.heap.size y y') : AZ w y' l b C l2 b2 C2 S T :=
  ⟨h.x1.below hb, h.x2.below hb, h.nb, h.nc, h.bel.trans (hb.mono h.bel.size)⟩
theorem par {i : Nat} (h : i ≤ 3) : (bits .and .i64 (i : Int) 1 = 0 ∧ (i = 0 ∨ i = 2)) ∨ (bits .and .i64 (i : Int) 1 = 1 ∧ (i = 1 ∨ i = 3)) := by
  obtain rfl | rfl | rfl | rfl : i = 0 ∨ i = 1 ∨ i = 2 ∨ i = 3 := by omega
  · exact .inl ⟨by decide, .inl rfl⟩
  · exact .inr ⟨by decide, .inl rfl⟩
  · exact .inl ⟨by decide, .inr rfl⟩
  · exact .inr ⟨by decide, .inr rfl⟩
theorem par2 {z : Int} (h : z = 0 ∨ z = 2) : bits .and .i64 z 1 = 0 := by
  rcases h with rfl | rfl <;> decide
namespace wireApart
/-- between two rounds -/
def AS (w wr : World) (l b : Nat) (C : Nat → Nat) (l2 b2 : Nat) (C2 : Nat → Nat) : Prop := ∃ S T, AZ w wr l b C l2 b2 C2 S T ∧ Rel S T
set_option maxHeartbeats 4000000 in
theorem walk (a : Option Addr) (n cp : Nat) (w : World) (hK : ActsIn w a n) (hn : n < 9223372036854775808) :
    Calls Try.prog 5 #[.slice a n cp] w fun e w' => e = .returned (.bool true) ∧ Below w.heap.size w w' := by
  have hb0 : Below w.heap.size w (w.alloc (.cells #[.int .i64 1, .int .i64 2, .int .i64 1, .int .i64 2] 3)) := (Below.refl _ _).alloc (Nat.le_refl _) _
  have hnu : Nu (w.alloc (.cells #[.int .i64 1, .int .i64 2, .int .i64 1, .int .i64 2] 3)) (some ⟨w.heap.size, 0, none⟩) 4 [1, 2, 1, 2] := by
    refine .inr ⟨w.heap.size, 0, rfl, by simp, fun i hi => ?_⟩
    rw [cell_at (heap_alloc_at w _)]
    obtain rfl | rfl | rfl | rfl : i = 0 ∨ i = 1 ∨ i = 2 ∨ i = 3 := by omega
    all_goals rfl
  have C1 := new_ok (some ⟨w.heap.size, 0, none⟩) 4 4 [1, 2, 1, 2] (by omega) (by omega) _ hnu w.heap.size (by simp)
  have HK : Hid (ActsIn w a n) := hK
  have H0 : Hid (Below w.heap.size w (w.alloc (.cells #[.int .i64 1, .int .i64 2, .int .i64 1, .int .i64 2] 3)) ∧ Nu (w.alloc (.cells #[.int .i64 1, .int .i64 2, .int .i64 1, .int .i64 2] 3)) (some ⟨w.heap.size, 0, none⟩) 4 [1, 2, 1, 2]) := ⟨hb0, hnu⟩
  clear hK hnu hb0
  go_enter Try.func5, Try.ntmps5
  go_wp2_with fail
  refine C1.mono ?_
  rintro e w1 ⟨l, b, C, rfl, hX1, hb1, hl1⟩
  clear C1
  have C1 := new_ok (some ⟨w.heap.size, 0, none⟩) 4 4 [1, 2, 1, 2] (by omega) (by omega) w1 (H0.out.2.below hb1) w1.heap.size (Nat.le_refl _)
  have H1 : Hid (WX w.heap.size w1 l b 4 C g4 (fun _ => []) (fun _ => False) ∧ Below w.heap.size w w1) := ⟨hX1, H0.out.1.trans (hb1.mono H0.out.1.size)⟩
  clear hX1 hb1 hl1 H0
  go_wp2_with fail
  refine C1.mono ?_
  rintro e w2 ⟨l2, b2, C2, rfl, hX2, hb2, hl2⟩
  have E0 : Hid (AS w w2 l b C l2 b2 C2) := by
    refine ⟨fun _ => [], fun _ => [], ⟨H1.out.1.below hb2, ?_, ?_, ?_, H1.out.2.trans (hb2.mono H1.out.2.size)⟩, ⟨rfl, rfl, (fun m hm => by cases hm), (fun m hm => by cases hm)⟩⟩
    · obtain ⟨Q, hq, e⟩ := hX2
      refine ⟨Q, ⟨hq.ob, hq.rows, hq.ch, hq.inj, hq.n1, hq.n32, hq.len, fun i hi m hm => ⟨(hq.bl i hi m hm).1, (hq.bl i hi m hm).2.1, ?_, (hq.bl i hi m hm).2.2.2⟩, hq.nd, hq.ap, ?_, hq.nn⟩, e⟩
      · have := (hq.bl i hi m hm).2.2.1
        have := H1.out.2.size
        omega
      · obtain ⟨q1, q2, q3⟩ := hq.lo
        have := H1.out.2.size
        exact ⟨by omega, by omega, fun i hi => by have := q3 i hi; omega⟩
    · obtain ⟨Q, hq, e⟩ := hX2
      obtain ⟨Q1, hq1, e1⟩ := H1.out.1
      have := hq.lo.2.1
      have := hq1.blt
      omega
    · intro i j hi hj
      obtain ⟨Q, hq, e⟩ := hX2
      obtain ⟨Q1, hq1, e1⟩ := H1.out.1
      have := hq.lo.2.2 j hj
      have := hq1.clt hi
      omega
  clear C1 hX2 hb2 hl2 H1
  go_wp2_with fail
  go_loopw [8] (fun q wr => ∃ j : Nat, j ≤ n ∧ q = .int .i64 j ∧ Hid (AS w wr l b C l2 b2 C2)) (fun q _ => n - (intOf q).toNat)
  case atStart => exact ⟨0, by omega, rfl, E0⟩
  case round =>
    obtain ⟨j, hj, rfl, HS⟩ := hrel
    clear E0
    by_cases hjn : j < n
    · have hjn' : (j : Int) < (n : Int) := by omega
      obtain ⟨kb, off, rfl, hkb, x, ys, hx, hok⟩ := HK.out.at hjn
      obtain ⟨S, T, hZ, hR⟩ := HS.out
      obtain ⟨hbc, _⟩ := bcell hZ.bel
      have k0 := (hbc _ _ hkb).trans (hx 0 _ rfl)
      have k1 := (hbc _ _ hkb).trans (hx 1 _ rfl)
      have k2 := (hbc _ _ hkb).trans (hx 2 _ rfl)
      have k3 := (hbc _ _ hkb).trans (hx 3 _ rfl)
      rw [Nat.add_zero] at k0
      have hkbr : kb < wr.heap.size := by have := hZ.bel.size; omega
      obtain ⟨kk, hkk, ekk⟩ := and_low x.kd 3 3 (by decide) (by decide)
      obtain ⟨i, hi, ei⟩ := and_low x.fr 3 3 (by decide) (by decide)
      obtain ⟨t, ht, et⟩ := and_low x.to 3 3 (by decide) (by decide)
      have HX0 : ∀ k, AX w ((wr.alloc (.cells #[.int .i64 x.kd, .int .i64 x.fr, .int .i64 x.to, .slice x.a x.len x.cap] 34)).drewN k) l b C l2 b2 C2 wr.heap.size x ys S T := fun k => (hZ.act x ys hok.sl).below ⟨rfl, rfl, rfl, Nat.le_refl _, fun _ _ => rfl⟩
      have HX0 : Hid (∀ k, AX w ((wr.alloc (.cells #[.int .i64 x.kd, .int .i64 x.fr, .int .i64 x.to, .slice x.a x.len x.cap] 34)).drewN k) l b C l2 b2 C2 wr.heap.size x ys S T) := HX0
      have HR : Hid (Rel S T) := hR
      clear hZ hR HS hx hok hbc
      go_wp2_with fail
      go_quiet (fail)
      have HX1 := HX0.out nq
      generalize (wr.alloc (.cells #[.int .i64 x.kd, .int .i64 x.fr, .int .i64 x.to, .slice x.a x.len x.cap] 34)).drewN nq = y0 at HX1 ⊢
      generalize wr.heap.size = A at HX1 ⊢
      have HX : Hid (AX w y0 l b C l2 b2 C2 A x ys S T) := HX1
      obtain ⟨a0, a1, a2, a3, al⟩ := HX1.cells
      clear HX0 HX1 k0 k1 k2 k3 hkbr ei et
      have hks : (kk = 0 ∨ kk = 1) ∨ kk = 2 ∨ kk = 3 := by omega
      rcases hks with hks | rfl | rfl
      · have C1 := HX.out.send1 i t
        rcases par hi with ⟨ep, hp⟩ | ⟨ep, hp⟩
        · obtain ⟨q1, q2⟩ := snd_even HR.out i hp (t : Int) (by omega) (by omega) ys
          obtain ⟨r, hr⟩ : ∃ r, sndR 4 g4 T i t ys.length = r := ⟨_, rfl⟩
          rw [q1, hr] at C1
          have HR2 : Hid (sndR 4 g4 T i t ys.length = r ∧ Rel (sndA 4 g4 S i t ys) (sndA 4 g4 T i t ys)) := ⟨hr, q2⟩
          clear q1 q2 hr HX HR
          rcases hks with rfl | rfl
          all_goals
            go_wp2_with fail
            refine C1.mono ?_
            rintro e y1 ⟨rfl, hY1⟩
            clear C1 a0 a1 a2 a3 al
            obtain ⟨a0, a1, a2, a3, al⟩ := hY1.cells
            have D2 := hY1.send2 i t
            rw [HR2.out.1] at D2
            clear hY1
            go_wp2_with fail
            refine D2.mono ?_
            rintro e y2 ⟨rfl, hY2⟩
            have HF : Hid (AS w y2 l b C l2 b2 C2) := ⟨_, _, hY2.z, HR2.out.2⟩
            clear D2 hY2 HR2 a0 a1 a2 a3 al
            go_wp2_with fail
            go_roundw
            case rel => exact ⟨j + 1, by omega, by go_num, HF⟩
            case measure => simp [intOf]; omega
        · obtain ⟨q1, q2⟩ := snd_odd S i hp (t : Int) (by omega) (by omega) ys
          have HR2 : Hid (Rel (sndA 4 g4 S i t ys) T) := HR.out.odd q1 q2
          generalize sndR 4 g4 S i t ys.length = r at C1
          clear q1 q2 HX HR
          rcases hks with rfl | rfl
          all_goals
            go_wp2_with fail
            refine C1.mono ?_
            rintro e y1 ⟨rfl, hY1⟩
            have HF : Hid (AS w y1 l b C l2 b2 C2) := ⟨_, _, hY1.z, HR2.out⟩
            clear C1 hY1 HR2 a0 a1 a2 a3 al
            go_wp2_with fail
            go_roundw
            case rel => exact ⟨j + 1, by omega, by go_num, HF⟩
            case measure => simp [intOf]; omega
      · have C1 := HX.out.send1 i (-1)
        rcases par hi with ⟨ep, hp⟩ | ⟨ep, hp⟩
        · obtain ⟨q1, q2⟩ := snd_even HR.out i hp (-1) (by omega) (by omega) ys
          obtain ⟨r, hr⟩ : ∃ r, sndR 4 g4 T i (-1) ys.length = r := ⟨_, rfl⟩
          rw [q1, hr] at C1
          have HR2 : Hid (sndR 4 g4 T i (-1) ys.length = r ∧ Rel (sndA 4 g4 S i (-1) ys) (sndA 4 g4 T i (-1) ys)) := ⟨hr, q2⟩
          clear q1 q2 hr HX HR
          go_wp2_with fail
          refine C1.mono ?_
          rintro e y1 ⟨rfl, hY1⟩
          clear C1 a0 a1 a2 a3 al
          obtain ⟨a0, a1, a2, a3, al⟩ := hY1.cells
          have D2 := hY1.send2 i (-1)
          rw [HR2.out.1] at D2
          clear hY1
          go_wp2_with fail
          refine D2.mono ?_
          rintro e y2 ⟨rfl, hY2⟩
          have HF : Hid (AS w y2 l b C l2 b2 C2) := ⟨_, _, hY2.z, HR2.out.2⟩
          clear D2 hY2 HR2 a0 a1 a2 a3 al
          go_wp2_with fail
          go_roundw
          case rel => exact ⟨j + 1, by omega, by go_num, HF⟩
          case measure => simp [intOf]; omega
        · obtain ⟨q1, q2⟩ := snd_odd S i hp (-1) (by omega) (by omega) ys
          have HR2 : Hid (Rel (sndA 4 g4 S i (-1) ys) T) := HR.out.odd q1 q2
          generalize sndR 4 g4 S i (-1) ys.length = r at C1
          clear q1 q2 HX HR
          go_wp2_with fail
          refine C1.mono ?_
          rintro e y1 ⟨rfl, hY1⟩
          have HF : Hid (AS w y1 l b C l2 b2 C2) := ⟨_, _, hY1.z, HR2.out⟩
          clear C1 hY1 HR2 a0 a1 a2 a3 al
          go_wp2_with fail
          go_roundw
          case rel => exact ⟨j + 1, by omega, by go_num, HF⟩
          case measure => simp [intOf]; omega
      · have ht4 : t < 4 := by omega
        rcases par ht with ⟨ep, hp⟩ | ⟨ep, hp⟩
        · match hq : S t with
          | [] =>
            have hq2 : T t = [] := by
              rcases hp with rfl | rfl
              · rw [← HR.out.e0]; exact hq
              · rw [← HR.out.e2]; exact hq
            have C1 := HX.out.rnone1 ht4 hq
            have HQ : Hid (T t = []) := hq2
            clear hq hq2 HX
            go_wp2_with fail
            refine C1.mono ?_
            rintro e y1 ⟨rfl, hY1⟩
            clear C1 a0 a1 a2 a3 al
            have D2 := (hY1.below ((Below.refl _ _).alloc (Nat.le_refl _) (.cells #[.int .i64 0, .slice none 0 0] 42))).rnone2 ht4 HQ.out
            clear hY1
            dsimp only [z42]
            go_wp2_with fail
            refine D2.mono ?_
            rintro e y2 ⟨rfl, hY2, hb2⟩
            clear D2
            have HF : Hid (∀ o, AS w (y2.alloc o) l b C l2 b2 C2) := fun o => ⟨_, _, hY2.z.below ((Below.refl _ _).alloc (Nat.le_refl _) _), HR.out⟩
            have d0 := ((bcell hb2).1 y1.heap.size 0 (by simp)).trans (show _ = some (.int .i64 0) by simp [go_sem])
            have d1 := ((bcell hb2).1 y1.heap.size 1 (by simp)).trans (show _ = some (.slice none 0 0) by simp [go_sem])
            have dl : y1.heap.size < y2.heap.size := by have := hb2.size; simp at this; omega
            have cv := fun o => conv_zero (y2.alloc o) none 0
            clear hY2 hb2 HR HQ
            dsimp only [z42]
            go_wp2_with fail
            go_roundw
            case rel => exact ⟨j + 1, by omega, by go_num, HF.out _⟩
            case measure => simp [intOf]; omega
          | (fr, bs) :: q =>
            obtain ⟨q2, hfr, hR2⟩ := HR.out.pop hp (fr, bs) q hq
            have C1 := HX.out.rsome1 ht4 fr bs q hq
            have HQ : Hid (T t = (fr, bs) :: q ∧ Rel (upd S t q) (upd T t q)) := ⟨q2, hR2⟩
            have ef := par2 hfr
            clear hq q2 hR2 HX HR hfr
            go_wp2_with fail
            refine C1.mono ?_
            rintro e y1 ⟨X, rfl, hY1, sX⟩
            clear C1 a0 a1 a2 a3 al
            have D2 := (hY1.below ((Below.refl _ _).alloc (Nat.le_refl _) (.cells #[.int .i64 fr, .slice (some ⟨X, 0, none⟩) bs.length bs.length] 42))).rsome2 ht4 fr bs q HQ.out.1
            have HY1 : Hid (AX w y1 l b C l2 b2 C2 A x ys (upd S t q) T ∧ SL y1 (some ⟨X, 0, none⟩) bs.length bs) := ⟨hY1, sX⟩
            clear hY1 sX
            go_wp2_with fail
            refine D2.mono ?_
            rintro e y2 ⟨X2, rfl, hY2, sX2, t2⟩
            clear D2
            have hb1 : Below y1.heap.size y1 (y1.alloc (.cells #[.int .i64 fr, .slice (some ⟨X, 0, none⟩) bs.length bs.length] 42)) := (Below.refl _ _).alloc (Nat.le_refl _) _
            have hx2 := HY1.out.1.x2.below hb1
            have hg := (t2.block _ (by simp) (hx2.notyp (heap_alloc_at _ _) (by decide))).trans (heap_alloc_at y1 (.cells #[.int .i64 fr, .slice (some ⟨X, 0, none⟩) bs.length bs.length] 42))
            have s1 := (HY1.out.2.below hb1).trn (fun k o z hc => hx2.u8 hc) t2
            have HF : Hid (∀ o, AS w (y2.alloc o) l b C l2 b2 C2) := fun o => ⟨_, _, hY2.z.below ((Below.refl _ _).alloc (Nat.le_refl _) _), HQ.out.2⟩
            have d0 : y2.cell? ⟨y1.heap.size, 0, none⟩ = some (.int .i64 fr) := by rw [cell_at hg]; rfl
            have d1 : y2.cell? ⟨y1.heap.size, 1, none⟩ = some (.slice (some ⟨X, 0, none⟩) bs.length bs.length) := by rw [cell_at hg]; rfl
            have dl : y1.heap.size < y2.heap.size := lt_of_heap hg
            have cv1 := fun o => conv_sl bs.length (s1.below ((Below.refl _ y2).alloc (Nat.le_refl _) o))
            have cv2 := fun o => conv_sl bs.length (sX2.below ((Below.refl _ y2).alloc (Nat.le_refl _) o))
            clear hY2 sX2 t2 hb1 hx2 hg s1 HY1 HQ
            generalize strOfNums bs = st at *
            go_wp2_with fail
            go_roundw
            case rel => exact ⟨j + 1, by omega, by go_num, HF.out _⟩
            case measure => simp [intOf]; omega
        · match hq : S t with
          | [] =>
            have C1 := HX.out.rnone1 ht4 hq
            clear hq HX
            go_wp2_with fail
            refine C1.mono ?_
            rintro e y1 ⟨rfl, hY1⟩
            clear C1 a0 a1 a2 a3 al
            have HF : Hid (∀ o, AS w (y1.alloc o) l b C l2 b2 C2) := fun o => ⟨_, _, hY1.z.below ((Below.refl _ _).alloc (Nat.le_refl _) _), HR.out⟩
            clear hY1 HR
            dsimp only [z42]
            go_wp2_with fail
            go_roundw
            case rel => exact ⟨j + 1, by omega, by go_num, HF.out _⟩
            case measure => simp [intOf]; omega
          | (fr, bs) :: q =>
            have C1 := HX.out.rsome1 ht4 fr bs q hq
            clear hq HX
            go_wp2_with fail
            refine C1.mono ?_
            rintro e y1 ⟨X, rfl, hY1, sX⟩
            clear C1 a0 a1 a2 a3 al
            have HF : Hid (∀ o, AS w (y1.alloc o) l b C l2 b2 C2) := fun o => ⟨_, _, hY1.z.below ((Below.refl _ _).alloc (Nat.le_refl _) _), HR.out.odd (upd_other _ _ _ (by omega)) (upd_other _ _ _ (by omega))⟩
            clear hY1 HR sX
            go_wp2_with fail
            go_roundw
            case rel => exact ⟨j + 1, by omega, by go_num, HF.out _⟩
            case measure => simp [intOf]; omega
    · obtain rfl : n = j := by omega
      obtain ⟨S, T, hZ, hR⟩ := HS.out
      have W0 := xwaiting hZ.x1 (i := 0) (by omega)
      have V0 := xwaiting hZ.x2 (i := 0) (by omega)
      have W2 := xwaiting hZ.x1 (i := 2) (by omega)
      have V2 := xwaiting hZ.x2 (i := 2) (by omega)
      rw [hR.e0] at W0
      rw [hR.e2] at W2
      have HB : Hid (Below w.heap.size w wr) := hZ.bel
      rw [show ((0 : Nat) : Int) = 0 from rfl] at W0 V0
      rw [show ((2 : Nat) : Int) = 2 from rfl] at W2 V2
      clear hZ hR HS
      generalize (T 0).length = m0 at W0 V0
      generalize (T 2).length = m2 at W2 V2
      go_wp2_with fail
      refine W0.mono ?_
      rintro e wr ⟨rfl, rfl⟩
      go_wp2_with fail
      refine V0.mono ?_
      rintro e wr ⟨rfl, rfl⟩
      go_wp2_with fail
      refine W2.mono ?_
      rintro e wr ⟨rfl, rfl⟩
      go_wp2_with fail
      refine V2.mono ?_
      rintro e wr ⟨rfl, rfl⟩
      go_wp2_with fail
      go_ret
      exact ⟨rfl, HB.out⟩
end wireApart
end Go.Proofs.Ytnjkbpjkaignbaa
