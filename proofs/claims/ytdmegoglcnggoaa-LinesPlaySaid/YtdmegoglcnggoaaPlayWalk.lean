/-
  The walk of LinesPlay.
-/
import Derived.Test.YtdmegoglcnggoaaPa
import Derived.Test.YtdmegoglcnggoaaActs
import Derived.Deep.RegionHeld
import Derived.Deep.CutRange
namespace Go.Proofs.Ytdmegoglcnggoaa.linesPlay
open Go.RowKit
set_option linter.unusedVariables false
set_option maxRecDepth 20000
theorem quiet_same1 {P : Program} {f : FuncId} {args : Array Value} {w : World} {n : Nat} {v : Value}
    (h : Calls P f args (w.drewN (1 + n)) fun e w' => e = .returned v ∧ w' = w.drewN (1 + n)) : Calls P f args (w.drewN (1 + n)) fun e w'' => e = .returned v ∧ ∃ m, w'' = w.drewN (1 + m) :=
  h.mono fun _ _ ⟨he, hm⟩ => ⟨he, n, hm⟩
theorem names_any (w : World) : Calls Try.prog 10 #[] w fun e w' => e = .returned (.bool true) ∧ w' = w := by
  go_enter Try.func10, Try.ntmps10
  go_wp2
  go_ret
  exact ⟨rfl, rfl⟩
theorem walk_bad (cores : Int) (a : Option Addr) (m cp : Nat) (w : World) (hc : cores < 1 ∨ 8 < cores) :
    Calls Try.prog 3 #[.int .i64 cores, .slice a m cp] w fun e w' => e = .returned (.bool true) ∧ Below w.heap.size w w' := by
  have C1 := new_bad cores hc
  have C2 := rnew_bad cores hc
  have C3 := names_any
  go_enter Try.func3, Try.ntmps3
  go_wp2_with fail
  refine (C1 _).mono ?_
  rintro e w ⟨rfl, rfl⟩
  go_wp2_with fail
  refine (C2 _).mono ?_
  rintro e w ⟨rfl, rfl⟩
  go_wp2_with fail
  refine (C3 _).mono ?_
  rintro e w ⟨rfl, rfl⟩
  go_wp2_with fail
  go_loopw [9] (fun q wr => wr = w ∧ q = .int .i64 0) (fun q _ => 0)
  case atStart => exact ⟨rfl, rfl⟩
  case round =>
    obtain ⟨rfl, rfl⟩ := hrel
    by_cases hm : (0 : Int) < (m : Int)
    · go_wp2_with fail
      go_ret
      exact ⟨rfl, Below.refl _ _⟩
    · go_wp2_with fail
      go_ret
      exact ⟨rfl, Below.refl _ _⟩
/-- between the rounds -/
def PS (w wr : World) (l b n : Nat) (C : Nat → Nat) (r d : Nat) : Prop := ∃ S V, LW w.heap.size wr l b n C S ∧ RW w.heap.size wr r d n V S ∧ ZS n S ∧ Below w.heap.size w wr
theorem PS.enter {w wr : World} {l b n : Nat} {C : Nat → Nat} {r d : Nat} (h : PS w wr l b n C r d) (k c e x : Int) : ∃ S, ZS n S ∧ PY w (wr.alloc (.cells #[.int .i64 k, .int .i64 c, .int .i64 e, .int .u64 x] 33)) l b n C r d S S wr.heap.size k c e x := by
  obtain ⟨S, V, hL, hR, hz, hb⟩ := h
  have hal : Below wr.heap.size wr (wr.alloc (.cells #[.int .i64 k, .int .i64 c, .int .i64 e, .int .u64 x] 33)) := (Below.refl _ _).alloc (Nat.le_refl _) _
  exact ⟨S, hz, hL.below hal, ⟨V, hR.below hal⟩, hb.trans (hal.mono hb.size), heap_alloc_at wr _⟩
theorem PS.leave {w y y' : World} {l b n : Nat} {C : Nat → Nat} {r d : Nat} {S : Nat → Ln} {A : Nat} {k c e x : Int} (h : PY w y l b n C r d S S A k c e x) (hz : ZS n S) (hk : Below y.heap.size y y') : PS w y' l b n C r d := by
  obtain ⟨V, hR⟩ := h.rw
  exact ⟨S, V, h.lw.below hk, hR.below hk, hz, h.bel.trans (hk.mono h.bel.size)⟩
set_option maxHeartbeats 3200000 in
theorem walk_ok (n : Nat) (h1 : 1 ≤ n) (h8 : n ≤ 8) (a : Option Addr) (m cp : Nat) (w : World) (hK : ActsIn w a m) (hm : m < 9223372036854775808) :
    Calls Try.prog 3 #[.int .i64 n, .slice a m cp] w fun e w' => e = .returned (.bool true) ∧ Below w.heap.size w w' := by
  have C1 := new_ok n h1 h8
  have C3 := names_any
  have HK : Hid (ActsIn w a m) := hK
  clear hK
  go_enter Try.func3, Try.ntmps3
  go_wp2_with fail
  refine (C1 _).mono ?_
  rintro e w1 ⟨l, b, C, rfl, hL, hb1⟩
  have C2 := rnew_ok w.heap.size n h1 h8 w1 hb1.size
  have HL : Hid (LW w.heap.size w1 l b n C (fun _ => l0) ∧ Below w.heap.size w w1) := ⟨hL, hb1⟩
  clear C1 hL hb1
  go_wp2_with fail
  refine C2.mono ?_
  rintro e w2 ⟨r, d, V, rfl, hR, hb2⟩
  have E0 : Hid (PS w w2 l b n C r d) := ⟨_, V, HL.out.1.below hb2, hR, fun i hi _ => rfl, HL.out.2.trans (hb2.mono HL.out.2.size)⟩
  clear C2 HL hR hb2
  go_wp2_with fail
  refine (C3 _).mono ?_
  rintro e w2 ⟨rfl, rfl⟩
  clear C3
  go_wp2_with fail
  go_loopw [9] (fun q wr => ∃ j : Nat, j ≤ m ∧ q = .int .i64 j ∧ Hid (PS w wr l b n C r d)) (fun q _ => m - (intOf q).toNat)
  case atStart => exact ⟨0, by omega, rfl, E0⟩
  case round =>
    obtain ⟨j, hj, rfl, HS⟩ := hrel
    clear E0
    by_cases hjm : j < m
    · have hjm' : (j : Int) < (m : Int) := by omega
      obtain ⟨kb, off, rfl, hkb, k, c, ev, x, hx, hd0, hd1, hd2, hd3⟩ := HK.out.at hjm
      have hbel : Below w.heap.size w wr := by obtain ⟨_, _, _, _, _, h⟩ := HS.out; exact h
      obtain ⟨hbc, _⟩ := bcell hbel
      have k0 := (hbc _ _ hkb).trans hd0
      have k1 := (hbc _ _ hkb).trans hd1
      have k2 := (hbc _ _ hkb).trans hd2
      have k3 := (hbc _ _ hkb).trans hd3
      have hkbr : kb < wr.heap.size := by have := hbel.size; omega
      obtain ⟨S, hz, hY⟩ := HS.out.enter k c ev x
      have HZ : Hid (ZS n S) := hz
      have HY : Hid (PY w (wr.alloc (.cells #[.int .i64 k, .int .i64 c, .int .i64 ev, .int .u64 x] 33)) l b n C r d S S wr.heap.size k c ev x) := hY
      clear hd0 hd1 hd2 hd3 hbel hbc hz hY HS
      obtain ⟨A, hA⟩ : ∃ A, wr.heap.size = A := ⟨_, rfl⟩
      rw [hA] at HY
      go_upto_region 8 with fail
      go_cut [10] from 46 to 222 (fun p wx => p = .pointer (some ⟨A, 0, none⟩) ∧ Hid (PY w wx l b n C r d S S A k c ev x))
      case first =>
        go_wp2_with fail
        go_meet
        case rel => exact ⟨rfl, HY⟩
      case rest =>
        obtain ⟨rfl, HY0⟩ := hcut
        clear HY k0 k1 k2 k3 hkbr hA
        obtain ⟨y0, rfl⟩ : ∃ y0, y0 = wc := ⟨_, rfl⟩
        go_step
        go_step
        go_cut [11, 12, 13, 14, 15, 16, 17, 18] from 46 to 222 (fun _ _ _ _ _ _ _ _ wx => True ∧ Hid (∃ T, ZS n T ∧ PY w wx l b n C r d T T A k c ev x))
        case first =>
         as_aux_lemma =>
          have a0 := HY0.out.a0
          have a1 := HY0.out.a1
          have a2 := HY0.out.a2
          have a3 := HY0.out.a3
          have al := HY0.out.al
          by_cases h0 : k = 0
          · subst h0
            go_wp2_with fail
            have HYd : Hid (PY w y0.drew l b n C r d S S A 0 c ev x) := HY0.out.drew 1
            have e1 : y0.drew.cell? ⟨A, 1, none⟩ = some (.int .i64 c) ∧ y0.drew.cell? ⟨A, 2, none⟩ = some (.int .i64 ev) := ⟨HYd.out.a1, HYd.out.a2⟩
            go_region_held (fun w' => w'.cell? ⟨A, 1, none⟩ = some (.int .i64 c) ∧ w'.cell? ⟨A, 2, none⟩ = some (.int .i64 ev)) (first | exact e1 | exact e2 | exact e3)
              (first
                | (go_at_call 11; refine HYd.out.send.mono ?_; rintro q y1 ⟨rfl, hY1⟩; have e2 : y1.cell? ⟨A, 1, none⟩ = some (.int .i64 c) ∧ y1.cell? ⟨A, 2, none⟩ = some (.int .i64 ev) := ⟨hY1.a1, hY1.a2⟩)
                | (go_at_call 12; refine hY1.rsend.mono ?_; rintro q y ⟨rfl, hY2⟩; have e3 : y.cell? ⟨A, 1, none⟩ = some (.int .i64 c) ∧ y.cell? ⟨A, 2, none⟩ = some (.int .i64 ev) := ⟨hY2.a1, hY2.a2⟩))
            go_wp2_with fail
            go_meet
            case rel => exact ⟨trivial, ⟨_, zs_send HZ.out c ev, hY2⟩⟩
          · by_cases h1' : k = 1
            · subst h1'
              go_wp2_with fail
              refine (HY0.out.take).mono ?_
              rintro q y1 ⟨rfl, hY1⟩
              have b1 := hY1.a1
              have b3 := hY1.a3
              have bl := hY1.al
              clear a0 a1 a2 a3 al
              go_wp2_with fail
              refine (hY1.rtake).mono ?_
              rintro q y ⟨rfl, hY2⟩
              go_wp2_with fail
              go_meet
              case rel => exact ⟨trivial, ⟨_, zs_take HZ.out c, hY2⟩⟩
            · by_cases h2' : k = 2
              · subst h2'
                go_wp2_with fail
                have HYd : Hid (PY w y0.drew l b n C r d S S A 2 c ev x) := HY0.out.drew 1
                have e1 : y0.drew.cell? ⟨A, 1, none⟩ = some (.int .i64 c) ∧ y0.drew.cell? ⟨A, 3, none⟩ = some (.int .u64 x) := ⟨HYd.out.a1, HYd.out.a3⟩
                go_region_held (fun w' => w'.cell? ⟨A, 1, none⟩ = some (.int .i64 c) ∧ w'.cell? ⟨A, 3, none⟩ = some (.int .u64 x)) (first | exact e1 | exact e2 | exact e3)
                  (first
                    | (go_at_call 15; refine HYd.out.set.mono ?_; rintro q y1 ⟨rfl, hY1⟩; have e2 : y1.cell? ⟨A, 1, none⟩ = some (.int .i64 c) ∧ y1.cell? ⟨A, 3, none⟩ = some (.int .u64 x) := ⟨hY1.a1, hY1.a3⟩)
                    | (go_at_call 16; refine hY1.rset.mono ?_; rintro q y ⟨rfl, hY2⟩; have e3 : y.cell? ⟨A, 1, none⟩ = some (.int .i64 c) ∧ y.cell? ⟨A, 3, none⟩ = some (.int .u64 x) := ⟨hY2.a1, hY2.a3⟩))
                go_wp2_with fail
                go_meet
                case rel => exact ⟨trivial, ⟨_, zs_set HZ.out c x, hY2⟩⟩
              · by_cases h3' : k = 3
                · subst h3'
                  go_wp2_with fail
                  refine (HY0.out.tick hx).mono ?_
                  rintro q y1 ⟨rfl, hY1⟩
                  have b1 := hY1.a1
                  have b3 := hY1.a3
                  have bl := hY1.al
                  clear a0 a1 a2 a3 al
                  go_wp2_with fail
                  refine (hY1.rtick hx).mono ?_
                  rintro q y ⟨rfl, hY2⟩
                  go_wp2_with fail
                  go_meet
                  case rel => exact ⟨trivial, ⟨_, zs_tick HZ.out c x, hY2⟩⟩
                · go_wp2_with fail
                  go_meet
                  case rel => exact ⟨trivial, ⟨_, HZ.out, HY0.out⟩⟩
        case rest =>
         as_aux_lemma =>
          obtain ⟨T, hT, hQ⟩ := hcut.2.out
          have HT : Hid (ZS n T) := hT
          obtain ⟨y, rfl⟩ : ∃ y, y = wc := ⟨_, rfl⟩
          have HQ : Hid (PY w y l b n C r d T T A k c ev x) := hQ
          clear hcut hT hQ HY0 HZ
          have a1 := HQ.out.a1
          have al := HQ.out.al
          cases hc : inN n c
          · have HO : Hid (Off (.pointer (some ⟨l, 0, none⟩)) c 2 y) := HQ.out.off hc
            have HN : Hid (NoHas r c y) := HQ.out.nohas hc
            go_wp2_with fail
            refine (armed_off HO.out (by decide)).mono ?_
            rintro q y ⟨rfl, rfl⟩
            go_wp2_with fail
            refine Calls.mono HN.out ?_
            rintro q y ⟨rfl, rfl⟩
            go_wp2_with fail
            refine (waiting_off HO.out (by decide)).mono ?_
            rintro q y ⟨rfl, rfl⟩
            go_wp2_with fail
            refine (now_off HO.out (by decide)).mono ?_
            rintro q y ⟨rfl, rfl⟩
            go_wp2_with fail
            go_roundw
            case rel => exact ⟨j + 1, by omega, by go_num, PS.leave HQ.out HT.out (Below.refl _ _)⟩
            case measure => simp [intOf]; omega
          · obtain ⟨i, rfl, hi⟩ := inN_yes hc
            have hin : (i : Int) < (n : Int) := by omega
            have CA := armed_ok HQ.out.lw hi
            go_wp2_with fail
            refine CA.mono ?_
            rintro q y3 ⟨rfl, dk, rfl⟩
            have HQ3 : Hid (PY w (y.drewN dk) l b n C r d T T A k (i : Int) ev x) := HQ.out.drew dk
            obtain ⟨y3, hy3⟩ : ∃ y3, y.drewN dk = y3 := ⟨_, rfl⟩
            rw [hy3] at HQ3
            rw [hy3]
            have HB3 : Hid (Below y.heap.size y y3) := by rw [← hy3]; exact ⟨rfl, rfl, rfl, Nat.le_refl _, fun _ _ => rfl⟩
            clear hy3 CA a1 al
            have a1 := HQ3.out.a1
            have al := HQ3.out.al
            obtain ⟨V, hR⟩ := HQ3.out.rw
            have HH : Hid (IsHas r i y3) := has_ok hR hi
            have rc := hR.cc
            have rl := hR.lt
            obtain ⟨c0, c1, c2, c3⟩ := hR.ri hi
            have dl := hR.dlt
            obtain ⟨va, vc, hv⟩ := (hR.qs i hi).form
            rw [hv] at c0
            have hlen : (T i).q.length ≤ 16 := (hR.rg i hi).2.2
            have hz0 : (T i).on = false → (T i).tm = 0 := HT.out i hi
            have HLW : Hid (∀ o, LW w.heap.size (y3.alloc o) l b n C T) := fun o => HQ3.out.lw.below ((Below.refl _ _).alloc (Nat.le_refl _) o)
            clear hR hv V
            go_wp2_with fail
            refine Calls.mono HH.out ?_
            rintro q y3 ⟨rfl, rfl⟩
            go_wp2_with fail
            go_region
            have HP : Hid (∀ z, z.heap = (y3.alloc (.cells #[.slice va (T i).q.length vc, .int .u64 (T i).ck, .int .u64 (T i).tm, .bool (T i).on] 51)).heap → z.os = y3.os → z.tape = y3.tape → z.output = y3.output → PS w z l b n C r d) := fun z h1 h2 h3 h4 => PS.leave HQ3.out HT.out ⟨h2, h3, h4, by rw [h1, World.size_alloc]; omega, fun k hk => by rw [h1]; exact heap_alloc_past y3 _ hk⟩
            obtain ⟨L, hL⟩ : ∃ L, (T i).q.length = L := ⟨_, rfl⟩
            obtain ⟨CK, hCK⟩ : ∃ L, (T i).ck = L := ⟨_, rfl⟩
            obtain ⟨TM, hTM⟩ : ∃ L, (T i).tm = L := ⟨_, rfl⟩
            obtain ⟨ON, hON⟩ : ∃ L, (T i).on = L := ⟨_, rfl⟩
            have CW : Hid (∀ z, z.heap = (y3.alloc (.cells #[.slice va (T i).q.length vc, .int .u64 (T i).ck, .int .u64 (T i).tm, .bool (T i).on] 51)).heap → Calls Try.prog 21 #[.pointer (some ⟨l, 0, none⟩), .int .i64 i] z fun e w' => e = .returned (.int .i64 L) ∧ w' = z) := fun z hz => hL ▸ waiting_ok ((HLW.out _).keep fun _ _ _ => by rw [hz]) hi
            have CN : Hid (∀ z, z.heap = (y3.alloc (.cells #[.slice va (T i).q.length vc, .int .u64 (T i).ck, .int .u64 (T i).tm, .bool (T i).on] 51)).heap → Calls Try.prog 22 #[.pointer (some ⟨l, 0, none⟩), .int .i64 i] z fun e w' => e = .returned (.int .u64 CK) ∧ w' = z) := fun z hz => hCK ▸ now_ok ((HLW.out _).keep fun _ _ _ => by rw [hz]) hi
            rw [hL, hCK, hTM, hON] at CW CN HP
            rw [hTM, hON] at hz0
            simp only [hL, hCK, hTM, hON]
            clear hL hCK hTM hON HQ3 HT HQ c0 c1 c2 c3 HLW HH HB3
            go_wp2_with fail
            cases ON
            · obtain rfl : TM = 0 := hz0 rfl
              go_quiet ((first | (go_at_call 21; refine quiet_same1 (CW.out _ (by rfl))) | (go_at_call 22; refine quiet_same1 (CN.out _ (by rfl)))))
              go_wp2_with fail
              go_roundw
              case rel => exact ⟨j + 1, by omega, by go_num, HP.out _ rfl rfl rfl rfl⟩
              case measure => simp [intOf]; omega
            · go_quiet ((first | (go_at_call 21; refine quiet_same1 (CW.out _ (by rfl))) | (go_at_call 22; refine quiet_same1 (CN.out _ (by rfl)))))
              go_wp2_with fail
              go_roundw
              case rel => exact ⟨j + 1, by omega, by go_num, HP.out _ rfl rfl rfl rfl⟩
              case measure => simp [intOf]; omega
    · obtain rfl : m = j := by omega
      have hbel : Below w.heap.size w wr := by obtain ⟨_, _, _, _, _, h⟩ := HS.out; exact h
      go_wp2_with fail
      go_ret
      exact ⟨rfl, hbel⟩
end Go.Proofs.Ytdmegoglcnggoaa.linesPlay
