/-
  The walk of ConsolePlays.
-/
import Derived.Test.YtbncgmjjkoedhaaPb
import Derived.Deep.RegionHeld2
import Derived.Deep.DeepCutAuto
import Derived.Deep.CutRange
namespace Go.Proofs.Ytbncgmjjkoedhaa
open Go.RowKit
set_option linter.unusedVariables false
set_option maxRecDepth 20000
namespace consolePlays
def N0 (w0 : World) (b : Nat) (k : Nat) : Prop := k < w0.heap.size ∨ k = b
def N1 (w0 : World) (b A : Nat) (k : Nat) : Prop := N0 w0 b k ∨ k = A
theorem ref0 (w : World) : (w.alloc (.cells #[.string ByteArray.empty, .string ByteArray.empty, .int .i64 0, .int .i64 0, .int .i64 0] 27)).heap[w.heap.size]? = some (.cells #[.string (strOfNums []), .string (strOfNums []), .int .i64 (wrap64 (0 + (([] : List Int).length : Int))), .int .i64 0, .int .i64 0] 27 (0, 0)) := by
  rw [show wrap64 (0 + (([] : List Int).length : Int)) = 0 by unfold wrap64; simp]
  exact heap_alloc_at _ _
theorem n1_b (w : World) (b A : Nat) : N1 w b A b := .inl (.inr rfl)
theorem n1_old (w : World) (b A : Nat) : ∀ k, k < w.heap.size → N1 w b A k := fun k e => .inl (.inl e)
theorem n1_A (w : World) (b A : Nat) : N1 w b A A := .inr rfl
/-- between two calls, with a call -/
def K1 (w0 w : World) (c b A : Nat) (x : Ac) : Prop := ∃ P, PY w0 w c b (N1 w0 b A) A x none 0 P P
/-- the same, with a row of bytes -/
def K2 (w0 w : World) (c b A : Nat) (x : Ac) (a : Option Addr) : Prop := ∃ N P, (∀ k, N1 w0 b A k → N k) ∧ PY w0 w c b N A x a x.len P P
set_option maxHeartbeats 8000000 in
theorem walk (ad : Option Addr) (len cap : Nat) (w : World) (hA : ActsIn w ad len) (hlen : len < 9223372036854775808) :
    Calls Try.prog 3 #[.slice ad len cap] w fun e w' => e = .returned (.bool true) ∧ Below w.heap.size w w' := by
  have HK : Hid (ActsIn w ad len) := hA
  have HN : Hid (_) := new_cx w
  clear hA
  go_enter Try.func3, Try.ntmps3
  go_wp2_with fail
  refine Calls.mono HN.out ?_
  rintro e w1 ⟨rfl, hC, hb, _⟩
  rename_i hsz
  clear HN
  have bA : Below w1.heap.size w1 (w1.alloc (.cells #[.string ByteArray.empty, .string ByteArray.empty, .int .i64 0, .int .i64 0, .int .i64 0] 27)) := (Below.refl _ _).alloc (Nat.le_refl _) _
  have E0 : Hid (PX w (w1.alloc (.cells #[.string ByteArray.empty, .string ByteArray.empty, .int .i64 0, .int .i64 0, .int .i64 0] 27)) w.heap.size w1.heap.size (N0 w w1.heap.size) ⟨[], [], 0, 0⟩ ⟨[], [], 0, 0⟩) := by
    refine ⟨(hC.fresh (Nat.le_refl _) (.of_below bA)).less ?_, ⟨ref0 w1, by simp, by simp⟩, .inr rfl, fun k e => .inl e, hb.trans (bA.mono hb.size), hb.size⟩
    rintro k (e | e)
    · exact .inl e
    · exact .inr ⟨by omega, by simp; omega⟩
  obtain ⟨c, hc⟩ : ∃ c, w.heap.size = c := ⟨_, rfl⟩
  obtain ⟨b, hb'⟩ : ∃ b, w1.heap.size = b := ⟨_, rfl⟩
  rw [hb', hc] at E0
  rw [hc]
  clear hC hb bA hsz
  go_wp2_with fail
  go_loopw [5] (fun q wr => ∃ j : Nat, j ≤ len ∧ q = .int .i64 j ∧ Hid (∃ P, PX w wr c b (N0 w b) P P)) (fun q _ => len - (intOf q).toNat)
  case atStart => exact ⟨0, by omega, rfl, _, E0.out⟩
  case round =>
    obtain ⟨j, hj, rfl, HZ⟩ := hrel
    clear E0
    by_cases hjn : j < len
    · have hjn' : (j : Int) < (len : Int) := by omega
      obtain ⟨kb, off, rfl, hkb, x, ys, hx, hok⟩ := HK.out.at hjn
      obtain ⟨P0, hP0⟩ := HZ.out
      obtain ⟨hbc, _⟩ := bcell hP0.bel
      have k0 := (hbc _ _ hkb).trans (hx 0 _ rfl)
      have k1 := (hbc _ _ hkb).trans (hx 1 _ rfl)
      have k2 := (hbc _ _ hkb).trans (hx 2 _ rfl)
      have k3 := (hbc _ _ hkb).trans (hx 3 _ rfl)
      rw [Nat.add_zero] at k0
      have hkbr : kb < wr.heap.size := by have := hP0.bel.size; omega
      have bA : Below wr.heap.size wr (wr.alloc (.cells #[.int .i64 x.kd, .int .i64 x.fr, .int .i64 x.to, .slice x.a x.len x.cap] 30)) := (Below.refl _ _).alloc (Nat.le_refl _) _
      have HY : Hid (K1 w (wr.alloc (.cells #[.int .i64 x.kd, .int .i64 x.fr, .int .i64 x.to, .slice x.a x.len x.cap] 30)) c b wr.heap.size x) := by
        refine ⟨P0, (hP0.fresh bA).less ?_ (n1_b _ _ _) (n1_old _ _ _), heap_alloc_at _ _, n1_A _ _ _, .inl rfl⟩
        rintro k (e | e)
        · exact .inl e
        · exact .inr ⟨by omega, by simp; omega⟩
      have HA : Hid (AcOk w x ys) := hok
      obtain ⟨A, hA⟩ : ∃ A, wr.heap.size = A := ⟨_, rfl⟩
      rw [hA] at HY
      obtain ⟨t, ht, et⟩ := and_low x.to 1023 1023 rfl (by decide)
      clear hP0 HZ hx hok hbc bA
      go_wp2_with fail
      go_loopw [7] (fun q wr => ∃ k : Nat, k ≤ t + 1 ∧ q = .int .i64 k ∧ Hid (K1 w wr c b A x)) (fun q _ => t + 1 - (intOf q).toNat)
      case atStart => exact ⟨0, by omega, rfl, HY⟩
      case round =>
        obtain ⟨k, hk, rfl, HZ⟩ := hrel
        clear HY k0 k1 k2 k3 hkbr
        obtain ⟨P, hP⟩ := HZ.out
        have HP : Hid (PY w wr c b (N1 w b A) A x none 0 P P) := hP
        obtain ⟨a0, a1, a2, a3, al⟩ := hP.cells
        clear hP HZ
        by_cases hkt : k ≤ t
        · have hkt' : (k : Int) ≤ (t : Int) := by omega
          obtain ⟨y0, rfl⟩ : ∃ y0, y0 = wr := ⟨_, rfl⟩
          have bF : Below y0.heap.size y0 (y0.alloc (.cells #[] 5)) := (Below.refl _ _).alloc (Nat.le_refl _) _
          have hownB : (y0.alloc (.cells #[] 5)).ownsRow y0.heap.size 5 1 (.slice (some ⟨y0.heap.size, 0, none⟩) 0 0) 0 (([] : List Int).map (Value.int .u8)) := World.ownsRow_lit y0 #[] 0 (Nat.le_refl _) (by decide) rfl
          have hsA : SL (y0.alloc (.cells #[] 5)) x.a x.len ys := SL.below (SL.below HA.out.sl HP.out.px.bel) bF
          have HBF : Hid (Below y0.heap.size y0 (y0.alloc (.cells #[] 5))) := bF
          have hle := HA.out.le
          clear bF
          go_upto_region 11 with fail
          go_cut [8] from 35 to 109 (fun p wx => ∃ a1 c1, p = .slice a1 x.len c1 ∧ Hid (SL wx a1 x.len ys ∧ (a1 = none → x.len = 0 ∧ c1 = 0) ∧ x.len ≤ c1 ∧ K2 w wx c b A x a1))
          case first =>
            go_wp2_with (at_builtin; refine wpList_append_sl rfl (.tmp 42) (.tmp 44) rfl y0.heap.size (.slice (some ⟨y0.heap.size, 0, none⟩) 0 0) 0 [] rfl hownB _ x.len x.cap ys rfl HA.out.nil hsA (by omega) (by simp) ?_; intro v1 y1 hown1 hgrow1; rw [Nat.zero_add, List.nil_append] at hown1; obtain ⟨a1, c1, rfl, hs1, hc1, hn1, hr1⟩ := own_row hown1 HA.out.sl.2.1)
            have bw : Below y0.heap.size y0 y1 := HBF.out.grown hgrow1 (by simp) (by intro k h; cases h; exact Nat.le_refl _)
            have HG : Hid (SL y1 a1 x.len ys ∧ (a1 = none → x.len = 0 ∧ c1 = 0) ∧ x.len ≤ c1 ∧ K2 w y1 c b A x a1) := ⟨hs1, hn1, hc1, _, P, fun k e => .inl e, HP.out.open bw hr1⟩
            clear hown1 hgrow1 hs1 hn1 hc1 hr1 bw
            go_meet
            case rel => exact ⟨a1, c1, rfl, HG⟩
          case rest =>
            obtain ⟨a1', c1, rfl, HG⟩ := hcut
            clear hownB hsA HBF HP a0 a1 a2 a3 al
            obtain ⟨y1, rfl⟩ : ∃ y1, y1 = wc := ⟨_, rfl⟩
            go_step
            go_step
            go_cut [9, 10, 11, 12] from 35 to 109 (fun _ _ _ _ wx => True ∧ Hid (K2 w wx c b A x a1'))
            case first =>
             as_aux_lemma =>
              obtain ⟨N, P, hN, hP⟩ := HG.out.2.2.2
              obtain ⟨a0, a1, a2, a3, al⟩ := hP.cells
              have HSL := HG.out.1
              have hfr : x.fr < 9223372036854775808 := by have := bounds_i64 HA.out.wi; omega
              have HN : Hid (∀ k, N1 w b A k → N k) := hN
              clear hN
              by_cases h0 : x.kd = 0
              · rw [h0] at a0
                have C1 := hP.input HSL HG.out.2.1 HG.out.2.2.1 HA.out.le
                obtain ⟨q, HQ⟩ : ∃ q, Hid (tkn (4096 - P.W.length) x.len = q) := ⟨_, rfl⟩
                rw [HQ.out] at C1
                clear hP HSL h0 hfr
                go_wp2_with fail
                refine C1.mono ?_
                rintro e y2 ⟨rfl, hY2⟩
                clear C1 a0 a1 a2 a3 al
                obtain ⟨a0, a1, a2, a3, al⟩ := hY2.cells
                have D2 := hY2.rinput HA.out.sl HA.out.cap_le HA.out.le
                rw [HQ.out] at D2
                clear hY2
                go_wp2_with fail
                refine D2.mono ?_
                rintro e y3 ⟨rfl, hY3⟩
                have HF : Hid (K2 w y3 c b A x a1') := ⟨_, _, HN.out, hY3⟩
                clear D2 hY3 a0 a1 a2 a3 al
                go_wp2_with fail
                go_meet
                case rel => exact ⟨trivial, HF⟩
              by_cases h1 : x.kd = 1
              · rw [h1] at a0
                have bD : Below y1.heap.size y1 y1.drew := (Below.refl _ _).drew
                have e1 : y1.drew.cell? ⟨A, 1, none⟩ = some (.int .i64 x.fr) := a1
                have C1 := (hP.below bD).read x.fr hfr
                have HW : Hid (wrap64 P.r = P.r) := hP.px.wr
                obtain ⟨SR, HSR⟩ : ∃ SR, Hid (strOfNums (P.W.take (rk P.W x.fr)) = SR) := ⟨_, rfl⟩
                clear hP HSL bD h0 h1
                go_wp2_with fail
                go_region_held (fun w' => w'.cell? ⟨A, 1, none⟩ = some (.int .i64 x.fr)) (first | exact e1 | exact e2 | exact e3)
                  (first
                    | (go_at_call 10; refine C1.mono ?_; rintro e y2 ⟨ra, rc, rfl, hsl, hY2⟩; obtain ⟨_, e2, _, _, _⟩ := hY2.cells; (have cv2 := conv_sl rc hsl); rw [HSR.out] at cv2; (have D2 := hY2.rtake x.fr hfr HW.out hsl); rw [HSR.out] at D2)
                    | (go_at_call 11; refine D2.mono ?_; rintro e y3 ⟨rfl, hY3, hsl3⟩; obtain ⟨_, e3, _, _, _⟩ := hY3.cells; (have cv3 := conv_sl rc hsl3); rw [HSR.out] at cv3))
                all_goals
                  have HF : Hid (K2 w y3 c b A x a1') := ⟨_, _, HN.out, hY3⟩
                  clear C1 D2 e1 e2 e3 hY2 hY3 hsl hsl3 cv2 cv3 a0 a1 a2 a3 al
                  go_wp2_with fail
                  go_meet
                  case rel => exact ⟨trivial, HF⟩
              by_cases h2 : x.kd = 2
              · rw [h2] at a0
                have C1 := hP.write HSL HG.out.2.1 HG.out.2.2.1 HA.out.le
                obtain ⟨q, HQ⟩ : ∃ q, Hid (tkn (1048576 - P.O.length) x.len = q) := ⟨_, rfl⟩
                rw [HQ.out] at C1
                clear hP HSL h0 h1 h2 hfr
                go_wp2_with fail
                refine C1.mono ?_
                rintro e y2 ⟨rfl, hY2⟩
                clear C1 a0 a1 a2 a3 al
                obtain ⟨a0, a1, a2, a3, al⟩ := hY2.cells
                have D2 := hY2.rwrite HA.out.sl HA.out.cap_le HA.out.le
                rw [HQ.out] at D2
                clear hY2
                go_wp2_with fail
                refine D2.mono ?_
                rintro e y3 ⟨rfl, hY3⟩
                have HF : Hid (K2 w y3 c b A x a1') := ⟨_, _, HN.out, hY3⟩
                clear D2 hY3 a0 a1 a2 a3 al
                go_wp2_with fail
                go_meet
                case rel => exact ⟨trivial, HF⟩
              have b0 : (x.kd == 0) = false := beq_false_of_ne h0
              have b1 : (x.kd == 1) = false := beq_false_of_ne h1
              have b2 : (x.kd == 2) = false := beq_false_of_ne h2
              have HF : Hid (K2 w y1 c b A x a1') := HG.out.2.2.2
              clear hP HSL a1 a2 a3
              go_wp2_with fail
              go_meet
              case rel => exact ⟨trivial, HF⟩
            case rest =>
             as_aux_lemma =>
              obtain ⟨_, HT⟩ := hcut
              clear HG
              obtain ⟨y2, rfl⟩ : ∃ y2, y2 = wc := ⟨_, rfl⟩
              go_wp2_with fail
              go_loopw [13] (fun q wr => ∃ j : Nat, j ≤ x.len ∧ q = .int .i64 j ∧ Hid (K2 w wr c b A x a1')) (fun q _ => x.len - (intOf q).toNat)
              case atStart => exact ⟨0, by omega, rfl, HT⟩
              case round =>
                obtain ⟨q, hq, rfl, HQ⟩ := hrel
                clear HT
                by_cases hqn : q < x.len
                · have hq' : (q : Int) < (x.len : Int) := by omega
                  obtain ⟨N, P, hN, hP⟩ := HQ.out
                  obtain ⟨X, rfl, xl, ⟨z, cz⟩, fz, hP'⟩ := hP.lturn hqn
                  have EN : Hid (∀ z', K2 w (wr.setCell ⟨X, q, none⟩ (.int .u8 z')) c b A x (some ⟨X, 0, none⟩)) := fun z' => ⟨N, P, hN, hP' z'⟩
                  clear hP HQ hP' hN
                  go_wp2_with fail
                  go_roundw
                  case rel => exact ⟨q + 1, by omega, by go_num, EN.out _⟩
                  case measure => simp [intOf]; omega
                · have hq9 : (x.len : Int) ≤ (q : Int) := by omega
                  have HF : Hid (K1 w wr c b A x) := by
                    obtain ⟨N, P, hN, hP⟩ := HQ.out
                    exact ⟨P, hP.less hN (n1_b _ _ _) (n1_old _ _ _) (n1_A _ _ _)⟩
                  clear HQ
                  go_wp2_with fail
                  go_roundw
                  case rel => exact ⟨k + 1, by omega, by go_num, HF⟩
                  case measure => simp [intOf]; omega
        · have hkt' : (t : Int) < (k : Int) := by omega
          have bD : Below wr.heap.size wr wr.drew := (Below.refl _ _).drew
          have hX := HP.out.px.below bD
          obtain ⟨_, r1, r2, r3, r4⟩ := hX.rc.cells
          have e1 : wr.drew.cell? ⟨b, 1, none⟩ = some (.string (strOfNums P.O)) ∧ wr.drew.cell? ⟨b, 2, none⟩ = some (.int .i64 (wrap64 (P.r + P.W.length))) ∧ wr.drew.cell? ⟨b, 3, none⟩ = some (.int .i64 P.d) ∧ wr.drew.cell? ⟨b, 4, none⟩ = some (.int .i64 P.r) := ⟨r1, r2, r3, r4⟩
          have hbl : b < wr.heap.size := hX.rc.lt
          have C1 := hX.counts
          have HX : Hid (PX w wr.drew c b (N1 w b A) P P) := hX
          have hsO : (strOfNums P.O).size = P.O.length := strOfNums_size _
          simp only [cntV] at C1
          obtain ⟨m, HM⟩ : ∃ m, Hid (wrap64 (P.r + P.W.length) = m) := ⟨_, rfl⟩
          obtain ⟨SO, HSO⟩ : ∃ SO, Hid (strOfNums P.O = SO) := ⟨_, rfl⟩
          rw [HM.out] at e1 C1
          rw [HSO.out] at e1 hsO
          clear bD hX r1 r2 r3 r4 HP a0 a1 a3
          go_wp2_with fail
          go_region_held2 (fun w' => w'.cell? ⟨b, 1, none⟩ = some (.string SO) ∧ w'.cell? ⟨b, 2, none⟩ = some (.int .i64 m) ∧ w'.cell? ⟨b, 3, none⟩ = some (.int .i64 P.d) ∧ w'.cell? ⟨b, 4, none⟩ = some (.int .i64 P.r)) (first | exact e1 | exact e2)
            (first | (go_at_call 14; refine C1.mono ?_; rintro e y2 ⟨rfl, hb2⟩; have e2 := (HX.out.below hb2).docs HSO.out HM.out))
          have HF : Hid (∃ P, PX w y2 c b (N0 w b) P P) := ⟨P, (HX.out.below hb2).less (fun k e => .inl e) (.inr rfl) (fun k e => .inl e)⟩
          clear C1 e1 e2 hb2 HX HM HSO hsO
          go_wp2_with fail
          go_roundw
          case rel => exact ⟨j + 1, by omega, by go_num, HF⟩
          case measure => simp [intOf]; omega
    · have hj9 : (len : Int) ≤ (j : Int) := by omega
      have hd9 : decide (j < len) = false := decide_eq_false hjn
      obtain ⟨P, hP⟩ := HZ.out
      have W1 := hP.written
      have HP : Hid (PX w wr c b (N0 w b) P P) := hP
      have hlO := hP.lenO
      clear hP HZ
      go_wp2_with fail
      refine W1.mono ?_
      rintro e y1 ⟨a, cp, rfl, hsl, hb1, hr1⟩
      have E1 : Hid (∃ N, (∀ k, N0 w b k → N k) ∧ PX w y1 c b N P P ∧ Row w y1 N a P.O.length) := by
        refine ⟨_, fun k e => .inl e, HP.out.fresh hb1, ?_⟩
        rcases hr1 with h0 | ⟨X, rfl, hi, hl⟩
        · exact .inl h0
        · exact .inr ⟨X, rfl, hi, .inr ⟨hl, hi.lt⟩, Nat.le_trans HP.out.bel.size hl⟩
      clear W1 hsl hb1 hr1 HP
      obtain ⟨wq, rfl⟩ : ∃ wq, wq = wr := ⟨_, rfl⟩
      go_wp2_with fail
      go_loopw [15] (fun q wr => ∃ j : Nat, j ≤ P.O.length ∧ q = .int .i64 j ∧ Hid (∃ N, (∀ k, N0 w b k → N k) ∧ PX w wr c b N P P ∧ Row w wr N a P.O.length)) (fun q _ => P.O.length - (intOf q).toNat)
      case atStart => exact ⟨0, by omega, rfl, E1⟩
      case round =>
        obtain ⟨q, hq, rfl, HQ⟩ := hrel
        clear E1
        by_cases hqn : q < P.O.length
        · have hq' : (q : Int) < (P.O.length : Int) := by omega
          obtain ⟨N, hN, hP, hr⟩ := HQ.out
          obtain ⟨X, rfl, xl, ⟨z, cz⟩, fz, hP'⟩ := hP.lturn hr hqn
          have EN : Hid (∀ z', ∃ N, (∀ k, N0 w b k → N k) ∧ PX w (wr.setCell ⟨X, q, none⟩ (.int .u8 z')) c b N P P ∧ Row w (wr.setCell ⟨X, q, none⟩ (.int .u8 z')) N (some ⟨X, 0, none⟩) P.O.length) := fun z' => ⟨N, hN, hP' z'⟩
          clear hP HQ hP' hN hr
          go_wp2_with fail
          go_roundw
          case rel => exact ⟨q + 1, by omega, by go_num, EN.out _⟩
          case measure => simp [intOf]; omega
        · have hq9 : (P.O.length : Int) ≤ (q : Int) := by omega
          obtain ⟨N, hN, hP, hr⟩ := HQ.out
          have bD : Below wr.heap.size wr wr.drew := (Below.refl _ _).drew
          have hX := hP.below bD
          have hbl : b < wr.heap.size := hP.rc.lt
          have e1 : wr.drew.cell? ⟨b, 1, none⟩ = some (.string (strOfNums P.O)) := hX.rc.cells.2.1
          have C1 := hX.written
          have HX : Hid (PX w wr.drew c b N P P) := hX
          obtain ⟨SO, HSO⟩ : ∃ SO, Hid (strOfNums P.O = SO) := ⟨_, rfl⟩
          rw [HSO.out] at e1
          clear bD hX hP HQ hN hr
          go_wp2_with fail
          go_region_held (fun w' => w'.cell? ⟨b, 1, none⟩ = some (.string SO)) (first | exact e1 | exact e2)
            (first | (go_at_call 15; refine C1.mono ?_; rintro e y2 ⟨ra, rc, rfl, hsl, hb2, _⟩; (have e2 := (HX.out.below hb2).docO HSO.out); (have cv := conv_sl rc hsl); rw [HSO.out] at cv))
          all_goals
            have HB : Hid (Below w.heap.size w y2) := (HX.out.below hb2).bel
            clear C1 e1 e2 hb2 HX HSO hsl cv
            go_wp2_with fail
            go_ret
            exact ⟨rfl, HB.out⟩
end consolePlays
end Go.Proofs.Ytbncgmjjkoedhaa
