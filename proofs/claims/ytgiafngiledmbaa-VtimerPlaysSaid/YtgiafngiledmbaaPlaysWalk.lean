/-
  The walk of VtimerPlays.
-/
import Derived.Test.YtgiafngiledmbaaDs
import Derived.Test.YtgiafngiledmbaaDt
namespace Go.Proofs.Ytgiafngiledmbaa
open Go.RowKit Go.Maps
set_option linter.unusedVariables false
set_option maxRecDepth 100000
theorem does_any {KP : Nat → Array Value → Prop} {w0 w : World} {t ms mt r : Nat} {L : List Tm} (h : PX KP w0 w t ms mt r L L) (x : Ac) (ok : AcOk x) : Calls Try.prog 9 #[.pointer (some ⟨t, 0, none⟩), .pointer (some ⟨r, 0, none⟩), .agg (acA x)] w fun e w' => e = .returned (.bool true) ∧ ∃ T, PX KP w0 w' t ms mt r T T := by
  by_cases n : ∀ i : Nat, i < 7 → x.kd ≠ i
  · exact does_o h x ok n
  · by_cases h0 : x.kd = 0; exact does_k0 h x ok h0
    by_cases h1 : x.kd = 1; exact does_k1 h x ok h1
    by_cases h2 : x.kd = 2; exact does_k2 h x ok h2
    by_cases h3 : x.kd = 3; exact does_k3 h x ok h3
    by_cases h4 : x.kd = 4; exact does_k4 h x ok h4
    by_cases h5 : x.kd = 5; exact does_k5 h x ok h5
    by_cases h6 : x.kd = 6; exact does_k6 h x ok h6
    exact absurd (fun i hi => by omega) n
theorem PX.weak {KP : Nat → Array Value → Prop} {w0 w : World} {t ms mt r : Nat} {L K : List Tm} (h : PX KP w0 w t ms mt r L K) : PX (fun _ _ => False) w0 w t ms mt r L K := ⟨h.bel, h.vx, h.dx, h.low, fun _ _ h => h.elim⟩
/-- one act kept -/
def AK (q : Nat) (x : Ac) (k : Nat) (cs : Array Value) : Prop := k = q ∧ cs = acA x
theorem PX.keep1 {w0 w : World} {t ms mt r : Nat} {L K : List Tm} (h : PX (fun _ _ => False) w0 w t ms mt r L K) (x : Ac) : PX (AK w.heap.size x) w0 (w.alloc (.cells (acA x) 32)) t ms mt r L K := by
  have b := h.below (below_box w (.cells (acA x) 32))
  exact ⟨b.bel, b.vx, b.dx, b.low, fun k cs hk => by obtain ⟨rfl, rfl⟩ := hk; exact heap_alloc_at _ _⟩
theorem PX.at1 {w0 w : World} {t ms mt r q : Nat} {x : Ac} {L K : List Tm} (h : PX (AK q x) w0 w t ms mt r L K) : (w.cell? ⟨q, 0, none⟩ = some (.int .i64 x.kd) ∧ w.cell? ⟨q, 1, none⟩ = some (.int .i64 x.id) ∧ w.cell? ⟨q, 2, none⟩ = some (.int .u64 x.nn)) ∧ q < w.heap.size := by
  have e := h.kp q _ ⟨rfl, rfl⟩
  exact ⟨⟨cell_at e 0, cell_at e 1, cell_at e 2⟩, lt_of_heap e⟩
theorem rnew_px {w0 w : World} {t ms mt : Nat} (h : VX w t ms mt []) (hb : Below w0.heap.size w0 w) (hl : w0.heap.size ≤ t ∧ w0.heap.size ≤ ms ∧ w0.heap.size ≤ mt) : PX (fun _ _ => False) w0 (w.alloc (.cells #[.slice none 0 0] 28)) t ms mt w.heap.size [] [] :=
  ⟨hb.alloc hb.size _, h.below (below_box _ _), ⟨_, ⟨heap_alloc_at _ _, .inl ⟨rfl, rfl⟩, h.ok⟩, fun k hk => by cases hk⟩, ⟨hl.1, hl.2.1, hl.2.2, hb.size⟩, fun _ _ h => h.elim⟩
set_option maxHeartbeats 12800000 in
theorem pwalk (ad : Option Addr) (len cap : Nat) (w : World) (hK : ActsIn w ad len) (hl : (len : Int) ≤ 9223372036854775807) : Calls Try.prog 3 #[.slice ad len cap] w fun e w' => e = .returned (.bool true) ∧ Below w.heap.size w w' := by
  have HK : Hid (ActsIn w ad len) := hK
  clear hK
  have C1 := new_any w
  go_enter Try.func3, Try.ntmps3
  go_wp2_with fail
  refine C1.mono ?_
  rintro e w1 ⟨t, ms, mt, rfl, hv, hb, l1, l2, l3⟩
  have H1 : Hid (PX (fun _ _ => False) w (w1.alloc (.cells #[.slice none 0 0] 28)) t ms mt w1.heap.size [] []) := rnew_px hv hb ⟨l1, l2, l3⟩
  have C2 := fun w' => names_any w'
  clear hv hb l1 l2 l3 C1
  go_wp2_with fail
  refine (C2 _).mono ?_
  rintro e w2 ⟨rfl, rfl⟩
  generalize w1.heap.size = r at *
  generalize w1.alloc (.cells #[.slice none 0 0] 28) = y0 at *
  clear C2
  go_wp2_with fail
  go_loopw [5] (fun q wr => ∃ j : Nat, j ≤ len ∧ q = .int .i64 j ∧ ∃ L, Hid (PX (fun _ _ => False) w wr t ms mt r L L)) (fun q _ => len - (intOf q).toNat)
  case atStart => exact ⟨0, by omega, rfl, _, H1⟩
  case round =>
    obtain ⟨j, hj, rfl, L, HJ⟩ := hrel
    clear H1
    by_cases hjn : j < len
    · have hjn' : (j : Int) < len := by omega
      have hj0 : (j : Int) < 9223372036854775807 := by omega
      obtain ⟨B, off, rfl, hB, x, hx, hA⟩ := HK.out.at hjn
      obtain ⟨a0, a1, a2⟩ := hA.below HJ.out.bel hB
      have lB : B < wr.heap.size := Nat.lt_of_lt_of_le hB HJ.out.bel.size
      have H2 : Hid (PX (AK wr.heap.size x) w (wr.alloc (.cells (acA x) 32)) t ms mt r L L) := HJ.out.keep1 x
      have HX : Hid (AcOk x) := hx
      have K1 := does_any H2.out x HX.out
      obtain ⟨⟨b0, b1, b2⟩, bl⟩ := H2.out.at1
      unfold acA at K1 b0 b1 b2 bl
      have HLN : Hid (j < len ∧ (j : Int) < 9223372036854775807) := ⟨hjn, hj0⟩
      clear HJ hA hx hB hl hj H2
      go_wp2_with fail
      refine K1.mono ?_
      rintro e x1 ⟨rfl, T, px⟩
      have HT : Hid (PX (AK wr.heap.size x) w x1 t ms mt r T T) := px
      clear px K1 a0 a1 a2 lB hjn' hj0 hjn b0 b1 b2 bl
      generalize wr.heap.size = q at *
      obtain ⟨⟨c0, c1, c2⟩, cl⟩ := HT.out.at1
      have K2 := now_vx HT.out.vx HX.out.1 HX.out.2.1
      obtain ⟨nr, hnr⟩ : ∃ nr, nowR T x.id x.nn = nr := ⟨_, rfl⟩
      obtain ⟨fs, hfs⟩ : ∃ fs, (fnd T x.id).isSome = fs := ⟨_, rfl⟩
      rw [hnr, hfs] at K2
      go_wp2_with fail
      refine K2.mono ?_
      rintro e y1 ⟨rfl, hb1⟩
      have HT1 : Hid (PX (AK q x) w y1 t ms mt r T T) := HT.out.below hb1
      clear HT hb1 K2 c0 c1 c2 cl
      obtain ⟨⟨c0, c1, c2⟩, cl⟩ := HT1.out.at1
      obtain ⟨v1, dv1, _⟩ := HT1.out.dx
      have K3 := rnow_dx dv1 x.id x.nn HX.out.2.1
      rw [hnr, hfs] at K3
      clear dv1
      go_wp2_with fail
      refine K3.mono ?_
      rintro e y2 ⟨rfl, hb2⟩
      have HT2 : Hid (PX (AK q x) w y2 t ms mt r T T) := HT1.out.below hb2
      clear HT1 hb2 K3 c0 c1 c2 cl hnr hfs
      have K4 := next_vx HT2.out.vx
      go_wp2_with fail
      refine K4.mono ?_
      rintro e y3 ⟨⟨n1, hn1, rfl⟩, hb3⟩
      have HT3 : Hid (PX (AK q x) w y3 t ms mt r T T) := HT2.out.below hb3
      clear HT2 hb3 K4
      obtain ⟨v2, dv2, _⟩ := HT3.out.dx
      have K5 := rnext_dx dv2
      clear dv2
      go_wp2_with fail
      refine K5.mono ?_
      rintro e y4 ⟨⟨n2, hn2, rfl⟩, hb4⟩
      obtain rfl := hn1.one hn2
      have HT4 : Hid (PX (fun _ _ => False) w y4 t ms mt r T T) := (HT3.out.below hb4).weak
      have hj0 := HLN.out.2
      clear HT3 hb4 K5 hn1 hn2
      go_wp2_with fail
      go_roundw
      case rel => exact ⟨j + 1, by have := HLN.out.1; omega, by go_num, _, HT4⟩
      case measure => have := HLN.out.1; simp [intOf]; omega
    · obtain rfl : j = len := by omega
      have hB : Hid (_) := HJ.out.bel
      clear HJ HK hl
      go_wp2_with fail
      go_ret
      exact ⟨rfl, hB.out⟩
end Go.Proofs.Ytgiafngiledmbaa
