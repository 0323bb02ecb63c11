/-
  What is found allows what was asked for, and lies in a frame that the second stage names in one of its tables: the walk of WalkLies.
-/
import Derived.Test.YtbaagnfcdphddaaDoorLies
import Derived.Test.YtbaagnfcdphddaaDoorLawB
namespace Go.Proofs.YtbaagnfcdphddaaDoor
open Go.RowKit
set_option linter.unusedVariables false
set_option maxRecDepth 20000

def askIn (first second t a : Int) (u : Bool) : Value := .agg #[.int .i64 first, .int .i64 second, .int .u64 t, .int .i64 a, .bool u]

namespace walkLies
set_option maxHeartbeats 3200000 in
theorem walk_trap (ad : Option Addr) (n cap : Nat) (ss : List Sl) (first second t a : Int) (u : Bool) (W : World) (hz : SZ W) (hbt : BT W) (hs : SlotsIn W ad n ss) (hcap : n ≤ cap) (hm : cap ≤ 9223372036854775807)
    (h0 : 0 ≤ t) (h1 : t < 18446744073709551616) (hr1 : first < 9223372036854775808) (hs1 : second < 9223372036854775808) (c v g' : Int) (hT : twoP (memOf ss) first second t a u = .no c v g') :
    Calls Tryd.prog 3 #[.slice ad n cap, askIn first second t a u] W fun e W' => e = .returned (.bool true) ∧ Below W.heap.size W W' := by
  obtain ⟨hx, rfl⟩ := twoP_no hT
  have C1 := fun w (hb : Below W.heap.size W w) => lawBoth ad n cap ss w (hz.below hb) (hbt.below hb) ⟨hs.1, hs.2.imp id (fun ⟨B, off, h2, h3, h4⟩ => ⟨B, off, h2, Nat.lt_of_lt_of_le h3 hb.size, fun i s hi => (h4 i s hi).below h3 hb⟩)⟩ hcap hm
  have C2 := fun b g w h => two_any v a u first second b g (memOf ss) h0 h1 hr1 hs1 w h
  rw [hT] at C2
  have HZ : Hid (_) := hz
  have HT : Hid (_) := hbt
  clear hz hbt hs hT
  generalize memOf ss = zs at *
  unfold askIn Fr.val trapV foundV at *
  simp only at C2
  go_enter Tryd.func3, Tryd.ntmps3
  go_wp2_with fail
  refine (C1 _ ((Below.refl _ _).alloc (Nat.le_refl _) _)).mono ?_
  rintro e w1 ⟨b, g, cc, rfl, m1, hb1⟩
  have HB1 : Hid (Below W.heap.size W w1) := ((Below.refl _ _).alloc (Nat.le_refl _) _).trans (hb1.mono (by simp))
  obtain ⟨n0, o0⟩ := bel_cell hb1 (b := W.heap.size) (by simp)
  have z1 : W.heap.size < w1.heap.size := by have := hb1.size; simp at this; omega
  have S1 : Hid (St w1 b g zs) := ⟨HZ.out.below HB1.out, HT.out.below HB1.out, m1⟩
  clear hb1 m1 C1
  go_wp2_with fail
  refine (C2 b g _ S1.out).mono ?_
  rintro e w2 ⟨rfl, hb2⟩
  have HB2 : Hid (Below W.heap.size W w2) := HB1.out.trans (hb2.mono (by omega))
  obtain ⟨p0, q0⟩ := bel_cell hb2 z1
  have z2 : W.heap.size < w2.heap.size := by have := hb2.size; omega
  clear hb2 C2
  go_wp2_with fail
  all_goals
    go_ret
    exact ⟨ret_bool (by simp), (HB2.out.alloc (by omega) _).alloc (by simp <;> omega) _⟩

set_option maxHeartbeats 3200000 in
theorem walk_found0 (ad : Option Addr) (n cap : Nat) (ss : List Sl) (first second t : Int) (W : World) (hz : SZ W) (hbt : BT W) (hs : SlotsIn W ad n ss) (hcap : n ≤ cap) (hm : cap ≤ 9223372036854775807)
    (h0 : 0 ≤ t) (h1 : t < 18446744073709551616) (hr1 : first < 9223372036854775808) (hs1 : second < 9223372036854775808) (f l : Int) (r w k : Bool) (hT : twoP (memOf ss) first second t 0 k = .ok f r w true k l)
    (U L : Nat) (E : En) (hU : U < 32) (hL : L < 32) (hE : E.f = f) (hO : oneP (memOf ss) second ((U : Int) * 8192 + L * 256) 0 true = some E) :
    Calls Tryd.prog 3 #[.slice ad n cap, askIn first second t 0 k] W fun e W' => e = .returned (.bool true) ∧ Below W.heap.size W W' := by
  have C1 := fun w (hb : Below W.heap.size W w) => lawBoth ad n cap ss w (hz.below hb) (hbt.below hb) ⟨hs.1, hs.2.imp id (fun ⟨B, off, h2, h3, h4⟩ => ⟨B, off, h2, Nat.lt_of_lt_of_le h3 hb.size, fun i s hi => (h4 i s hi).below h3 hb⟩)⟩ hcap hm
  have C2 := fun b g w h => two_any t 0 k first second b g (memOf ss) h0 h1 hr1 hs1 w h
  have C3 := fun (b g : Nat) (q : Int) (hq0 : 0 ≤ q) (hq1 : q < 18446744073709551616) w h => one_any q 0 true second b g (memOf ss) hq0 hq1 hs1 w h
  rw [hT] at C2
  have HZ : Hid (_) := hz
  have HT : Hid (_) := hbt
  have HO : Hid (_) := hO
  have HEF : Hid (_) := hE
  clear hz hbt hs hT hO hE
  generalize memOf ss = zs at *
  unfold askIn Fr.val trapV foundV at *
  simp only at C2
  go_enter Tryd.func3, Tryd.ntmps3
  go_wp2_with fail
  refine (C1 _ ((Below.refl _ _).alloc (Nat.le_refl _) _)).mono ?_
  rintro e w1 ⟨b, g, cc, rfl, m1, hb1⟩
  have HB1 : Hid (Below W.heap.size W w1) := ((Below.refl _ _).alloc (Nat.le_refl _) _).trans (hb1.mono (by simp))
  obtain ⟨n0, o0⟩ := bel_cell hb1 (b := W.heap.size) (by simp)
  have z1 : W.heap.size < w1.heap.size := by have := hb1.size; simp at this; omega
  have S1 : Hid (St w1 b g zs) := ⟨HZ.out.below HB1.out, HT.out.below HB1.out, m1⟩
  clear hb1 m1 C1
  go_wp2_with fail
  refine (C2 b g _ S1.out).mono ?_
  rintro e w2 ⟨rfl, hb2⟩
  have HB2 : Hid (Below W.heap.size W w2) := HB1.out.trans (hb2.mono (by omega))
  have S2 : Hid (St w2 b g zs) := S1.out.below hb2
  obtain ⟨p0, q0⟩ := bel_cell hb2 z1
  have z2 : W.heap.size < w2.heap.size := by have := hb2.size; omega
  clear hb2 C2 HB1 S1
  go_wp2_with fail
  obtain ⟨WX, HWX⟩ : ∃ WX, Hid (WX = (w2.alloc (.cells #[.int .i64 f, .bool r, .bool w, .bool true, .bool k, .int .i64 l] 31)).alloc (.cells #[.int .i64 0, .int .u64 0, .int .u64 0] 33)) := ⟨_, rfl⟩
  rw [← HWX.out]
  have BX : Hid (Below w2.heap.size w2 WX) := by show Below _ _ _; rw [HWX.out]; exact ((Below.refl _ _).alloc (Nat.le_refl _) _).alloc (by simp) _
  have zX : WX.heap.size = w2.heap.size + 2 := by rw [HWX.out]; simp
  have a1 : WX.cell? ⟨W.heap.size, 1, none⟩ = some (.int .i64 second) := ((bel_cell BX.out z2).1 1).trans (by simp [p0, n0])
  have a3 : WX.cell? ⟨W.heap.size, 3, none⟩ = some (.int .i64 0) := ((bel_cell BX.out z2).1 3).trans (by simp [p0, n0])
  have ff : WX.cell? ⟨w2.heap.size, 0, none⟩ = some (.int .i64 f) := by rw [HWX.out]; simp [go_sem]
  have SX : Hid (St WX b g zs) := S2.out.below BX.out
  have HX : Hid (Below W.heap.size W WX) := HB2.out.trans (BX.out.mono (by omega))
  clear p0 q0 n0 o0 S2 HWX BX HB2 z1
  go_loopw [10] (fun i wr => ∃ kk : Nat, kk ≤ U ∧ i = .int .i64 kk ∧ Below WX.heap.size WX wr) (fun i _ => 32 - (intOf i).toNat)
  case atStart => exact ⟨0, by omega, rfl, Below.refl _ _⟩
  case round =>
    obtain ⟨kk, hkk, rfl, hbr⟩ := hrel
    have HBR : Hid (_) := hbr
    have hk32 : (kk : Int) < 32 := by omega
    clear hbr
    go_wp2_with fail
    go_loopw [11] (fun i wq => ∃ jj : Nat, jj ≤ 32 ∧ (kk = U → jj ≤ L) ∧ i = .int .i64 jj ∧ Below WX.heap.size WX wq) (fun i _ => 32 - (intOf i).toNat)
    case atStart => exact ⟨0, by omega, by omega, rfl, HBR.out⟩
    case round =>
      obtain ⟨jj, hjj, hju, rfl, hbq⟩ := hrel
      by_cases hlt : jj < 32
      · have CJ := join_any kk jj 0
        have e1 : joinN kk jj 0 = (kk : Int) * 8192 + jj * 256 := by unfold joinN joinB; simp; omega
        have e2 : joinE kk jj 0 = 0 := by unfold joinE joinB; simp; omega
        rw [e1, e2] at CJ
        clear e1 e2
        have CO := fun w h => C3 b g ((kk : Int) * 8192 + jj * 256) (by omega) (by omega) w h
        obtain ⟨d0, _⟩ := bel_cell hbq (b := W.heap.size) (by omega)
        obtain ⟨d1, _⟩ := bel_cell hbq (b := w2.heap.size) (by omega)
        have k1 := (d0 1).trans a1
        have k3 := (d0 3).trans a3
        have k4 := (d1 0).trans ff
        have zq : W.heap.size < wr.heap.size := by have := hbq.size; omega
        have zq2 : w2.heap.size < wr.heap.size := by have := hbq.size; omega
        have SQ : Hid (_) := SX.out.below hbq
        have HBQ : Hid (_) := hbq
        clear hbq d0 d1 C3 a1 a3 ff
        have hit : ∀ o, oneP zs second ((kk : Int) * 8192 + jj * 256) 0 true = o → (∀ e, o = some e → ¬ e.f = f) → kk = U → jj < L := by
          intro o ho hne h
          have := hju h
          rcases Nat.lt_or_ge jj L with h' | h'
          · exact h'
          · exfalso
            obtain rfl : jj = L := by omega
            subst h
            rw [HO.out] at ho
            exact hne E ho.symm HEF.out
        cases hq : oneP zs second ((kk : Int) * 8192 + jj * 256) 0 true with
        | none =>
          have hne := hit _ hq (fun e h => by cases h)
          rw [hq] at CO
          unfold oneV foundV at CO
          clear hit hq
          go_wp2_with fail
          refine (CJ _).mono ?_
          rintro e y0 ⟨rfl, rfl⟩
          clear CJ
          go_wp2_with fail
          refine (CO _ SQ.out).mono ?_
          rintro e y1 ⟨rfl, hb1⟩
          have HY : Hid (_) := HBQ.out.trans (hb1.mono HBQ.out.size)
          have zy : WX.heap.size ≤ y1.heap.size := HY.out.size
          clear CO hb1 k1 k3 k4 SQ HBQ
          go_wp2_with fail
          go_roundw
          case rel => exact ⟨jj + 1, by omega, fun h => (by have := hne h; omega), by go_num, HY.out.alloc zy _⟩
          case measure => simp [intOf]; omega
        | some E' =>
          rw [hq] at CO
          unfold oneV foundV at CO
          by_cases hf : E'.f = f
          · clear hit hq
            obtain ⟨xv, xr, xw, xx, xu, xs, xd, xf⟩ := E'
            simp only at CO hf
            subst hf
            go_wp2_with fail
            refine (CJ _).mono ?_
            rintro e y0 ⟨rfl, rfl⟩
            clear CJ
            go_wp2_with fail
            refine (CO _ SQ.out).mono ?_
            rintro e y1 ⟨rfl, hb1⟩
            have HY : Hid (_) := HBQ.out.trans (hb1.mono HBQ.out.size)
            have zy : WX.heap.size ≤ y1.heap.size := HY.out.size
            have zy2 : w2.heap.size < y1.heap.size := by omega
            have k5 := ((bel_cell hb1 zq2).1 0).trans k4
            clear CO hb1 k1 k3 k4 SQ HBQ
            go_wp2_with fail
            go_ret
            exact ⟨rfl, HX.out.trans ((HY.out.alloc zy _).mono HX.out.size)⟩
          · have hne := hit _ hq (fun e h => by cases h; exact hf)
            clear hit hq
            obtain ⟨xv, xr, xw, xx, xu, xs, xd, xf⟩ := E'
            simp only at CO hf
            go_wp2_with fail
            refine (CJ _).mono ?_
            rintro e y0 ⟨rfl, rfl⟩
            clear CJ
            go_wp2_with fail
            refine (CO _ SQ.out).mono ?_
            rintro e y1 ⟨rfl, hb1⟩
            have HY : Hid (_) := HBQ.out.trans (hb1.mono HBQ.out.size)
            have zy : WX.heap.size ≤ y1.heap.size := HY.out.size
            have zy2 : w2.heap.size < y1.heap.size := by omega
            have k5 := ((bel_cell hb1 zq2).1 0).trans k4
            clear CO hb1 k1 k3 k4 SQ HBQ
            go_wp2_with fail
            go_roundw
            case rel => exact ⟨jj + 1, by omega, fun h => (by have := hne h; omega), by go_num, HY.out.alloc zy _⟩
            case measure => simp [intOf]; omega
      · obtain rfl : jj = 32 := by omega
        have hkl : kk < U := by omega
        go_wp2_with fail
        go_roundw
        case rel => exact ⟨kk + 1, by omega, by go_num, hbq⟩
        case measure => simp [intOf]; omega

set_option maxHeartbeats 3200000 in
theorem walk_found1 (ad : Option Addr) (n cap : Nat) (ss : List Sl) (first second t : Int) (W : World) (hz : SZ W) (hbt : BT W) (hs : SlotsIn W ad n ss) (hcap : n ≤ cap) (hm : cap ≤ 9223372036854775807)
    (h0 : 0 ≤ t) (h1 : t < 18446744073709551616) (hr1 : first < 9223372036854775808) (hs1 : second < 9223372036854775808) (f l : Int) (w x k : Bool) (hT : twoP (memOf ss) first second t 1 k = .ok f true w x k l)
    (U L : Nat) (E : En) (hU : U < 32) (hL : L < 32) (hE : E.f = f) (hO : oneP (memOf ss) second ((U : Int) * 8192 + L * 256) 1 true = some E) :
    Calls Tryd.prog 3 #[.slice ad n cap, askIn first second t 1 k] W fun e W' => e = .returned (.bool true) ∧ Below W.heap.size W W' := by
  have C1 := fun w (hb : Below W.heap.size W w) => lawBoth ad n cap ss w (hz.below hb) (hbt.below hb) ⟨hs.1, hs.2.imp id (fun ⟨B, off, h2, h3, h4⟩ => ⟨B, off, h2, Nat.lt_of_lt_of_le h3 hb.size, fun i s hi => (h4 i s hi).below h3 hb⟩)⟩ hcap hm
  have C2 := fun b g w h => two_any t 1 k first second b g (memOf ss) h0 h1 hr1 hs1 w h
  have C3 := fun (b g : Nat) (q : Int) (hq0 : 0 ≤ q) (hq1 : q < 18446744073709551616) w h => one_any q 1 true second b g (memOf ss) hq0 hq1 hs1 w h
  rw [hT] at C2
  have HZ : Hid (_) := hz
  have HT : Hid (_) := hbt
  have HO : Hid (_) := hO
  have HEF : Hid (_) := hE
  clear hz hbt hs hT hO hE
  generalize memOf ss = zs at *
  unfold askIn Fr.val trapV foundV at *
  simp only at C2
  go_enter Tryd.func3, Tryd.ntmps3
  go_wp2_with fail
  refine (C1 _ ((Below.refl _ _).alloc (Nat.le_refl _) _)).mono ?_
  rintro e w1 ⟨b, g, cc, rfl, m1, hb1⟩
  have HB1 : Hid (Below W.heap.size W w1) := ((Below.refl _ _).alloc (Nat.le_refl _) _).trans (hb1.mono (by simp))
  obtain ⟨n0, o0⟩ := bel_cell hb1 (b := W.heap.size) (by simp)
  have z1 : W.heap.size < w1.heap.size := by have := hb1.size; simp at this; omega
  have S1 : Hid (St w1 b g zs) := ⟨HZ.out.below HB1.out, HT.out.below HB1.out, m1⟩
  clear hb1 m1 C1
  go_wp2_with fail
  refine (C2 b g _ S1.out).mono ?_
  rintro e w2 ⟨rfl, hb2⟩
  have HB2 : Hid (Below W.heap.size W w2) := HB1.out.trans (hb2.mono (by omega))
  have S2 : Hid (St w2 b g zs) := S1.out.below hb2
  obtain ⟨p0, q0⟩ := bel_cell hb2 z1
  have z2 : W.heap.size < w2.heap.size := by have := hb2.size; omega
  clear hb2 C2 HB1 S1
  go_wp2_with fail
  obtain ⟨WX, HWX⟩ : ∃ WX, Hid (WX = (w2.alloc (.cells #[.int .i64 f, .bool true, .bool w, .bool x, .bool k, .int .i64 l] 31)).alloc (.cells #[.int .i64 0, .int .u64 0, .int .u64 0] 33)) := ⟨_, rfl⟩
  rw [← HWX.out]
  have BX : Hid (Below w2.heap.size w2 WX) := by show Below _ _ _; rw [HWX.out]; exact ((Below.refl _ _).alloc (Nat.le_refl _) _).alloc (by simp) _
  have zX : WX.heap.size = w2.heap.size + 2 := by rw [HWX.out]; simp
  have a1 : WX.cell? ⟨W.heap.size, 1, none⟩ = some (.int .i64 second) := ((bel_cell BX.out z2).1 1).trans (by simp [p0, n0])
  have a3 : WX.cell? ⟨W.heap.size, 3, none⟩ = some (.int .i64 1) := ((bel_cell BX.out z2).1 3).trans (by simp [p0, n0])
  have ff : WX.cell? ⟨w2.heap.size, 0, none⟩ = some (.int .i64 f) := by rw [HWX.out]; simp [go_sem]
  have SX : Hid (St WX b g zs) := S2.out.below BX.out
  have HX : Hid (Below W.heap.size W WX) := HB2.out.trans (BX.out.mono (by omega))
  clear p0 q0 n0 o0 S2 HWX BX HB2 z1
  go_loopw [10] (fun i wr => ∃ kk : Nat, kk ≤ U ∧ i = .int .i64 kk ∧ Below WX.heap.size WX wr) (fun i _ => 32 - (intOf i).toNat)
  case atStart => exact ⟨0, by omega, rfl, Below.refl _ _⟩
  case round =>
    obtain ⟨kk, hkk, rfl, hbr⟩ := hrel
    have HBR : Hid (_) := hbr
    have hk32 : (kk : Int) < 32 := by omega
    clear hbr
    go_wp2_with fail
    go_loopw [11] (fun i wq => ∃ jj : Nat, jj ≤ 32 ∧ (kk = U → jj ≤ L) ∧ i = .int .i64 jj ∧ Below WX.heap.size WX wq) (fun i _ => 32 - (intOf i).toNat)
    case atStart => exact ⟨0, by omega, by omega, rfl, HBR.out⟩
    case round =>
      obtain ⟨jj, hjj, hju, rfl, hbq⟩ := hrel
      by_cases hlt : jj < 32
      · have CJ := join_any kk jj 0
        have e1 : joinN kk jj 0 = (kk : Int) * 8192 + jj * 256 := by unfold joinN joinB; simp; omega
        have e2 : joinE kk jj 0 = 0 := by unfold joinE joinB; simp; omega
        rw [e1, e2] at CJ
        clear e1 e2
        have CO := fun w h => C3 b g ((kk : Int) * 8192 + jj * 256) (by omega) (by omega) w h
        obtain ⟨d0, _⟩ := bel_cell hbq (b := W.heap.size) (by omega)
        obtain ⟨d1, _⟩ := bel_cell hbq (b := w2.heap.size) (by omega)
        have k1 := (d0 1).trans a1
        have k3 := (d0 3).trans a3
        have k4 := (d1 0).trans ff
        have zq : W.heap.size < wr.heap.size := by have := hbq.size; omega
        have zq2 : w2.heap.size < wr.heap.size := by have := hbq.size; omega
        have SQ : Hid (_) := SX.out.below hbq
        have HBQ : Hid (_) := hbq
        clear hbq d0 d1 C3 a1 a3 ff
        have hit : ∀ o, oneP zs second ((kk : Int) * 8192 + jj * 256) 1 true = o → (∀ e, o = some e → ¬ e.f = f) → kk = U → jj < L := by
          intro o ho hne h
          have := hju h
          rcases Nat.lt_or_ge jj L with h' | h'
          · exact h'
          · exfalso
            obtain rfl : jj = L := by omega
            subst h
            rw [HO.out] at ho
            exact hne E ho.symm HEF.out
        cases hq : oneP zs second ((kk : Int) * 8192 + jj * 256) 1 true with
        | none =>
          have hne := hit _ hq (fun e h => by cases h)
          rw [hq] at CO
          unfold oneV foundV at CO
          clear hit hq
          go_wp2_with fail
          refine (CJ _).mono ?_
          rintro e y0 ⟨rfl, rfl⟩
          clear CJ
          go_wp2_with fail
          refine (CO _ SQ.out).mono ?_
          rintro e y1 ⟨rfl, hb1⟩
          have HY : Hid (_) := HBQ.out.trans (hb1.mono HBQ.out.size)
          have zy : WX.heap.size ≤ y1.heap.size := HY.out.size
          clear CO hb1 k1 k3 k4 SQ HBQ
          go_wp2_with fail
          go_roundw
          case rel => exact ⟨jj + 1, by omega, fun h => (by have := hne h; omega), by go_num, HY.out.alloc zy _⟩
          case measure => simp [intOf]; omega
        | some E' =>
          rw [hq] at CO
          unfold oneV foundV at CO
          by_cases hf : E'.f = f
          · clear hit hq
            obtain ⟨xv, xr, xw, xx, xu, xs, xd, xf⟩ := E'
            simp only at CO hf
            subst hf
            go_wp2_with fail
            refine (CJ _).mono ?_
            rintro e y0 ⟨rfl, rfl⟩
            clear CJ
            go_wp2_with fail
            refine (CO _ SQ.out).mono ?_
            rintro e y1 ⟨rfl, hb1⟩
            have HY : Hid (_) := HBQ.out.trans (hb1.mono HBQ.out.size)
            have zy : WX.heap.size ≤ y1.heap.size := HY.out.size
            have zy2 : w2.heap.size < y1.heap.size := by omega
            have k5 := ((bel_cell hb1 zq2).1 0).trans k4
            clear CO hb1 k1 k3 k4 SQ HBQ
            go_wp2_with fail
            go_ret
            exact ⟨rfl, HX.out.trans ((HY.out.alloc zy _).mono HX.out.size)⟩
          · have hne := hit _ hq (fun e h => by cases h; exact hf)
            clear hit hq
            obtain ⟨xv, xr, xw, xx, xu, xs, xd, xf⟩ := E'
            simp only at CO hf
            go_wp2_with fail
            refine (CJ _).mono ?_
            rintro e y0 ⟨rfl, rfl⟩
            clear CJ
            go_wp2_with fail
            refine (CO _ SQ.out).mono ?_
            rintro e y1 ⟨rfl, hb1⟩
            have HY : Hid (_) := HBQ.out.trans (hb1.mono HBQ.out.size)
            have zy : WX.heap.size ≤ y1.heap.size := HY.out.size
            have zy2 : w2.heap.size < y1.heap.size := by omega
            have k5 := ((bel_cell hb1 zq2).1 0).trans k4
            clear CO hb1 k1 k3 k4 SQ HBQ
            go_wp2_with fail
            go_roundw
            case rel => exact ⟨jj + 1, by omega, fun h => (by have := hne h; omega), by go_num, HY.out.alloc zy _⟩
            case measure => simp [intOf]; omega
      · obtain rfl : jj = 32 := by omega
        have hkl : kk < U := by omega
        go_wp2_with fail
        go_roundw
        case rel => exact ⟨kk + 1, by omega, by go_num, hbq⟩
        case measure => simp [intOf]; omega

set_option maxHeartbeats 3200000 in
theorem walk_found2 (ad : Option Addr) (n cap : Nat) (ss : List Sl) (first second t : Int) (W : World) (hz : SZ W) (hbt : BT W) (hs : SlotsIn W ad n ss) (hcap : n ≤ cap) (hm : cap ≤ 9223372036854775807)
    (h0 : 0 ≤ t) (h1 : t < 18446744073709551616) (hr1 : first < 9223372036854775808) (hs1 : second < 9223372036854775808) (f l : Int) (r x k : Bool) (hT : twoP (memOf ss) first second t 2 k = .ok f r true x k l)
    (U L : Nat) (E : En) (hU : U < 32) (hL : L < 32) (hE : E.f = f) (hO : oneP (memOf ss) second ((U : Int) * 8192 + L * 256) 2 true = some E) :
    Calls Tryd.prog 3 #[.slice ad n cap, askIn first second t 2 k] W fun e W' => e = .returned (.bool true) ∧ Below W.heap.size W W' := by
  have C1 := fun w (hb : Below W.heap.size W w) => lawBoth ad n cap ss w (hz.below hb) (hbt.below hb) ⟨hs.1, hs.2.imp id (fun ⟨B, off, h2, h3, h4⟩ => ⟨B, off, h2, Nat.lt_of_lt_of_le h3 hb.size, fun i s hi => (h4 i s hi).below h3 hb⟩)⟩ hcap hm
  have C2 := fun b g w h => two_any t 2 k first second b g (memOf ss) h0 h1 hr1 hs1 w h
  have C3 := fun (b g : Nat) (q : Int) (hq0 : 0 ≤ q) (hq1 : q < 18446744073709551616) w h => one_any q 2 true second b g (memOf ss) hq0 hq1 hs1 w h
  rw [hT] at C2
  have HZ : Hid (_) := hz
  have HT : Hid (_) := hbt
  have HO : Hid (_) := hO
  have HEF : Hid (_) := hE
  clear hz hbt hs hT hO hE
  generalize memOf ss = zs at *
  unfold askIn Fr.val trapV foundV at *
  simp only at C2
  go_enter Tryd.func3, Tryd.ntmps3
  go_wp2_with fail
  refine (C1 _ ((Below.refl _ _).alloc (Nat.le_refl _) _)).mono ?_
  rintro e w1 ⟨b, g, cc, rfl, m1, hb1⟩
  have HB1 : Hid (Below W.heap.size W w1) := ((Below.refl _ _).alloc (Nat.le_refl _) _).trans (hb1.mono (by simp))
  obtain ⟨n0, o0⟩ := bel_cell hb1 (b := W.heap.size) (by simp)
  have z1 : W.heap.size < w1.heap.size := by have := hb1.size; simp at this; omega
  have S1 : Hid (St w1 b g zs) := ⟨HZ.out.below HB1.out, HT.out.below HB1.out, m1⟩
  clear hb1 m1 C1
  go_wp2_with fail
  refine (C2 b g _ S1.out).mono ?_
  rintro e w2 ⟨rfl, hb2⟩
  have HB2 : Hid (Below W.heap.size W w2) := HB1.out.trans (hb2.mono (by omega))
  have S2 : Hid (St w2 b g zs) := S1.out.below hb2
  obtain ⟨p0, q0⟩ := bel_cell hb2 z1
  have z2 : W.heap.size < w2.heap.size := by have := hb2.size; omega
  clear hb2 C2 HB1 S1
  go_wp2_with fail
  obtain ⟨WX, HWX⟩ : ∃ WX, Hid (WX = (w2.alloc (.cells #[.int .i64 f, .bool r, .bool true, .bool x, .bool k, .int .i64 l] 31)).alloc (.cells #[.int .i64 0, .int .u64 0, .int .u64 0] 33)) := ⟨_, rfl⟩
  rw [← HWX.out]
  have BX : Hid (Below w2.heap.size w2 WX) := by show Below _ _ _; rw [HWX.out]; exact ((Below.refl _ _).alloc (Nat.le_refl _) _).alloc (by simp) _
  have zX : WX.heap.size = w2.heap.size + 2 := by rw [HWX.out]; simp
  have a1 : WX.cell? ⟨W.heap.size, 1, none⟩ = some (.int .i64 second) := ((bel_cell BX.out z2).1 1).trans (by simp [p0, n0])
  have a3 : WX.cell? ⟨W.heap.size, 3, none⟩ = some (.int .i64 2) := ((bel_cell BX.out z2).1 3).trans (by simp [p0, n0])
  have ff : WX.cell? ⟨w2.heap.size, 0, none⟩ = some (.int .i64 f) := by rw [HWX.out]; simp [go_sem]
  have SX : Hid (St WX b g zs) := S2.out.below BX.out
  have HX : Hid (Below W.heap.size W WX) := HB2.out.trans (BX.out.mono (by omega))
  clear p0 q0 n0 o0 S2 HWX BX HB2 z1
  go_loopw [10] (fun i wr => ∃ kk : Nat, kk ≤ U ∧ i = .int .i64 kk ∧ Below WX.heap.size WX wr) (fun i _ => 32 - (intOf i).toNat)
  case atStart => exact ⟨0, by omega, rfl, Below.refl _ _⟩
  case round =>
    obtain ⟨kk, hkk, rfl, hbr⟩ := hrel
    have HBR : Hid (_) := hbr
    have hk32 : (kk : Int) < 32 := by omega
    clear hbr
    go_wp2_with fail
    go_loopw [11] (fun i wq => ∃ jj : Nat, jj ≤ 32 ∧ (kk = U → jj ≤ L) ∧ i = .int .i64 jj ∧ Below WX.heap.size WX wq) (fun i _ => 32 - (intOf i).toNat)
    case atStart => exact ⟨0, by omega, by omega, rfl, HBR.out⟩
    case round =>
      obtain ⟨jj, hjj, hju, rfl, hbq⟩ := hrel
      by_cases hlt : jj < 32
      · have CJ := join_any kk jj 0
        have e1 : joinN kk jj 0 = (kk : Int) * 8192 + jj * 256 := by unfold joinN joinB; simp; omega
        have e2 : joinE kk jj 0 = 0 := by unfold joinE joinB; simp; omega
        rw [e1, e2] at CJ
        clear e1 e2
        have CO := fun w h => C3 b g ((kk : Int) * 8192 + jj * 256) (by omega) (by omega) w h
        obtain ⟨d0, _⟩ := bel_cell hbq (b := W.heap.size) (by omega)
        obtain ⟨d1, _⟩ := bel_cell hbq (b := w2.heap.size) (by omega)
        have k1 := (d0 1).trans a1
        have k3 := (d0 3).trans a3
        have k4 := (d1 0).trans ff
        have zq : W.heap.size < wr.heap.size := by have := hbq.size; omega
        have zq2 : w2.heap.size < wr.heap.size := by have := hbq.size; omega
        have SQ : Hid (_) := SX.out.below hbq
        have HBQ : Hid (_) := hbq
        clear hbq d0 d1 C3 a1 a3 ff
        have hit : ∀ o, oneP zs second ((kk : Int) * 8192 + jj * 256) 2 true = o → (∀ e, o = some e → ¬ e.f = f) → kk = U → jj < L := by
          intro o ho hne h
          have := hju h
          rcases Nat.lt_or_ge jj L with h' | h'
          · exact h'
          · exfalso
            obtain rfl : jj = L := by omega
            subst h
            rw [HO.out] at ho
            exact hne E ho.symm HEF.out
        cases hq : oneP zs second ((kk : Int) * 8192 + jj * 256) 2 true with
        | none =>
          have hne := hit _ hq (fun e h => by cases h)
          rw [hq] at CO
          unfold oneV foundV at CO
          clear hit hq
          go_wp2_with fail
          refine (CJ _).mono ?_
          rintro e y0 ⟨rfl, rfl⟩
          clear CJ
          go_wp2_with fail
          refine (CO _ SQ.out).mono ?_
          rintro e y1 ⟨rfl, hb1⟩
          have HY : Hid (_) := HBQ.out.trans (hb1.mono HBQ.out.size)
          have zy : WX.heap.size ≤ y1.heap.size := HY.out.size
          clear CO hb1 k1 k3 k4 SQ HBQ
          go_wp2_with fail
          go_roundw
          case rel => exact ⟨jj + 1, by omega, fun h => (by have := hne h; omega), by go_num, HY.out.alloc zy _⟩
          case measure => simp [intOf]; omega
        | some E' =>
          rw [hq] at CO
          unfold oneV foundV at CO
          by_cases hf : E'.f = f
          · clear hit hq
            obtain ⟨xv, xr, xw, xx, xu, xs, xd, xf⟩ := E'
            simp only at CO hf
            subst hf
            go_wp2_with fail
            refine (CJ _).mono ?_
            rintro e y0 ⟨rfl, rfl⟩
            clear CJ
            go_wp2_with fail
            refine (CO _ SQ.out).mono ?_
            rintro e y1 ⟨rfl, hb1⟩
            have HY : Hid (_) := HBQ.out.trans (hb1.mono HBQ.out.size)
            have zy : WX.heap.size ≤ y1.heap.size := HY.out.size
            have zy2 : w2.heap.size < y1.heap.size := by omega
            have k5 := ((bel_cell hb1 zq2).1 0).trans k4
            clear CO hb1 k1 k3 k4 SQ HBQ
            go_wp2_with fail
            go_ret
            exact ⟨rfl, HX.out.trans ((HY.out.alloc zy _).mono HX.out.size)⟩
          · have hne := hit _ hq (fun e h => by cases h; exact hf)
            clear hit hq
            obtain ⟨xv, xr, xw, xx, xu, xs, xd, xf⟩ := E'
            simp only at CO hf
            go_wp2_with fail
            refine (CJ _).mono ?_
            rintro e y0 ⟨rfl, rfl⟩
            clear CJ
            go_wp2_with fail
            refine (CO _ SQ.out).mono ?_
            rintro e y1 ⟨rfl, hb1⟩
            have HY : Hid (_) := HBQ.out.trans (hb1.mono HBQ.out.size)
            have zy : WX.heap.size ≤ y1.heap.size := HY.out.size
            have zy2 : w2.heap.size < y1.heap.size := by omega
            have k5 := ((bel_cell hb1 zq2).1 0).trans k4
            clear CO hb1 k1 k3 k4 SQ HBQ
            go_wp2_with fail
            go_roundw
            case rel => exact ⟨jj + 1, by omega, fun h => (by have := hne h; omega), by go_num, HY.out.alloc zy _⟩
            case measure => simp [intOf]; omega
      · obtain rfl : jj = 32 := by omega
        have hkl : kk < U := by omega
        go_wp2_with fail
        go_roundw
        case rel => exact ⟨kk + 1, by omega, by go_num, hbq⟩
        case measure => simp [intOf]; omega

theorem walk (ad : Option Addr) (n cap : Nat) (ss : List Sl) (first second t a : Int) (u : Bool) (W : World) (hz : SZ W) (hbt : BT W) (hs : SlotsIn W ad n ss) (hcap : n ≤ cap) (hm : cap ≤ 9223372036854775807)
    (h0 : 0 ≤ t) (h1 : t < 18446744073709551616) (hr1 : first < 9223372036854775808) (hs1 : second < 9223372036854775808) :
    Calls Tryd.prog 3 #[.slice ad n cap, askIn first second t a u] W fun e W' => e = .returned (.bool true) ∧ Below W.heap.size W W' := by
  cases hT : twoP (memOf ss) first second t a u with
  | no c v g => exact walk_trap ad n cap ss first second t a u W hz hbt hs hcap hm h0 h1 hr1 hs1 c v g hT
  | ok f r w x k l =>
    obtain ⟨rfl, hal, U, L, E, hU, hL, hE, hO⟩ := twoP_ok h0 hT
    rcases hal with ⟨rfl, rfl⟩ | ⟨rfl, rfl⟩ | ⟨rfl, rfl⟩
    · exact walk_found0 ad n cap ss first second t W hz hbt hs hcap hm h0 h1 hr1 hs1 f l r w k hT U L E hU hL hE hO
    · exact walk_found1 ad n cap ss first second t W hz hbt hs hcap hm h0 h1 hr1 hs1 f l w x k hT U L E hU hL hE hO
    · exact walk_found2 ad n cap ss first second t W hz hbt hs hcap hm h0 h1 hr1 hs1 f l r x k hT U L E hU hL hE hO
end walkLies
end Go.Proofs.YtbaagnfcdphddaaDoor
