/-
  A memory under any calls has the document's bytes: the walk of MemPlays.
-/
import Derived.Test.YtcpkboihkgkkmaaDoorDoesP
import Derived.Test.YtcpkboihkgkkmaaDoorOpens
namespace Go.Proofs.YtcpkboihkgkkmaaDoor
open Go.RowKit
set_option linter.unusedVariables false

/-- the calls as they came in: cells of a slice of structs -/
def ActsIn (w : World) (ad : Option Addr) (len : Nat) : Prop :=
  len = 0 ∨ ∃ B off, ad = some ⟨B, off, none⟩ ∧ B < w.heap.size ∧ ∀ i, i < len → ∃ c0 c1 c2 c3 c4 k t n v a m cap ys,
    w.cell? ⟨B, off + i * 5, none⟩ = some c0 ∧ w.cell? ⟨B, off + i * 5 + 1, none⟩ = some c1 ∧ w.cell? ⟨B, off + i * 5 + 2, none⟩ = some c2 ∧ w.cell? ⟨B, off + i * 5 + 3, none⟩ = some c3 ∧ w.cell? ⟨B, off + i * 5 + 4, none⟩ = some c4 ∧
    ActC w c0 c1 c2 c3 c4 k t n v a m cap ys

theorem run_make_bytes (n : Nat) (hn : n ≤ 16777216) (w : World) : (Instr.makeSlice 36 (.int .i64 (n : Int)) (.int .i64 (n : Int))).run Tryd.prog w = .ok (.slice (some ⟨w.heap.size, 0, none⟩) n n) (w.alloc (.cells ((List.replicate n (0 : Int)).map (Value.int .u8)).toArray 5)) := by
  obtain ⟨i0, hi, hz0, hz1, hz2⟩ := info_parts Tryd.info5
  have hr := run_make (P := Tryd.prog) w 36 5 i0 (.int .u8 0) Tryd.underlying36 hi hz0 .i64 .i64 n n (by omega) (Int.le_refl _) (by rw [hz2]; omega) (by omega)
  simp only [Int.toNat_natCast] at hr
  rw [hr, hz1]
  have e : madeCells (Value.int .u8 0).cells (n * 1) = ((List.replicate n (0 : Int)).map (Value.int .u8)).toArray := by
    rw [← made_zeros]
  rw [e]

namespace memPlays
set_option maxRecDepth 100000 in
theorem walk_no (f : Int) (ad : Option Addr) (len cap : Nat) (w : World) (hf : ¬ (1 ≤ f ∧ f ≤ 65536)) :
    Calls Tryd.prog 3 #[.int .i64 f, .slice ad len cap] w fun e w' => e = .returned (.bool true) ∧ Below w.heap.size w w' := by
  go_enter Tryd.func3, Tryd.ntmps3
  go_wp2_with fail
  refine (new_no f _ hf).mono ?_
  rintro e x1 ⟨rfl, rfl⟩
  go_wp2_with fail
  refine (rnew_no f _ hf).mono ?_
  rintro e x2 ⟨rfl, rfl⟩
  go_wp2_with fail
  refine (names_any _).mono ?_
  rintro e x3 ⟨rfl, rfl⟩
  go_wp2_with fail
  go_ret
  exact ⟨rfl, Below.refl _ _⟩

set_option maxRecDepth 100000 in
set_option maxHeartbeats 800000 in
theorem walk_yes (F : Nat) (ad : Option Addr) (len cap : Nat) (w : World) (hz : SZ w) (hF1 : 1 ≤ F) (hF2 : F ≤ 65536) (hA : ActsIn w ad len) (hcap : len ≤ cap) (hm : cap ≤ 9223372036854775807) :
    Calls Tryd.prog 3 #[.int .i64 F, .slice ad len cap] w fun e w' => e = .returned (.bool true) ∧ Below w.heap.size w w' := by
  go_enter Tryd.func3, Tryd.ntmps3
  go_wp2_with fail
  refine (new_yes F _ hF1 hF2).mono ?_
  rintro e x1 ⟨b, g, rfl, m1, lb, lg, c1⟩
  have z1 := SZ.below hz c1
  go_wp2_with fail
  refine (rnew_yes F _ hF1 hF2).mono ?_
  rintro e x2 ⟨c, h, rfl, r2, lc, lh, c2⟩
  have z2 := SZ.below z1 c2
  have m2 := m1.below c2
  have l1 := m1.blt
  have l2 := m1.glt
  have s1 := c1.size
  have b2 : Below w.heap.size w x2 := c1.trans (c2.mono c1.size)
  clear c1 c2 z1 m1
  go_wp2_with fail
  refine (names_any _).mono ?_
  rintro e x3 ⟨rfl, rfl⟩
  go_wp2_with fail
  refine (clone_mm b g _ _ m2).mono ?_
  rintro e x4 ⟨bo, go, rfl, o4, lbo, lgo, c4⟩
  have z4 := SZ.below z2 c4
  have m4 := m2.below c4
  have r4 := r2.below c4
  have l3 := r2.blt
  have l4 := r2.glt
  have l5 := m2.blt
  have l6 := m2.glt
  have hos : (List.replicate (F * 256) (0 : Int)).length = F * 256 := List.length_replicate
  have b4 : Below w.heap.size w x4 := b2.trans (c4.mono b2.size)
  have nn1 := m2.ne
  have nn2 := r2.ne
  have hfr : (((F * 256 : Nat) : Int) / 256) = (F : Int) := by omega
  have FR := frames_any _ _ _ _ _ m4.len m4.hv
  rw [hos, hfr] at FR
  have SM := same_any _ _ _ _ _ _ _ _ _ _ x4 o4.hv m4.hv o4.slAll m4.slAll
  rw [decide_eq_true rfl] at SM
  have OS : Hid (List.replicate (F * 256) (0 : Int) = List.replicate (F * 256) (0 : Int)) := rfl
  clear c4 b2 z2 m2 r2
  go_wp2_with fail
  refine SM.mono ?_
  rintro e x5 ⟨rfl, rfl⟩
  clear SM
  go_wp2_with fail
  refine FR.mono ?_
  rintro e x6 ⟨rfl, rfl⟩
  clear FR hfr
  have E0 : Both w x6 b g c h bo go (List.replicate (F * 256) 0) (List.replicate (F * 256) 0) := ⟨m4, r4, o4, z4, b4⟩
  clear m4 r4 o4 z4 b4
  go_wp2_with fail
  go_loopw [10] (fun i wr => ∃ (j : Nat) (zs : List Int), j ≤ len ∧ i = .int .i64 j ∧ zs.length = F * 256 ∧ Both w wr b g c h bo go (List.replicate (F * 256) 0) zs) (fun i _ => len - (intOf i).toNat)
  case atStart => exact ⟨0, _, by omega, rfl, hos, E0⟩
  case round =>
    obtain ⟨j, zs, hj, rfl, hzl, E⟩ := hrel
    clear E0
    by_cases hlt : j < len
    · rcases hA with h00 | ⟨B, off, rfl, hB, hact⟩
      · omega
      obtain ⟨c0, c1, c2, c3, c4, k, t, n, v, a, m, ca, ys, q0, q1, q2, q3, q4, AC⟩ := hact j hlt
      obtain ⟨rfl, rfl, rfl, rfl, rfl, wk, wt, wn, wv, hsl, hnl, hle, hcl⟩ := AC
      have bt := bounds_u64 wt
      have bv := bounds_u64 wv
      have bn := bounds_i64 wn
      have hcc := (bcell E.below).1
      have p0 := (hcc _ _ hB).trans q0
      have p1 := (hcc _ _ hB).trans q1
      have p2 := (hcc _ _ hB).trans q2
      have p3 := (hcc _ _ hB).trans q3
      have p4 := (hcc _ _ hB).trans q4
      have pl := Nat.lt_of_lt_of_le hB E.below.size
      have e1 := E.mm.blt
      have e2 := E.mm.glt
      have e3 := E.rm.blt
      have e4 := E.rm.glt
      have e5 := E.cl.blt
      have e6 := E.cl.glt
      have hsE := E.below.size
      have D : DW w (wr.alloc (.cells #[.int .i64 k, .int .u64 t, .int .i64 n, .int .u64 v, .slice a m ca] 38)) b g c h bo go (List.replicate (F * 256) 0) wr.heap.size zs zs k t n v (.slice a m ca) := by
        have hb : Below wr.heap.size wr (wr.alloc (.cells #[.int .i64 k, .int .u64 t, .int .i64 n, .int .u64 v, .slice a m ca] 38)) := (Below.refl _ _).alloc (Nat.le_refl _) _
        exact ⟨E.mm.below hb, E.rm.below hb, E.cl.below hb, SZ.below E.sz hb, E.below.trans (hb.mono E.below.size), by simp, by simp, by simp, by simp, by simp, by omega, by omega, by omega, by omega, by omega, lg, by omega, by omega, by omega, by omega, by omega⟩
      have DA := does_any b g c h bo go (List.replicate (F * 256) 0) zs ys k t n v a m ca w wr bt.1 (by omega) (by omega) bv.1 (by omega) hsl hnl hcl hle D
      clear q0 q1 q2 q3 q4 hact hcc D
      go_wp2_with fail
      refine DA.mono ?_
      rintro e y1 ⟨rfl, zs', hl', E'⟩
      clear DA
      go_wp2_with fail
      go_roundw
      case rel => exact ⟨j + 1, zs', by omega, by go_num, hl'.trans hzl, E'⟩
      case measure => simp [intOf]; omega
    · obtain rfl : j = len := by omega
      have HZ : Hid (zs.length = F * 256) := hzl
      have HOZ : Hid (List.replicate zs.length (0 : Int) = List.replicate (F * 256) 0) := by show _ = _; rw [hzl]
      have hzle := E.mm.len
      clear hzl
      generalize List.replicate (F * 256) (0 : Int) = os at *
      have hoz : os.length = zs.length := by rw [hos, HZ.out]
      have HOL : Hid (os.length = zs.length) := hoz
      clear hos hoz
      have hc := E.rm.cell0
      have hcl := E.rm.blt
      have B1 := mbytes_yes b g zs 0 zs.length wr E.mm (by omega)
      rw [show ((0 : Nat) : Int) = 0 from rfl] at B1
      clear hA
      go_wp2_with fail
      refine B1.mono ?_
      rintro e y1 ⟨gx, rfl, own1, k1⟩
      have M1 := E.mm.below k1
      have R1 := E.rm.below k1
      have O1 := E.cl.below k1
      have L1 := E.below.trans (k1.mono E.below.size)
      clear E B1 hc hcl
      have hc := R1.cell0
      have hcl := R1.blt
      have B2 := mbytes_yes bo go os 0 zs.length y1 O1 (by have := HOL.out; omega)
      rw [show ((0 : Nat) : Int) = 0 from rfl] at B2
      have HO1 : Hid (_) := own1
      clear own1 k1
      go_wp2_with fail
      refine B2.mono ?_
      rintro e y2 ⟨gy, rfl, own2, k2⟩
      have M2 := M1.below k2
      have R2 := R1.below k2
      have O2 := O1.below k2
      have L2 := L1.trans (k2.mono L1.size)
      have o1 := own_below HO1.out k2
      rw [List.drop_zero, List.take_of_length_le (Nat.le_refl _)] at o1
      rw [List.drop_zero, List.take_of_length_le (by have := HOL.out; omega)] at own2
      clear M1 R1 O1 L1 B2 hc hcl HO1 k2
      have bA : Below y2.heap.size y2 (y2.drew.alloc (.cells ((List.replicate zs.length (0 : Int)).map (Value.int .u8)).toArray 5)) := (Below.refl _ _).drew.alloc (Nat.le_refl _) _
      have sx := SL.own o1 M2.bytes
      have sy := SL.own own2 O2.bytes
      have sr := R2.slAll
      have K0 : (convert 36 9 (.slice (some ⟨gx, 0, none⟩) zs.length zs.length)).run Tryd.prog y2.drew = .ok (.string (strOfNums zs)) y2.drew ∧ (convert 36 9 (.slice (some ⟨gy, 0, none⟩) zs.length zs.length)).run Tryd.prog y2.drew = .ok (.string (strOfNums os)) y2.drew ∧ (convert 36 9 (.slice (some ⟨h, 0, none⟩) zs.length zs.length)).run Tryd.prog y2.drew = .ok (.string (strOfNums zs)) y2.drew ∧ y2.drew.cell? ⟨c, 0, none⟩ = some (.slice (some ⟨h, 0, none⟩) zs.length zs.length) :=
        ⟨conv_sl _ (SL.below sx (Below.refl _ _).drew), conv_sl _ (SL.below sy (Below.refl _ _).drew), conv_sl _ (SL.below sr (Below.refl _ _).drew), R2.drew.cell0⟩
      obtain ⟨W1, hW1⟩ : ∃ W1, W1 = y2.drew.alloc (.cells ((List.replicate zs.length (0 : Int)).map (Value.int .u8)).toArray 5) := ⟨_, rfl⟩
      rw [← hW1] at bA
      have K1 : (convert 36 9 (.slice (some ⟨gx, 0, none⟩) zs.length zs.length)).run Tryd.prog W1 = .ok (.string (strOfNums zs)) W1 ∧ (convert 36 9 (.slice (some ⟨gy, 0, none⟩) zs.length zs.length)).run Tryd.prog W1 = .ok (.string (strOfNums os)) W1 ∧ (convert 36 9 (.slice (some ⟨h, 0, none⟩) zs.length zs.length)).run Tryd.prog W1 = .ok (.string (strOfNums zs)) W1 ∧ W1.cell? ⟨c, 0, none⟩ = some (.slice (some ⟨h, 0, none⟩) zs.length zs.length) :=
        ⟨conv_sl _ (SL.below sx bA), conv_sl _ (SL.below sy bA), conv_sl _ (SL.below sr bA), (R2.below bA).cell0⟩
      have hmk : (Instr.makeSlice 36 (.int .i64 (zs.length : Int)) (.int .i64 (zs.length : Int))).run Tryd.prog y2.drew = .ok (.slice (some ⟨y2.drew.heap.size, 0, none⟩) zs.length zs.length) W1 := by rw [hW1]; exact run_make_bytes zs.length hzle y2.drew
      have hnew : (convert 36 9 (.slice (some ⟨y2.heap.size, 0, none⟩) zs.length zs.length)).run Tryd.prog W1 = .ok (.string (strOfNums os)) W1 := by
        have hown : W1.ownsRow y2.drew.heap.size 5 1 (.slice (some ⟨y2.drew.heap.size, 0, none⟩) zs.length zs.length) zs.length ((List.replicate zs.length (0 : Int)).map (Value.int .u8)) := by
          rw [hW1]
          exact World.ownsRow_lit y2.drew _ zs.length (Nat.le_refl _) (by unfold maxLen; omega) (by simp)
        have := conv_sl zs.length (SL.own hown (bytes_zeros _))
        rw [HOZ.out] at this
        exact this
      have M3 := M2.below bA
      have O3 := O2.below bA
      have L3 := L2.trans (bA.mono L2.size)
      have SM := same_any _ _ _ _ _ _ _ _ os zs W1 O3.hv M3.hv O3.slAll M3.slAll
      have hse := str_eq zs os M3.bytes O3.bytes
      rw [show decide (zs = os) = decide (os = zs) by simp [eq_comm]] at hse
      have hcl := R2.blt
      clear o1 own2 sx sy sr M2 R2 O2 M3 O3 L2 hW1 bA hzle
      generalize decide (os = zs) = B at *
      go_wp2_with fail
      go_region_held (fun w' => (convert 36 9 (.slice (some ⟨gx, 0, none⟩) zs.length zs.length)).run Tryd.prog w' = .ok (.string (strOfNums zs)) w' ∧ (convert 36 9 (.slice (some ⟨gy, 0, none⟩) zs.length zs.length)).run Tryd.prog w' = .ok (.string (strOfNums os)) w' ∧ (convert 36 9 (.slice (some ⟨h, 0, none⟩) zs.length zs.length)).run Tryd.prog w' = .ok (.string (strOfNums zs)) w' ∧ w'.cell? ⟨c, 0, none⟩ = some (.slice (some ⟨h, 0, none⟩) zs.length zs.length)) (first | exact K0 | exact K1)
        (first | (go_at_call 12; refine SM.mono ?_; rintro e y3 ⟨rfl, rfl⟩))
      all_goals go_wp2_with fail
      go_ret
      exact ⟨rfl, L3⟩

theorem walk (f : Int) (ad : Option Addr) (len cap : Nat) (w : World) (hz : SZ w) (hA : ActsIn w ad len) (hcap : len ≤ cap) (hm : cap ≤ 9223372036854775807) :
    Calls Tryd.prog 3 #[.int .i64 f, .slice ad len cap] w fun e w' => e = .returned (.bool true) ∧ Below w.heap.size w w' := by
  by_cases hf : 1 ≤ f ∧ f ≤ 65536
  · obtain ⟨F, rfl⟩ := Int.eq_ofNat_of_zero_le (show 0 ≤ f by omega)
    exact walk_yes F ad len cap w hz (by omega) (by omega) hA hcap hm
  · exact walk_no f ad len cap w hf
end memPlays
end Go.Proofs.YtcpkboihkgkkmaaDoor
