/-
  Just what lies in the memory whole is loaded, stored and told, up to its last byte: the walk of MemEnds.
-/
import Derived.Test.YtcpkboihkgkkmaaDoorMem6
namespace Go.Proofs.YtcpkboihkgkkmaaDoor
open Go.RowKit
set_option linter.unusedVariables false

theorem ends_num1 (F B : Nat) (hF : 1 ≤ F) (hB : B ≤ 63) : numE (F * 256) (256 * (F : Int) - B) 1 = if 1 ≤ B then 0 else 12 := by
  rw [numE, if_neg (by decide), if_neg (by omega)]
  by_cases h : 1 ≤ B
  · rw [if_neg (by omega), if_pos h]
  · rw [if_pos (by omega), if_neg h]
theorem ends_num4 (F B : Nat) (hF : 1 ≤ F) (hB : B ≤ 63) : numE (F * 256) (256 * (F : Int) - B / 4 * 4) 4 = if 4 ≤ B then 0 else 12 := by
  rw [numE, if_neg (by decide), if_neg (by omega)]
  by_cases h : 4 ≤ B
  · rw [if_neg (by omega), if_pos h]
  · rw [if_pos (by omega), if_neg h]
theorem ends_num8 (F B : Nat) (hF : 1 ≤ F) (hB : B ≤ 63) : numE (F * 256) (256 * (F : Int) - B / 8 * 8) 8 = if 8 ≤ B then 0 else 12 := by
  rw [numE, if_neg (by decide), if_neg (by omega)]
  by_cases h : 8 ≤ B
  · rw [if_neg (by omega), if_pos h]
  · rw [if_pos (by omega), if_neg h]
theorem storeV_len (zs : List Int) (t n v : Int) (ht : 0 ≤ t) : (storeV zs t n v).length = zs.length := by
  unfold storeV
  by_cases h : numE zs.length t n = 0
  · obtain ⟨h1, h2, h3⟩ := numE_zero h
    rw [if_pos h]
    exact length_splice _ _ _ (by rw [bytesOf_len]; unfold isW at h1; omega)
  · rw [if_neg h]

/-- the state between the rounds: the memory, the table of sizes and the list of widths -/
structure EW (w0 w : World) (b g L n : Nat) : Prop where
  mm : ∃ zs : List Int, zs.length = n ∧ MM w b g zs
  sz : SZ w
  below : Below w0.heap.size w0 w
  c0 : w.cell? ⟨L, 0, none⟩ = some (.int .i64 1)
  c1 : w.cell? ⟨L, 1, none⟩ = some (.int .i64 4)
  c2 : w.cell? ⟨L, 2, none⟩ = some (.int .i64 8)
theorem EW.lt {w0 w : World} {b g L n : Nat} (h : EW w0 w b g L n) : L < w.heap.size := World.block_lt_of_cell? w ⟨L, 0, none⟩ h.c0
theorem EW.kept {w0 w w' : World} {b g L n : Nat} {ys : List Int} (h : EW w0 w b g L n) (hk : w.grownBy w' (some g)) (hm : MM w' b g ys) (hy : ys.length = n) (hg : w0.heap.size ≤ g) (hL : L ≠ g) : EW w0 w' b g L n := by
  have hb := hk.block L h.lt (by simp; exact hL)
  have hc : ∀ o, w'.cell? ⟨L, o, none⟩ = w.cell? ⟨L, o, none⟩ := fun o => World.cell?_of_block (a := ⟨L, o, none⟩) hb
  have := h.sz.pos
  refine ⟨⟨ys, hy, hm⟩, SZ.kept h.sz ?_ hk, h.below.grown hk h.below.size (by intro k e; cases e; exact hg), (hc _).trans h.c0, (hc _).trans h.c1, (hc _).trans h.c2⟩
  rcases Nat.eq_zero_or_pos g with rfl | h'
  · have e1 := h.sz.c0
    obtain ⟨zs, _, m⟩ := h.mm
    rw [m.rowAt 0 m.pos] at e1
    simp at e1
  · exact h'
theorem EW.below' {w0 w w' : World} {b g L n : Nat} (h : EW w0 w b g L n) (hk : Below w.heap.size w w') : EW w0 w' b g L n := by
  obtain ⟨zs, hl, hm⟩ := h.mm
  have hc := (bcell hk).1
  exact ⟨⟨zs, hl, hm.below hk⟩, SZ.below h.sz hk, h.below.trans (hk.mono h.below.size), (hc _ _ h.lt).trans h.c0, (hc _ _ h.lt).trans h.c1, (hc _ _ h.lt).trans h.c2⟩

theorem load_ew {w0 w : World} {b g L n : Nat} (h : EW w0 w b g L n) (t k : Int) (ht : 0 ≤ t) (ht' : t < 18446744073709551616) (hn' : k < 9223372036854775808) :
    Calls Tryd.prog 16 #[.pointer (some ⟨b, 0, none⟩), .int .u64 t, .int .i64 k] w fun e w' => (∃ v, e = .returned (.tuple #[.int .u64 v, .int .i64 (numE n t k)])) ∧ EW w0 w' b g L n := by
  obtain ⟨zs, hl, hm⟩ := h.mm
  refine (mload_mm b g zs t k w h.sz hm ht ht' hn').mono ?_
  rintro e w' ⟨rfl, hb⟩
  exact ⟨⟨_, by rw [hl]⟩, h.below' hb⟩
theorem store_ew {w0 w : World} {b g L n : Nat} (h : EW w0 w b g L n) (t k v : Int) (ht : 0 ≤ t) (ht' : t < 18446744073709551616) (hn' : k < 9223372036854775808) (h0 : 0 ≤ v) (h1 : v < 18446744073709551616) (hg : w0.heap.size ≤ g) (hL : L ≠ g) :
    Calls Tryd.prog 17 #[.pointer (some ⟨b, 0, none⟩), .int .u64 t, .int .i64 k, .int .u64 v] w fun e w' => e = .returned (.int .i64 (numE n t k)) ∧ EW w0 w' b g L n := by
  obtain ⟨zs, hl, hm⟩ := h.mm
  refine (mstore_mm b g zs t k v w h.sz hm ht ht' hn' h0 h1).mono ?_
  rintro e w' ⟨rfl, hm', hk⟩
  exact ⟨by rw [hl], h.kept hk hm' ((storeV_len zs t k v ht).trans hl) hg hL⟩

namespace memEnds
set_option maxRecDepth 100000 in
set_option maxHeartbeats 1600000 in
theorem walk (a0 a1 : Int) (w0 : (Lit.int .i64 a0).wf = true) (w1 : (Lit.int .i64 a1).wf = true) (w : World) (hz : SZ w) :
    Calls Tryd.prog 7 #[.int .i64 a0, .int .i64 a1] w fun e w' => e = .returned (.bool true) ∧ Below w.heap.size w w' := by
  have e7 : bits .and .i64 a0 7 = a0 % 8 := and_ones64 a0 3 (by decide)
  have e63 : bits .and .i64 a1 63 = a1 % 64 := and_ones64 a1 6 (by decide)
  obtain ⟨F0, hF0⟩ : ∃ F : Nat, a0 % 8 = (F : Int) := ⟨(a0 % 8).toNat, by omega⟩
  obtain ⟨B, hB⟩ : ∃ B : Nat, a1 % 64 = (B : Int) := ⟨(a1 % 64).toNat, by omega⟩
  have hF7 : F0 ≤ 7 := by omega
  have hB63 : B ≤ 63 := by omega
  rw [hF0] at e7
  rw [hB] at e63
  clear hF0 hB
  go_enter Tryd.func7, Tryd.ntmps7
  go_wp2_with fail
  obtain ⟨F, hF⟩ : ∃ F : Nat, 1 + (F0 : Int) = F := ⟨F0 + 1, by omega⟩
  rw [hF]
  have hF1 : 1 ≤ F := by omega
  have hF8 : F ≤ 8 := by omega
  clear hF e7
  refine (new_yes F w hF1 (by omega)).mono ?_
  rintro e x1 ⟨b, g, rfl, m1, lb, lg, c1⟩
  have z1 := SZ.below hz c1
  have hl1 : (List.replicate (F * 256) (0 : Int)).length = F * 256 := List.length_replicate
  generalize List.replicate (F * 256) (0 : Int) = zs at *
  have hfr : (((F * 256 : Nat) : Int) / 256) = (F : Int) := by omega
  have FR := frames_any _ _ _ _ _ m1.len m1.hv
  rw [hl1, hfr] at FR
  go_wp2_with fail
  refine FR.mono ?_
  rintro e x2 ⟨rfl, rfl⟩
  clear FR
  have l1 := m1.blt
  have l2 := m1.glt
  have E1 : EW w (x2.alloc (.cells #[.int .i64 1, .int .i64 4, .int .i64 8] 3)) b g x2.heap.size (F * 256) := by
    have hb : Below x2.heap.size x2 (x2.alloc (.cells #[.int .i64 1, .int .i64 4, .int .i64 8] 3)) := (Below.refl _ _).alloc (Nat.le_refl _) _
    exact ⟨⟨zs, hl1, m1.below hb⟩, SZ.below z1 hb, c1.trans (hb.mono c1.size), by simp, by simp, by simp⟩
  have HL : x2.heap.size ≠ g := by omega
  clear z1 c1 m1 hl1 hfr
  go_wp2_with fail
  go_loopw [45] (fun i wr => ∃ k : Nat, k ≤ 3 ∧ i = .int .i64 k ∧ EW w wr b g x2.heap.size (F * 256)) (fun i _ => 3 - (intOf i).toNat)
  case atStart => exact ⟨0, by omega, rfl, E1⟩
  case round =>
    obtain ⟨k, hk, rfl, E⟩ := hrel
    clear E1
    have hLt := E.lt
    obtain rfl | rfl | rfl | rfl : k = 0 ∨ k = 1 ∨ k = 2 ∨ k = 3 := by omega
    · have hc := E.c0
      have hn := ends_num1 F B hF1 hB63
      clear hLt
      by_cases h : 1 ≤ B
      · rw [if_pos h] at hn
        have LO := load_ew E (256 * (F : Int) - B) 1 (by omega) (by omega) (by omega)
        rw [hn] at LO
        have HN : Hid (_) := hn
        clear hn
        have hLt := E.lt
        go_wp2_with fail
        refine LO.mono ?_
        rintro e x3 ⟨⟨v, rfl⟩, E3⟩
        have ST := store_ew E3 (256 * (F : Int) - B) 1 7 (by omega) (by omega) (by omega) (by omega) (by omega) lg HL
        rw [HN.out] at ST
        clear LO hc E
        go_wp2_with fail
        refine ST.mono ?_
        rintro e x4 ⟨rfl, E4⟩
        go_wp2_with fail
        go_roundw
        case rel => exact ⟨1, by omega, by go_num, E4⟩
        case measure => simp [intOf]
      · rw [if_neg h] at hn
        have LO := load_ew E (256 * (F : Int) - B) 1 (by omega) (by omega) (by omega)
        rw [hn] at LO
        have HN : Hid (_) := hn
        clear hn
        have hLt := E.lt
        go_wp2_with fail
        refine LO.mono ?_
        rintro e x3 ⟨⟨v, rfl⟩, E3⟩
        have ST := store_ew E3 (256 * (F : Int) - B) 1 7 (by omega) (by omega) (by omega) (by omega) (by omega) lg HL
        rw [HN.out] at ST
        clear LO hc E
        go_wp2_with fail
        refine ST.mono ?_
        rintro e x4 ⟨rfl, E4⟩
        go_wp2_with fail
        go_roundw
        case rel => exact ⟨1, by omega, by go_num, E4⟩
        case measure => simp [intOf]
    · have hc := E.c1
      have hn := ends_num4 F B hF1 hB63
      clear hLt
      by_cases h : 4 ≤ B
      · rw [if_pos h] at hn
        have LO := load_ew E (256 * (F : Int) - B / 4 * 4) 4 (by omega) (by omega) (by omega)
        rw [hn] at LO
        have HN : Hid (_) := hn
        clear hn
        have hLt := E.lt
        go_wp2_with fail
        refine LO.mono ?_
        rintro e x3 ⟨⟨v, rfl⟩, E3⟩
        have ST := store_ew E3 (256 * (F : Int) - B / 4 * 4) 4 7 (by omega) (by omega) (by omega) (by omega) (by omega) lg HL
        rw [HN.out] at ST
        clear LO hc E
        go_wp2_with fail
        refine ST.mono ?_
        rintro e x4 ⟨rfl, E4⟩
        go_wp2_with fail
        go_roundw
        case rel => exact ⟨2, by omega, by go_num, E4⟩
        case measure => simp [intOf]
      · rw [if_neg h] at hn
        have LO := load_ew E (256 * (F : Int) - B / 4 * 4) 4 (by omega) (by omega) (by omega)
        rw [hn] at LO
        have HN : Hid (_) := hn
        clear hn
        have hLt := E.lt
        go_wp2_with fail
        refine LO.mono ?_
        rintro e x3 ⟨⟨v, rfl⟩, E3⟩
        have ST := store_ew E3 (256 * (F : Int) - B / 4 * 4) 4 7 (by omega) (by omega) (by omega) (by omega) (by omega) lg HL
        rw [HN.out] at ST
        clear LO hc E
        go_wp2_with fail
        refine ST.mono ?_
        rintro e x4 ⟨rfl, E4⟩
        go_wp2_with fail
        go_roundw
        case rel => exact ⟨2, by omega, by go_num, E4⟩
        case measure => simp [intOf]
    · have hc := E.c2
      have hn := ends_num8 F B hF1 hB63
      clear hLt
      by_cases h : 8 ≤ B
      · rw [if_pos h] at hn
        have LO := load_ew E (256 * (F : Int) - B / 8 * 8) 8 (by omega) (by omega) (by omega)
        rw [hn] at LO
        have HN : Hid (_) := hn
        clear hn
        have hLt := E.lt
        go_wp2_with fail
        refine LO.mono ?_
        rintro e x3 ⟨⟨v, rfl⟩, E3⟩
        have ST := store_ew E3 (256 * (F : Int) - B / 8 * 8) 8 7 (by omega) (by omega) (by omega) (by omega) (by omega) lg HL
        rw [HN.out] at ST
        clear LO hc E
        go_wp2_with fail
        refine ST.mono ?_
        rintro e x4 ⟨rfl, E4⟩
        go_wp2_with fail
        go_roundw
        case rel => exact ⟨3, by omega, by go_num, E4⟩
        case measure => simp [intOf]
      · rw [if_neg h] at hn
        have LO := load_ew E (256 * (F : Int) - B / 8 * 8) 8 (by omega) (by omega) (by omega)
        rw [hn] at LO
        have HN : Hid (_) := hn
        clear hn
        have hLt := E.lt
        go_wp2_with fail
        refine LO.mono ?_
        rintro e x3 ⟨⟨v, rfl⟩, E3⟩
        have ST := store_ew E3 (256 * (F : Int) - B / 8 * 8) 8 7 (by omega) (by omega) (by omega) (by omega) (by omega) lg HL
        rw [HN.out] at ST
        clear LO hc E
        go_wp2_with fail
        refine ST.mono ?_
        rintro e x4 ⟨rfl, E4⟩
        go_wp2_with fail
        go_roundw
        case rel => exact ⟨3, by omega, by go_num, E4⟩
        case measure => simp [intOf]
    · obtain ⟨zs', hl', m'⟩ := E.mm
      have zE := E.sz
      have cE := E.below
      clear E hLt
      have BY := mbytes_yes b g zs' (F * 256 - B) B wr m' (by omega)
      rw [show ((F * 256 - B : Nat) : Int) = 256 * (F : Int) - B by omega] at BY
      go_wp2_with fail
      refine BY.mono ?_
      rintro e x3 ⟨g', rfl, own3, k3⟩
      have m3 := m'.below k3
      have c3 := cE.trans (k3.mono cE.size)
      clear BY own3
      have e2 : plcE zs'.length (256 * (F : Int) - B) ((B : Int) + 1) = 12 := by rw [plcE, if_neg (by omega), if_pos (by omega)]
      have B2 := mbytes_no b g zs' (256 * (F : Int) - B) ((B : Int) + 1) x3 m3 (by omega) (by omega) (by omega) (by omega)
      rw [e2] at B2
      clear e2
      go_wp2_with fail
      refine B2.mono ?_
      rintro e x4 ⟨rfl, k4⟩
      have m4 := m3.below k4
      have c4 := c3.trans (k4.mono c3.size)
      clear B2
      have e3 : plcE zs'.length (256 * (F : Int) + 1) 0 = 12 := by rw [plcE, if_neg (by omega), if_pos (by omega)]
      have B3 := mbytes_no b g zs' (256 * (F : Int) + 1) 0 x4 m4 (by omega) (by omega) (by omega) (by omega)
      rw [e3] at B3
      clear e3
      go_wp2_with fail
      refine B3.mono ?_
      rintro e x5 ⟨rfl, k5⟩
      have m5 := m4.below k5
      have c5 := c4.trans (k5.mono c4.size)
      clear B3
      have hb5 : Below x5.heap.size x5 (x5.alloc (.cells #[.int .u8 1] 5)) := (Below.refl _ _).alloc (Nat.le_refl _) _
      have m6 := m5.below hb5
      have s6 : SL (x5.alloc (.cells #[.int .u8 1] 5)) (some ⟨x5.heap.size, 0, none⟩) 1 [1] := by
        refine ⟨rfl, ?_, .inr ⟨x5.heap.size, 0, rfl, by simp, ?_⟩⟩
        · intro i
          rcases i with _ | i <;> simp
        · intro i hi
          obtain rfl : i = 0 := by omega
          simp
      have e4 : plcE zs'.length (256 * (F : Int)) ([1] : List Int).length = 12 := by rw [plcE, if_neg (by simp), if_pos (by simp; omega)]
      have P4 := mput_mm b g zs' [1] (256 * (F : Int)) (some ⟨x5.heap.size, 0, none⟩) 1 1 _ m6 s6 (by omega) (by omega) (by omega)
      rw [e4] at P4
      have e4' : putV zs' (256 * (F : Int)) [1] = zs' := by rw [putV, e4]; rfl
      rw [e4'] at P4
      clear e4 e4' s6
      have c6 := c5.trans (hb5.mono c5.size)
      have HC6 : Hid (_) := c6
      clear c6 hb5 m6
      go_wp2_with fail
      refine P4.mono ?_
      rintro e x6 ⟨rfl, m7, k7⟩
      have c7 := HC6.out.grown k7 HC6.out.size (by intro k h; cases h; exact lg)
      have e5 : clrE zs'.length F = 12 := by rw [clrE, if_neg (by omega)]
      have e5' : clearV zs' F = zs' := by rw [clearV, if_neg (by omega)]
      have C5 := mclear_mm b g zs' F x6 m7
      rw [e5, e5'] at C5
      clear e5 e5' P4
      go_wp2_with fail
      refine C5.mono ?_
      rintro e x7 ⟨rfl, m8, k8⟩
      have c8 := c7.grown k8 c7.size (by intro k h; cases h; exact lg)
      go_wp2_with fail
      go_ret
      exact ⟨rfl, c8⟩
end memEnds
end Go.Proofs.YtcpkboihkgkkmaaDoor
