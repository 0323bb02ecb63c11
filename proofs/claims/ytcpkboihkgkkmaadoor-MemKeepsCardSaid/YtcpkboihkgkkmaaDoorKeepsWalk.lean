/-
  What is stored is loaded, and nothing else changes: the walk of MemKeeps.
-/
import Derived.Test.YtcpkboihkgkkmaaDoorApartWalk
import Derived.Deep.QuietTactic
import Derived.BigQuiet
namespace Go.Proofs.YtcpkboihkgkkmaaDoor
open Go.RowKit
set_option linter.unusedVariables false

theorem kback8 (v : Int) (h0 : 0 ≤ v) (h1 : v ≤ 18446744073709551615) : extW ((8 : Nat) : Int) (leFrom (bytesOf v 8) 0 8) = v := by
  rw [le_bytes v 8 8 (by omega)]; simp [extW]; omega
theorem kback1 (v : Int) : extW ((1 : Nat) : Int) (leFrom (bytesOf v 1) 0 1) = v % 256 := by
  rw [le_bytes v 1 1 (by omega)]; simp [extW]
theorem kback4 (v : Int) : extW ((4 : Nat) : Int) (leFrom (bytesOf v 4) 0 4) = IntKind.u64.wrap (wrap64 (wrap32 v)) := by
  rw [le_bytes v 4 4 (by omega), IntKind.wrap_u64]
  simp only [extW, wrap64, wrap32]
  split <;> omega
theorem kand255 (v : Int) (h0 : 0 ≤ v) (h1 : v ≤ 18446744073709551615) : bits .and .u64 v 255 = v % 256 :=
  bits_mask .u64 64 (by decide) wraps_u64 8 (by decide) v h0 (by omega)

/-- what a store of n bytes at T leaves -/
theorem keeps_facts (zs : List Int) (hl : zs.length = 512) (T n : Nat) (v : Int) (hn : isW n) (hd : (T : Int) % n = 0) (hT : T + n ≤ 512) :
    numE zs.length T n = 0 ∧ (storeV zs T n v).length = 512 ∧ loadV (storeV zs T n v) T n = extW n (leFrom (bytesOf v n) 0 n) ∧ ∀ i, ¬ (T ≤ i ∧ i < T + n) → (storeV zs T n v).getD i 0 = zs.getD i 0 := by
  have e1 : numE 512 T n = 0 := by rw [numE, if_neg (fun h => h hn), if_neg (fun h => h hd), if_neg (by omega)]
  have hb := bytesOf_len v n
  have e2 : storeV zs T n v = splice zs T (bytesOf v n) := by rw [storeV, hl, if_pos e1, Int.toNat_natCast, Int.toNat_natCast]
  have e3 := length_splice zs T (bytesOf v n) (by omega)
  have hg := splice_getD zs (bytesOf v n) T
  rw [hb] at hg
  refine ⟨by rw [hl]; exact e1, by rw [e2, e3, hl], ?_, ?_⟩
  · rw [e2, loadV, e3, hl, if_pos e1, Int.toNat_natCast, Int.toNat_natCast]
    rw [leFrom_congr _ (bytesOf v n) n T 0 (fun i hi => by rw [hg _ (by omega), if_pos (by omega)]; congr 1; omega)]
  · intro i hi
    rw [e2, hg i (by omega), if_neg hi]

/-- the state between the rounds -/
structure KW (w0 w : World) (b g L gw : Nat) (zs : List Int) : Prop where
  mm : MM w b g zs
  hl : zs.length = 512
  sz : SZ w
  below : Below w0.heap.size w0 w
  c0 : w.cell? ⟨L, 0, none⟩ = some (.int .i64 1)
  c1 : w.cell? ⟨L, 1, none⟩ = some (.int .i64 4)
  c2 : w.cell? ⟨L, 2, none⟩ = some (.int .i64 8)
  was : ∀ i, i < 512 → w.cell? ⟨gw, i, none⟩ = some (.int .u8 (zs.getD i 0))
  ne : gw ≠ g
  neL : L ≠ g
  lg : w0.heap.size ≤ g
theorem KW.lt {w0 w : World} {b g L gw : Nat} {zs : List Int} (h : KW w0 w b g L gw zs) : L < w.heap.size := World.block_lt_of_cell? w ⟨L, 0, none⟩ h.c0
theorem KW.ltw {w0 w : World} {b g L gw : Nat} {zs : List Int} (h : KW w0 w b g L gw zs) : gw < w.heap.size := World.block_lt_of_cell? w ⟨gw, 0, none⟩ (h.was 0 (by omega))

/-- the state inside a round, behind the store: what was, what is -/
structure KI (w0 w : World) (b g L gw : Nat) (zs ys : List Int) : Prop where
  mm : MM w b g ys
  hl : ys.length = 512
  sz : SZ w
  below : Below w0.heap.size w0 w
  c0 : w.cell? ⟨L, 0, none⟩ = some (.int .i64 1)
  c1 : w.cell? ⟨L, 1, none⟩ = some (.int .i64 4)
  c2 : w.cell? ⟨L, 2, none⟩ = some (.int .i64 8)
  was : ∀ i, i < 512 → w.cell? ⟨gw, i, none⟩ = some (.int .u8 (zs.getD i 0))
  neL : L ≠ g
  lg : w0.heap.size ≤ g
theorem KI.next {w0 w w' : World} {b g L gw : Nat} {zs ys : List Int} (h : KI w0 w b g L gw zs ys) (hk : Below w.heap.size w w') : KI w0 w' b g L gw zs ys := by
  have hc := (bcell hk).1
  have lt : ∀ {B o u}, w.cell? ⟨B, o, none⟩ = some u → B < w.heap.size := fun {B o u} e => World.block_lt_of_cell? w ⟨B, o, none⟩ e
  exact ⟨h.mm.below hk, h.hl, SZ.below h.sz hk, h.below.trans (hk.mono h.below.size), (hc _ _ (lt h.c0)).trans h.c0, (hc _ _ (lt h.c1)).trans h.c1, (hc _ _ (lt h.c2)).trans h.c2, fun i hi => (hc _ _ (lt (h.was i hi))).trans (h.was i hi), h.neL, h.lg⟩
theorem KW.store {w0 w w' : World} {b g L gw : Nat} {zs ys : List Int} (h : KW w0 w b g L gw zs) (hm : MM w' b g ys) (hl : ys.length = 512) (hk : w.grownBy w' (some g)) : KI w0 w' b g L gw zs ys := by
  have hp := h.sz.pos
  have hg0 : 0 < g := by
    rcases Nat.eq_zero_or_pos g with h0 | h'
    · have e1 := h.sz.c0
      have hm := h.mm
      rw [h0] at hm
      rw [hm.rowAt 0 hm.pos] at e1
      simp at e1
    · exact h'
  have hcL : ∀ o, w'.cell? ⟨L, o, none⟩ = w.cell? ⟨L, o, none⟩ := fun o => World.cell?_of_block (a := ⟨L, o, none⟩) (hk.block L h.lt (by simp; exact h.neL))
  have hcw : ∀ o, w'.cell? ⟨gw, o, none⟩ = w.cell? ⟨gw, o, none⟩ := fun o => World.cell?_of_block (a := ⟨gw, o, none⟩) (hk.block gw h.ltw (by simp; exact h.ne))
  exact ⟨hm, hl, SZ.kept h.sz hg0 hk, h.below.grown hk h.below.size (by intro k e; cases e; exact h.lg), (hcL _).trans h.c0, (hcL _).trans h.c1, (hcL _).trans h.c2, fun i hi => (hcw i).trans (h.was i hi), h.neL, h.lg⟩
/-- what is told behind the store becomes what was -/
theorem KI.turn {w0 w : World} {b g L gw gi : Nat} {zs ys : List Int} (h : KI w0 w b g L gw zs ys) (hi : ∀ i, i < 512 → w.cell? ⟨gi, i, none⟩ = some (.int .u8 (ys.getD i 0))) (hne : gi ≠ g) : KW w0 w b g L gi ys :=
  ⟨h.mm, h.hl, h.sz, h.below, h.c0, h.c1, h.c2, hi, hne, h.neL, h.lg⟩

theorem store_kw {w0 w : World} {b g L gw : Nat} {zs : List Int} (h : KW w0 w b g L gw zs) (T n : Nat) (t m v : Int) (et : (T : Int) = t) (em : (n : Int) = m) (hn : isW n) (hd : (T : Int) % n = 0) (hT : T + n ≤ 512) (h0 : 0 ≤ v) (h1 : v ≤ 18446744073709551615) :
    Calls Tryd.prog 17 #[.pointer (some ⟨b, 0, none⟩), .int .u64 t, .int .i64 m, .int .u64 v] w fun e w' => e = .returned (.int .i64 0) ∧ KI w0 w' b g L gw zs (storeV zs T n v) := by
  subst et em
  obtain ⟨e1, e2, e3, e4⟩ := keeps_facts zs h.hl T n v hn hd hT
  have := mstore_mm b g zs T n v w h.sz h.mm (by omega) (by omega) (by omega) h0 (by omega)
  rw [e1] at this
  refine this.mono ?_
  rintro e w' ⟨rfl, hm, hk⟩
  exact ⟨rfl, h.store hm e2 hk⟩
theorem load_ki {w0 w : World} {b g L gw : Nat} {zs : List Int} (T n : Nat) (t m v x : Int) (et : (T : Int) = t) (em : (n : Int) = m) (hl : zs.length = 512) (h : KI w0 w b g L gw zs (storeV zs T n v)) (hn : isW n) (hd : (T : Int) % n = 0) (hT : T + n ≤ 512) (hx : extW n (leFrom (bytesOf v n) 0 n) = x) :
    Calls Tryd.prog 16 #[.pointer (some ⟨b, 0, none⟩), .int .u64 t, .int .i64 m] w fun e w' => e = .returned (.tuple #[.int .u64 x, .int .i64 0]) ∧ KI w0 w' b g L gw zs (storeV zs T n v) := by
  subst et em hx
  obtain ⟨e1, e2, e3, e4⟩ := keeps_facts zs hl T n v hn hd hT
  have := mload_mm b g (storeV zs T n v) T n w h.sz h.mm (by omega) (by omega) (by omega)
  rw [e3, e2, ← hl, e1] at this
  refine this.mono ?_
  rintro e w' ⟨rfl, hb⟩
  exact ⟨rfl, h.next hb⟩
theorem bytes_ki {w0 w : World} {b g L gw : Nat} {zs ys : List Int} (h : KI w0 w b g L gw zs ys) :
    Calls Tryd.prog 15 #[.pointer (some ⟨b, 0, none⟩), .int .u64 0, .int .i64 512] w fun e w' => ∃ gi, e = .returned (.tuple #[.slice (some ⟨gi, 0, none⟩) 512 512, .int .i64 0]) ∧ KI w0 w' b g L gw zs ys ∧ gi ≠ g ∧ ∀ i, i < 512 → w'.cell? ⟨gi, i, none⟩ = some (.int .u8 (ys.getD i 0)) := by
  have hl := h.hl
  refine (mbytes_yes b g ys 0 512 w h.mm (by omega)).mono ?_
  rintro e w' ⟨gi, rfl, hown, hb⟩
  have hg := h.mm.glt
  obtain ⟨k1, k2, k3⟩ := own_heap hown
  refine ⟨gi, rfl, h.next hb, by omega, fun i hi => ?_⟩
  have := hown.cellAt i (by omega)
  rw [this]
  simp [hi, List.getElem?_eq_getElem (show i < ys.length by omega)]
theorem below_drewN {B : Nat} {a w : World} (h : Below B a w) : ∀ n, Below B a (w.drewN n)
  | 0 => h
  | n + 1 => (below_drewN h n).drew
theorem neqs (x y : Int) (h : x = y) : (x != y) = false := by subst h; simp

theorem put_k {x : World} {b g : Nat} {a : Option Addr} {n c : Nat} {ys : List Int} (m : MM x b g (List.replicate 512 0)) (hs : SL x a n ys) (hn : n ≤ 512) :
    Calls Tryd.prog 18 #[.pointer (some ⟨b, 0, none⟩), .int .u64 0, .slice a n c] x fun e w' => e = .returned (.int .i64 0) ∧ ∃ Z : List Int, Z.length = 512 ∧ MM w' b g Z ∧ x.grownBy w' (some g) := by
  have hl := hs.1
  have e1 : plcE (List.replicate 512 (0 : Int)).length 0 ys.length = 0 := by rw [plcE, if_neg (by omega), List.length_replicate, if_neg (by omega)]
  have := mput_mm b g (List.replicate 512 0) ys 0 a n c x m hs (by omega) (by omega) (by omega)
  rw [e1, show putV (List.replicate 512 0) 0 ys = splice (List.replicate 512 0) 0 ys by rw [putV, if_pos e1]; rfl] at this
  refine this.mono ?_
  rintro e w' ⟨rfl, hm, hk⟩
  exact ⟨rfl, _, (length_splice (List.replicate 512 (0 : Int)) 0 ys (by rw [List.length_replicate]; omega)).trans List.length_replicate, hm, hk⟩
theorem SL.short {w : World} {a : Option Addr} {n : Nat} {zs : List Int} (h : SL w a n zs) (m : Nat) (hm : m ≤ n) : SL w a m (zs.take m) := by
  obtain ⟨h1, h2, h3⟩ := h
  refine ⟨by simp; omega, ?_, ?_⟩
  · have := bytes_mid h2 0 m
    simpa using this
  · rcases h3 with h3 | ⟨b, off, rfl, hlt, hc⟩
    · exact .inl (by omega)
    · refine .inr ⟨b, off, rfl, hlt, fun i hi => ?_⟩
      rw [hc i (by omega)]
      simp [List.getD, hi]

namespace memKeeps
set_option maxRecDepth 100000 in
set_option maxHeartbeats 3200000 in
theorem walk (a0 a1 : Int) (a : Option Addr) (len cap : Nat) (zs0 : List Int) (w0 : (Lit.int .u64 a0).wf = true) (w1 : (Lit.int .u64 a1).wf = true) (w : World) (hz : SZ w) (hs : SL w a len zs0) (hnil : a = none → len = 0 ∧ cap = 0) (hcap : len ≤ cap) (hcm : cap ≤ 9223372036854775807) :
    Calls Tryd.prog 5 #[.int .u64 a0, .int .u64 a1, .slice a len cap] w fun e w' => e = .returned (.bool true) ∧ Below w.heap.size w w' := by
  have b0 := bounds_u64 w0
  have b1 := bounds_u64 w1
  obtain ⟨P, hP⟩ : ∃ P : Nat, a0 % 512 = (P : Int) := ⟨(a0 % 512).toNat, by omega⟩
  have hP511 : P ≤ 511 := by omega
  have N1 := new_yes 2 w (by decide) (by decide)
  rw [show 2 * 256 = 512 from rfl] at N1
  go_enter Tryd.func5, Tryd.ntmps5
  go_wp2_with fail
  refine N1.mono ?_
  rintro e x1 ⟨b, g, rfl, m1, lb, lg, c1⟩
  have z1 := SZ.below hz c1
  have s1 := SL.below hs c1
  clear N1 hs
  rcases Nat.lt_or_ge 512 len with hgt | hgt
  case' inl =>
    have P1 := put_k (c := cap) m1 (SL.short s1 512 (by omega)) (by omega)
  case' inr =>
    have P1 := put_k (c := cap) m1 s1 (by omega)
  all_goals
    go_wp2_with fail
    refine P1.mono ?_
    rintro e x2 ⟨rfl, Z, hZ, m2, k2⟩
    have hp := hz.pos
    have z2 := SZ.kept z1 (by omega) k2
    have c2 : Below w.heap.size w x2 := c1.grown k2 c1.size (by intro k h; cases h; exact lg)
    clear P1 m1 z1 s1 c1 k2
    have hg2 := m2.glt
    have B1 := mbytes_yes b g Z 0 512 x2 m2 (by omega)
    go_wp2_with fail
    refine B1.mono ?_
    rintro e x3 ⟨gw, rfl, own3, k3⟩
    have E0 : KW w (x3.alloc (.cells #[.int .i64 1, .int .i64 4, .int .i64 8] 3)) b g x3.heap.size gw Z := by
      have hb : Below x3.heap.size x3 (x3.alloc (.cells #[.int .i64 1, .int .i64 4, .int .i64 8] 3)) := (Below.refl _ _).alloc (Nat.le_refl _) _
      have m3 := m2.below k3
      have c3 : Below w.heap.size w x3 := c2.trans (k3.mono c2.size)
      obtain ⟨q1, q2, q3⟩ := own_heap own3
      have hg3 := m3.glt
      refine ⟨m3.below hb, hZ, SZ.below (SZ.below z2 k3) hb, c3.trans (hb.mono c3.size), by simp, by simp, by simp, fun i hi => ?_, by omega, by omega, lg⟩
      rw [(bcell hb).1 _ _ (lt_of_heap q1), own3.cellAt i (by omega)]
      simp [hi, List.getElem?_eq_getElem (show i < Z.length by omega)]
    clear B1 own3 k3 z2 c2 m2
    go_wp2_with fail
    go_loopw [9, 45] (fun sv i wr => ∃ (k gw : Nat) (zs : List Int), k ≤ 3 ∧ i = .int .i64 k ∧ sv = .slice (some ⟨gw, 0, none⟩) 512 512 ∧ KW w wr b g x3.heap.size gw zs) (fun _ i _ => 3 - (intOf i).toNat)
    case atStart => exact ⟨0, gw, Z, by omega, rfl, rfl, E0⟩
    case round =>
      obtain ⟨k, gw, zs, hk, rfl, rfl, E⟩ := hrel
      clear E0
      obtain rfl | rfl | rfl | rfl : k = 0 ∨ k = 1 ∨ k = 2 ∨ k = 3 := by omega
      · have hc := E.c0
        have hLt := E.lt
        have e255 := kand255 a1 b1.1 b1.2
        obtain ⟨T, hT⟩ : ∃ T : Nat, (P : Int) = T := ⟨((P : Int)).toNat, by omega⟩
        have hT1 : T + 1 ≤ 512 := by omega
        have hT2 : (T : Int) % ((1 : Nat) : Int) = 0 := by omega
        have ST := store_kw E T 1 T 1 a1 rfl rfl (by unfold isW; omega) hT2 hT1 b1.1 b1.2
        obtain ⟨_, _, _, HF⟩ := keeps_facts zs E.hl T 1 a1 (by unfold isW; omega) hT2 hT1
        have LD := fun (y : World) K => load_ki (w := y) (b := b) (g := g) (L := x3.heap.size) (gw := gw) (w0 := w) (zs := zs) T 1 T 1 a1 (a1 % 256) rfl rfl E.hl K (by unfold isW; omega) hT2 hT1 (kback1 a1)
        have HT2 : Hid (_) := hT2
        clear hT2
        go_wp2_with fail
        try rw [hT]
        refine ST.mono ?_
        rintro e y1 ⟨rfl, K1⟩
        clear ST hc hLt
        go_wp2_with fail
        refine (LD _ K1).mono ?_
        rintro e y2 ⟨rfl, K2⟩
        clear LD K1
        go_wp2_with fail
        refine (bytes_ki K2).mono ?_
        rintro e y3 ⟨gi, rfl, K3, hne, his⟩
        clear K2 hT
        have HIS : Hid (_) := his
        clear his
        generalize storeV zs (T : Int) ((1 : Nat) : Int) a1 = ys at *
        go_wp2_with fail
        go_loopw [18] (fun t wq => ∃ i : Nat, i ≤ 512 ∧ t = .int .i64 i ∧ Below y3.heap.size y3 wq) (fun t _ => 512 - (intOf t).toNat)
        case atStart => exact ⟨0, by omega, rfl, Below.refl _ _⟩
        case round =>
          obtain ⟨i, hi, rfl, hb⟩ := hrel
          by_cases hlt : i < 512
          · have hcc := (bcell hb).1
            have hs3 := hb.size
            have q1 := K3.was i hlt
            have q2 := HIS.out i hlt
            have l1 := World.block_lt_of_cell? y3 ⟨gw, i, none⟩ q1
            have l2 := World.block_lt_of_cell? y3 ⟨gi, i, none⟩ q2
            have r1 := (hcc _ i l1).trans q1
            have r2 := (hcc _ i l2).trans q2
            clear q1 q2 hcc
            by_cases hin : T ≤ i ∧ i < T + 1
            · have HB : Hid (_) := hb
              clear hb r1 r2 HF
              have d1 : decide ((i : Int) < (T : Int)) = false := decide_eq_false (by omega)
              have d2 : decide ((T : Int) + 1 ≤ (i : Int)) = false := decide_eq_false (by omega)
              have n1 : decide (i < T) = false := decide_eq_false (by omega)
              have n2 : decide (T + 1 ≤ i) = false := decide_eq_false (by omega)
              go_wp2_with fail
              go_quiet (fail)
              go_wp2_with fail
              go_roundw
              case rel => exact ⟨i + 1, by omega, by go_num, below_drewN HB.out _⟩
              case measure => simp [intOf]; omega
            · rw [HF i hin] at r2
              have HB : Hid (_) := hb
              clear hb HF
              generalize zs.getD i 0 = z at *
              rcases Nat.lt_or_ge i T with hlo | hhi
              · have d1 : decide ((i : Int) < (T : Int)) = true := decide_eq_true (by omega)
                go_wp2_with fail
                go_quiet (fail)
                go_wp2_with fail
                go_roundw
                case rel => exact ⟨i + 1, by omega, by go_num, below_drewN HB.out _⟩
                case measure => simp [intOf]; omega
              · have d1 : decide ((i : Int) < (T : Int)) = false := decide_eq_false (by omega)
                have d2 : decide ((T : Int) + 1 ≤ (i : Int)) = true := decide_eq_true (by omega)
                have n1 : decide (i < T) = false := decide_eq_false (by omega)
                have n2 : decide (T + 1 ≤ i) = true := decide_eq_true (by omega)
                go_wp2_with fail
                go_quiet (fail)
                go_wp2_with fail
                go_roundw
                case rel => exact ⟨i + 1, by omega, by go_num, below_drewN HB.out _⟩
                case measure => simp [intOf]; omega
          · obtain rfl : i = 512 := by omega
            have K4 := K3.next hb
            have KK := K4.turn (gi := gi) (fun i hi => ((bcell hb).1 _ i (World.block_lt_of_cell? y3 ⟨gi, i, none⟩ (HIS.out i hi))).trans (HIS.out i hi)) hne
            go_wp2_with fail
            go_roundw
            case rel => exact ⟨1, gi, ys, by omega, by go_num, rfl, KK⟩
            case measure => simp [intOf]
      · have hc := E.c1
        have hLt := E.lt
        have e255 := kand255 a1 b1.1 b1.2
        obtain ⟨T, hT⟩ : ∃ T : Nat, (P : Int) / 4 * 4 = T := ⟨((P : Int) / 4 * 4).toNat, by omega⟩
        have hT1 : T + 4 ≤ 512 := by omega
        have hT2 : (T : Int) % ((4 : Nat) : Int) = 0 := by omega
        have ST := store_kw E T 4 T 4 a1 rfl rfl (by unfold isW; omega) hT2 hT1 b1.1 b1.2
        obtain ⟨_, _, _, HF⟩ := keeps_facts zs E.hl T 4 a1 (by unfold isW; omega) hT2 hT1
        have LD := fun (y : World) K => load_ki (w := y) (b := b) (g := g) (L := x3.heap.size) (gw := gw) (w0 := w) (zs := zs) T 4 T 4 a1 (IntKind.u64.wrap (wrap64 (wrap32 a1))) rfl rfl E.hl K (by unfold isW; omega) hT2 hT1 (kback4 a1)
        have HT2 : Hid (_) := hT2
        clear hT2
        go_wp2_with fail
        try rw [hT]
        refine ST.mono ?_
        rintro e y1 ⟨rfl, K1⟩
        clear ST hc hLt
        go_wp2_with fail
        refine (LD _ K1).mono ?_
        rintro e y2 ⟨rfl, K2⟩
        clear LD K1
        go_wp2_with fail
        refine (bytes_ki K2).mono ?_
        rintro e y3 ⟨gi, rfl, K3, hne, his⟩
        clear K2 hT
        have HIS : Hid (_) := his
        clear his
        generalize storeV zs (T : Int) ((4 : Nat) : Int) a1 = ys at *
        go_wp2_with fail
        go_loopw [18] (fun t wq => ∃ i : Nat, i ≤ 512 ∧ t = .int .i64 i ∧ Below y3.heap.size y3 wq) (fun t _ => 512 - (intOf t).toNat)
        case atStart => exact ⟨0, by omega, rfl, Below.refl _ _⟩
        case round =>
          obtain ⟨i, hi, rfl, hb⟩ := hrel
          by_cases hlt : i < 512
          · have hcc := (bcell hb).1
            have hs3 := hb.size
            have q1 := K3.was i hlt
            have q2 := HIS.out i hlt
            have l1 := World.block_lt_of_cell? y3 ⟨gw, i, none⟩ q1
            have l2 := World.block_lt_of_cell? y3 ⟨gi, i, none⟩ q2
            have r1 := (hcc _ i l1).trans q1
            have r2 := (hcc _ i l2).trans q2
            clear q1 q2 hcc
            by_cases hin : T ≤ i ∧ i < T + 4
            · have HB : Hid (_) := hb
              clear hb r1 r2 HF
              have d1 : decide ((i : Int) < (T : Int)) = false := decide_eq_false (by omega)
              have d2 : decide ((T : Int) + 4 ≤ (i : Int)) = false := decide_eq_false (by omega)
              have n1 : decide (i < T) = false := decide_eq_false (by omega)
              have n2 : decide (T + 4 ≤ i) = false := decide_eq_false (by omega)
              go_wp2_with fail
              go_quiet (fail)
              go_wp2_with fail
              go_roundw
              case rel => exact ⟨i + 1, by omega, by go_num, below_drewN HB.out _⟩
              case measure => simp [intOf]; omega
            · rw [HF i hin] at r2
              have HB : Hid (_) := hb
              clear hb HF
              generalize zs.getD i 0 = z at *
              rcases Nat.lt_or_ge i T with hlo | hhi
              · have d1 : decide ((i : Int) < (T : Int)) = true := decide_eq_true (by omega)
                go_wp2_with fail
                go_quiet (fail)
                go_wp2_with fail
                go_roundw
                case rel => exact ⟨i + 1, by omega, by go_num, below_drewN HB.out _⟩
                case measure => simp [intOf]; omega
              · have d1 : decide ((i : Int) < (T : Int)) = false := decide_eq_false (by omega)
                have d2 : decide ((T : Int) + 4 ≤ (i : Int)) = true := decide_eq_true (by omega)
                have n1 : decide (i < T) = false := decide_eq_false (by omega)
                have n2 : decide (T + 4 ≤ i) = true := decide_eq_true (by omega)
                go_wp2_with fail
                go_quiet (fail)
                go_wp2_with fail
                go_roundw
                case rel => exact ⟨i + 1, by omega, by go_num, below_drewN HB.out _⟩
                case measure => simp [intOf]; omega
          · obtain rfl : i = 512 := by omega
            have K4 := K3.next hb
            have KK := K4.turn (gi := gi) (fun i hi => ((bcell hb).1 _ i (World.block_lt_of_cell? y3 ⟨gi, i, none⟩ (HIS.out i hi))).trans (HIS.out i hi)) hne
            go_wp2_with fail
            go_roundw
            case rel => exact ⟨2, gi, ys, by omega, by go_num, rfl, KK⟩
            case measure => simp [intOf]
      · have hc := E.c2
        have hLt := E.lt
        have e255 := kand255 a1 b1.1 b1.2
        obtain ⟨T, hT⟩ : ∃ T : Nat, (P : Int) / 8 * 8 = T := ⟨((P : Int) / 8 * 8).toNat, by omega⟩
        have hT1 : T + 8 ≤ 512 := by omega
        have hT2 : (T : Int) % ((8 : Nat) : Int) = 0 := by omega
        have ST := store_kw E T 8 T 8 a1 rfl rfl (by unfold isW; omega) hT2 hT1 b1.1 b1.2
        obtain ⟨_, _, _, HF⟩ := keeps_facts zs E.hl T 8 a1 (by unfold isW; omega) hT2 hT1
        have LD := fun (y : World) K => load_ki (w := y) (b := b) (g := g) (L := x3.heap.size) (gw := gw) (w0 := w) (zs := zs) T 8 T 8 a1 (a1) rfl rfl E.hl K (by unfold isW; omega) hT2 hT1 (kback8 a1 b1.1 b1.2)
        have HT2 : Hid (_) := hT2
        clear hT2
        go_wp2_with fail
        try rw [hT]
        refine ST.mono ?_
        rintro e y1 ⟨rfl, K1⟩
        clear ST hc hLt
        go_wp2_with fail
        refine (LD _ K1).mono ?_
        rintro e y2 ⟨rfl, K2⟩
        clear LD K1
        go_wp2_with fail
        refine (bytes_ki K2).mono ?_
        rintro e y3 ⟨gi, rfl, K3, hne, his⟩
        clear K2 hT
        have HIS : Hid (_) := his
        clear his
        generalize storeV zs (T : Int) ((8 : Nat) : Int) a1 = ys at *
        go_wp2_with fail
        go_loopw [18] (fun t wq => ∃ i : Nat, i ≤ 512 ∧ t = .int .i64 i ∧ Below y3.heap.size y3 wq) (fun t _ => 512 - (intOf t).toNat)
        case atStart => exact ⟨0, by omega, rfl, Below.refl _ _⟩
        case round =>
          obtain ⟨i, hi, rfl, hb⟩ := hrel
          by_cases hlt : i < 512
          · have hcc := (bcell hb).1
            have hs3 := hb.size
            have q1 := K3.was i hlt
            have q2 := HIS.out i hlt
            have l1 := World.block_lt_of_cell? y3 ⟨gw, i, none⟩ q1
            have l2 := World.block_lt_of_cell? y3 ⟨gi, i, none⟩ q2
            have r1 := (hcc _ i l1).trans q1
            have r2 := (hcc _ i l2).trans q2
            clear q1 q2 hcc
            by_cases hin : T ≤ i ∧ i < T + 8
            · have HB : Hid (_) := hb
              clear hb r1 r2 HF
              have d1 : decide ((i : Int) < (T : Int)) = false := decide_eq_false (by omega)
              have d2 : decide ((T : Int) + 8 ≤ (i : Int)) = false := decide_eq_false (by omega)
              have n1 : decide (i < T) = false := decide_eq_false (by omega)
              have n2 : decide (T + 8 ≤ i) = false := decide_eq_false (by omega)
              go_wp2_with fail
              go_quiet (fail)
              go_wp2_with fail
              go_roundw
              case rel => exact ⟨i + 1, by omega, by go_num, below_drewN HB.out _⟩
              case measure => simp [intOf]; omega
            · rw [HF i hin] at r2
              have HB : Hid (_) := hb
              clear hb HF
              generalize zs.getD i 0 = z at *
              rcases Nat.lt_or_ge i T with hlo | hhi
              · have d1 : decide ((i : Int) < (T : Int)) = true := decide_eq_true (by omega)
                go_wp2_with fail
                go_quiet (fail)
                go_wp2_with fail
                go_roundw
                case rel => exact ⟨i + 1, by omega, by go_num, below_drewN HB.out _⟩
                case measure => simp [intOf]; omega
              · have d1 : decide ((i : Int) < (T : Int)) = false := decide_eq_false (by omega)
                have d2 : decide ((T : Int) + 8 ≤ (i : Int)) = true := decide_eq_true (by omega)
                have n1 : decide (i < T) = false := decide_eq_false (by omega)
                have n2 : decide (T + 8 ≤ i) = true := decide_eq_true (by omega)
                go_wp2_with fail
                go_quiet (fail)
                go_wp2_with fail
                go_roundw
                case rel => exact ⟨i + 1, by omega, by go_num, below_drewN HB.out _⟩
                case measure => simp [intOf]; omega
          · obtain rfl : i = 512 := by omega
            have K4 := K3.next hb
            have KK := K4.turn (gi := gi) (fun i hi => ((bcell hb).1 _ i (World.block_lt_of_cell? y3 ⟨gi, i, none⟩ (HIS.out i hi))).trans (HIS.out i hi)) hne
            go_wp2_with fail
            go_roundw
            case rel => exact ⟨3, gi, ys, by omega, by go_num, rfl, KK⟩
            case measure => simp [intOf]
      · have bl := E.below
        go_wp2_with fail
        go_ret
        exact ⟨rfl, bl⟩
end memKeeps
end Go.Proofs.YtcpkboihkgkkmaaDoor
