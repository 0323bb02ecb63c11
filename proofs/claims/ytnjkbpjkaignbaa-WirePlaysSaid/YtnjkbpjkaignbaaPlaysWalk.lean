/-
  The walk of WirePlays.
-/
import Derived.Test.YtnjkbpjkaignbaaPb
import Derived.Deep.RegionHeld2
import Derived.Deep.DeepCutAuto
import Derived.Deep.CutRange
namespace Go.Proofs.Ytnjkbpjkaignbaa
open Go.RowKit
set_option linter.unusedVariables false
set_option maxRecDepth 20000
namespace wirePlays
set_option maxHeartbeats 8000000 in
theorem walk_yes (ga : Option Addr) (n gc0 : Nat) (zs : List Int) (h1 : 1 ≤ n) (h32 : n ≤ 32) (hzl : zs.length = n) (ad : Option Addr) (len cap : Nat) (w : World) (hG : Nu w ga n zs) (hA : ActsIn w ad len) (hlen : len < 9223372036854775808) :
    Calls Try.prog 3 #[.slice ga n gc0, .slice ad len cap] w fun e w' => e = .returned (.bool true) ∧ Below w.heap.size w w' := by
  have bE : Below w.heap.size w (w.alloc (.cells #[] 3)) := (Below.refl _ _).alloc (Nat.le_refl _) _
  have hownA : (w.alloc (.cells #[] 3)).ownsRow w.heap.size 3 1 (.slice (some ⟨w.heap.size, 0, none⟩) 0 0) 0 [] := World.ownsRow_lit w #[] 0 (Nat.le_refl _) (by decide) rfl
  have hGA : Nu (w.alloc (.cells #[] 3)) ga n zs := hG.below bE
  have HG : Hid (Nu w ga n zs ∧ Below w.heap.size w (w.alloc (.cells #[] 3)) ∧ (ga = none → n = 0 ∧ gc0 = 0)) := ⟨hG, bE, fun e => by
    rcases hG with h0 | ⟨_, _, e', _⟩
    · omega
    · rw [e] at e'; cases e'⟩
  have HK : Hid (ActsIn w ad len) := hA
  clear hG bE hA
  go_enter Try.func3, Try.ntmps3
  go_wp2_with (at_builtin; refine wpList_append_in rfl (.tmp 25) (.tmp 26) rfl w.heap.size (.slice (some ⟨w.heap.size, 0, none⟩) 0 0) rfl hownA ga n gc0 zs hzl rfl HG.out.2.2 hGA (by omega) (by simp) ?_; intro v1 w1 hown1 hgrow1; obtain ⟨a1, c1, rfl, hnu1, hin1⟩ := own_in hown1 hzl)
  have bw : Below w.heap.size w w1 := HG.out.2.1.grown hgrow1 (by simp) (by intro k h; cases h; exact Nat.le_refl _)
  obtain ⟨X, rfl, hX1, hX2⟩ : ∃ X, a1 = some ⟨X, 0, none⟩ ∧ w.heap.size ≤ X ∧ IR w1 X n := by
    rcases hin1 with h0 | h0
    · omega
    · exact h0
  have NW := new_ok (some ⟨X, 0, none⟩) n c1 zs h1 h32 w1 hnu1 w.heap.size bw.size
  have H1 : Hid (Below w.heap.size w w1 ∧ IR w1 X n) := ⟨bw, hX2⟩
  clear hownA hGA hown1 hgrow1 hnu1 hin1 bw hX2
  refine NW.mono ?_
  rintro e w2 ⟨l, b, C, rfl, hW2, hb2, hl2⟩
  clear NW
  have RN := rnew_ok ga n gc0 zs h1 h32 w2 (HG.out.1.below (H1.out.1.trans (hb2.mono H1.out.1.size))) w2.heap.size (Nat.le_refl _)
  have H2 : Hid (WX w.heap.size w2 l b n C (fun i => zs.getD i 0) (fun _ => []) (fun _ => False) ∧ Below w1.heap.size w1 w2) := ⟨hW2, hb2⟩
  clear hW2 hb2 hl2
  go_wp2_with fail
  refine RN.mono ?_
  rintro e w3 ⟨r, g, d, gc, rfl, hR3, hb3⟩
  clear RN
  obtain ⟨B2, hB2⟩ : ∃ B2, w2.heap.size = B2 := ⟨_, rfl⟩
  have H3 : Hid (PZ w w3 B2 l b C r g d n gc (fun i => zs.getD i 0) (fun _ => []) ∧ IR w3 X n ∧ X < B2) := by
    have s1 := H1.out.1.size
    have s2 := H2.out.2.size
    have bb := H1.out.1.trans (H2.out.2.mono s1)
    refine ⟨⟨H2.out.1.below hb3, hB2 ▸ hR3, bb.trans (hb3.mono bb.size), by omega⟩, ?_, ?_⟩
    · have hx := H1.out.2.lt
      exact (H1.out.2.keep (H2.out.2.block X hx)).keep (hb3.block X (by omega))
    · have := H1.out.2.lt; omega
  clear hR3 hb3 H1 H2 HG hB2
  go_wp2_with fail
  refine (names_any _).mono ?_
  rintro e w3 ⟨rfl, rfl⟩
  have hXB := H3.out.2.2
  obtain ⟨G0, HG0⟩ : ∃ G0 : Nat → Int, Hid (PZ w w3 B2 l b C r g d n gc G0 (fun _ => []) ∧ IR w3 X n) := ⟨_, H3.out.1, H3.out.2.1⟩
  clear H3
  go_wp2_with fail
  go_loopw [10] (fun q wr => ∃ j : Nat, j ≤ n ∧ q = .int .i64 j ∧ Hid (PZ w wr B2 l b C r g d n gc G0 (fun _ => []) ∧ IR wr X n)) (fun q _ => n - (intOf q).toNat)
  case atStart => exact ⟨0, by omega, rfl, HG0⟩
  case round =>
    obtain ⟨j, hj, rfl, HS⟩ := hrel
    clear HG0
    by_cases hjn : j < n
    · have hjn' : (j : Int) < (n : Int) := by omega
      obtain ⟨⟨z, cz⟩, fz, xl⟩ := HS.out.2.at j hjn
      have EN : Hid (∀ z', PZ w (wr.setCell ⟨X, j, none⟩ (.int .i64 z')) B2 l b C r g d n gc G0 (fun _ => []) ∧ IR (wr.setCell ⟨X, j, none⟩ (.int .i64 z')) X n) := fun z' => by
        obtain ⟨f1, f2⟩ := HS.out.2.set j hjn z'
        exact ⟨HS.out.1.inw HS.out.2 hX1 hXB f2, f1⟩
      clear HS
      go_wp2_with fail
      go_roundw
      case rel => exact ⟨j + 1, by omega, by go_num, EN.out _⟩
      case measure => simp [intOf]; omega
    · have hj9 : (n : Int) ≤ (j : Int) := by omega
      have hd9 : decide (j < n) = false := decide_eq_false hjn
      have E1 : Hid (∃ G S, PZ w wr B2 l b C r g d n gc G S) := ⟨_, _, HS.out.1⟩
      clear HS hj hjn
      obtain ⟨wq, rfl⟩ : ∃ wq, wq = wr := ⟨_, rfl⟩
      go_wp2_with fail
      go_loopw [11] (fun q wr => ∃ j : Nat, j ≤ len ∧ q = .int .i64 j ∧ Hid (∃ G S, PZ w wr B2 l b C r g d n gc G S)) (fun q _ => len - (intOf q).toNat)
      case atStart => exact ⟨0, by omega, rfl, E1⟩
      case round =>
        obtain ⟨k, hk, rfl, HZ⟩ := hrel
        clear E1
        by_cases hkn : k < len
        · have hkn' : (k : Int) < (len : Int) := by omega
          obtain ⟨kb, off, rfl, hkb, x, ys, hx, hok⟩ := HK.out.at hkn
          obtain ⟨G, S, hZ⟩ := HZ.out
          obtain ⟨hbc, _⟩ := bcell hZ.bel
          have k0 := (hbc _ _ hkb).trans (hx 0 _ rfl)
          have k1 := (hbc _ _ hkb).trans (hx 1 _ rfl)
          have k2 := (hbc _ _ hkb).trans (hx 2 _ rfl)
          have k3 := (hbc _ _ hkb).trans (hx 3 _ rfl)
          rw [Nat.add_zero] at k0
          have hkbr : kb < wr.heap.size := by have := hZ.bel.size; omega
          have HY : Hid (PZ w (wr.alloc (.cells #[.int .i64 x.kd, .int .i64 x.fr, .int .i64 x.to, .slice x.a x.len x.cap] 34)) B2 l b C r g d n gc G S ∧ (wr.alloc (.cells #[.int .i64 x.kd, .int .i64 x.fr, .int .i64 x.to, .slice x.a x.len x.cap] 34)).heap[wr.heap.size]? = some (.cells x.cs.toArray 34 (0, 0))) := ⟨hZ.below ((Below.refl _ _).alloc (Nat.le_refl _) _), heap_alloc_at _ _⟩
          have HA : Hid (AcOk w x ys) := hok
          obtain ⟨A, hA⟩ : ∃ A, wr.heap.size = A := ⟨_, rfl⟩
          rw [hA] at HY
          clear hZ HZ hx hok hbc
          go_upto_region 13 with fail
          go_cut [12] from 66 to 229 (fun p wx => p = .pointer (some ⟨A, 0, none⟩) ∧ Hid (PZ w wx B2 l b C r g d n gc G S ∧ wx.heap[A]? = some (.cells x.cs.toArray 34 (0, 0))))
          case first =>
            go_wp2_with fail
            go_meet
            case rel => exact ⟨rfl, HY⟩
          case rest =>
            obtain ⟨rfl, HY0⟩ := hcut
            clear HY k0 k1 k2 k3 hkbr hA
            obtain ⟨y0, rfl⟩ : ∃ y0, y0 = wc := ⟨_, rfl⟩
            have bF : Below y0.heap.size y0 (y0.alloc (.cells #[] 5)) := (Below.refl _ _).alloc (Nat.le_refl _) _
            have hownB : (y0.alloc (.cells #[] 5)).ownsRow y0.heap.size 5 1 (.slice (some ⟨y0.heap.size, 0, none⟩) 0 0) 0 (([] : List Int).map (Value.int .u8)) := World.ownsRow_lit y0 #[] 0 (Nat.le_refl _) (by decide) rfl
            have hsA : SL (y0.alloc (.cells #[] 5)) x.a x.len ys := SL.below (SL.below HA.out.sl HY0.out.1.bel) bF
            have HBF : Hid (Below y0.heap.size y0 (y0.alloc (.cells #[] 5))) := bF
            have hle := HA.out.le
            have aA : y0.cell? ⟨A, 3, none⟩ = some (.slice x.a x.len x.cap) ∧ A < y0.heap.size := ⟨by rw [cell_at HY0.out.2]; rfl, lt_of_heap HY0.out.2⟩
            obtain ⟨aA, aL⟩ := aA
            clear bF
            go_upto_region 14 with fail
            go_cut [13] from 66 to 229 (fun p wx => ∃ a1 c1, p = .slice a1 x.len c1 ∧ Hid (SL wx a1 x.len ys ∧ ∃ N, PX w wx B2 l b C r g d n gc A x a1 G S G S N))
            case first =>
              go_wp2_with (at_builtin; refine wpList_append_sl rfl (.tmp 80) (.tmp 82) rfl y0.heap.size (.slice (some ⟨y0.heap.size, 0, none⟩) 0 0) 0 [] rfl hownB _ x.len x.cap ys rfl HA.out.nil hsA (by omega) (by simp) ?_; intro v1 y1 hown1 hgrow1; obtain ⟨a1, c1, rfl, hs1, hc1, hcm, hf1⟩ := own_fl hown1 HA.out.sl.2.1 HA.out.sl.1)
              have bw : Below y0.heap.size y0 y1 := HBF.out.grown hgrow1 (by simp) (by intro k h; cases h; exact Nat.le_refl _)
              have HP : Hid (SL y1 a1 x.len ys ∧ ∃ N, PX w y1 B2 l b C r g d n gc A x a1 G S G S N) := ⟨hs1, HY0.out.1.open bw ((bw.block A aL).trans HY0.out.2) hf1⟩
              clear hown1 hgrow1 hs1 hf1 bw
              go_meet
              case rel => exact ⟨a1, c1, rfl, HP⟩
            case rest =>
              obtain ⟨a1, c1, rfl, HP⟩ := hcut
              clear hownB hsA HBF aA aL HY0
              obtain ⟨y1, rfl⟩ : ∃ y1, y1 = wc := ⟨_, rfl⟩
              obtain ⟨N, HP0⟩ : ∃ N, Hid (PX w y1 B2 l b C r g d n gc A x a1 G S G S N) := HP.out.2
              have HSL : Hid (SL y1 a1 x.len ys) := HP.out.1
              clear HP
              go_step
              go_step
              go_cut [14, 15, 16, 17, 18, 19, 20, 21, 22] from 66 to 229 (fun _ _ _ _ _ _ _ _ _ wx => True ∧ Hid (∃ G S N, PX w wx B2 l b C r g d n gc A x a1 G S G S N))
              case first =>
               as_aux_lemma =>
                obtain ⟨a0, a1', a2, a3, al⟩ := HP0.out.cells
                by_cases h0 : x.kd = 0
                · rw [h0] at a0
                  have C1 := HP0.out.send HSL.out c1 x.fr x.to
                  obtain ⟨q, HQ⟩ : ∃ q, Hid (sndR n G S x.fr x.to ys.length = q) := ⟨_, rfl⟩
                  rw [HQ.out] at C1
                  clear HP0
                  go_wp2_with fail
                  refine C1.mono ?_
                  rintro e y2 ⟨rfl, hY2⟩
                  clear C1 a0 a1' a2 a3 al
                  obtain ⟨a0, a1', a2, a3, al⟩ := hY2.cells
                  have D2 := hY2.rsend HA.out.sl x.fr x.to
                  rw [HQ.out] at D2
                  clear hY2
                  go_wp2_with fail
                  refine D2.mono ?_
                  rintro e y3 ⟨rfl, hY3⟩
                  have HF : Hid (∃ G S N, PX w y3 B2 l b C r g d n gc A x a1 G S G S N) := ⟨_, _, _, hY3⟩
                  clear D2 hY3 a0 a1' a2 a3 al
                  go_wp2_with fail
                  go_meet
                  case rel => exact ⟨trivial, HF⟩
                by_cases h1' : x.kd = 1
                · rw [h1'] at a0
                  have bD : Below y1.heap.size y1 y1.drew := (Below.refl _ _).drew
                  have e1 : y1.drew.cell? ⟨A, 2, none⟩ = some (.int .i64 x.to) ∧ y1.drew.cell? ⟨A, 3, none⟩ = some (.slice x.a x.len x.cap) := ⟨a2, a3⟩
                  have C1 := (HP0.out.below bD).inject (HSL.out.below bD) c1 x.to
                  obtain ⟨q, HQ⟩ : ∃ q, Hid (injR n S x.to ys.length = q) := ⟨_, rfl⟩
                  rw [HQ.out] at C1
                  clear HP0 bD a1'
                  go_wp2_with fail
                  go_region_held2 (fun w' => w'.cell? ⟨A, 2, none⟩ = some (.int .i64 x.to) ∧ w'.cell? ⟨A, 3, none⟩ = some (.slice x.a x.len x.cap)) (first | exact e1 | exact e2 | exact e3)
                    (first
                      | (go_at_call 12; refine C1.mono ?_; rintro e y2 ⟨rfl, hY2⟩; obtain ⟨_, _, q2, q3, _⟩ := hY2.cells; (have e2 : y2.cell? ⟨A, 2, none⟩ = some (.int .i64 x.to) ∧ y2.cell? ⟨A, 3, none⟩ = some (.slice x.a x.len x.cap) := ⟨q2, q3⟩); (have D2 := hY2.rinject HA.out.sl x.to); rw [HQ.out] at D2)
                      | (go_at_call 13; refine D2.mono ?_; rintro e y3 ⟨rfl, hY3⟩; obtain ⟨_, _, r2, r3, _⟩ := hY3.cells; (have e3 : y3.cell? ⟨A, 2, none⟩ = some (.int .i64 x.to) ∧ y3.cell? ⟨A, 3, none⟩ = some (.slice x.a x.len x.cap) := ⟨r2, r3⟩)))
                  have HF : Hid (∃ G S N, PX w y3 B2 l b C r g d n gc A x a1 G S G S N) := ⟨_, _, _, hY3⟩
                  clear C1 D2 e1 e2 e3 hY2 hY3 q2 q3 r2 r3 a0 a2 a3 al
                  go_wp2_with fail
                  go_meet
                  case rel => exact ⟨trivial, HF⟩
                by_cases h2' : x.kd = 2
                · rw [h2'] at a0
                  by_cases he : Empty n S x.to
                  · have C1 := HP0.out.rcv_no x.to he
                    have HE : Hid (Empty n S x.to) := he
                    clear HP0 he a1' a3
                    go_wp2_with fail
                    refine C1.mono ?_
                    rintro e y2 ⟨rfl, hY2⟩
                    clear C1 a0 a2 al
                    obtain ⟨a0, _, a2, _, al⟩ := hY2.cells
                    have hO : (y2.alloc (.cells #[.int .i64 0, .slice none 0 0] 42)).heap[y2.heap.size]? = some (.cells #[.int .i64 0, .slice none 0 0] 42 (0, 0)) := heap_alloc_at _ _
                    have D2 := (hY2.below ((Below.refl _ y2).alloc (Nat.le_refl _) (.cells #[.int .i64 0, .slice none 0 0] 42))).rrcv_no x.to HE.out
                    have HO : Hid ((y2.alloc (.cells #[.int .i64 0, .slice none 0 0] 42)).heap[y2.heap.size]? = some (.cells #[.int .i64 0, .slice none 0 0] 42 (0, 0))) := hO
                    clear hY2 hO
                    dsimp only [z42]
                    go_wp2_with fail
                    refine D2.mono ?_
                    rintro e y3 ⟨rfl, hY3, t3⟩
                    have hg := (t3.block _ (lt_of_heap HO.out) (PX.notR HO.out (by decide))).trans HO.out
                    have d0 : y3.cell? ⟨y2.heap.size, 0, none⟩ = some (.int .i64 0) := by rw [cell_at hg]; rfl
                    have d1 : y3.cell? ⟨y2.heap.size, 1, none⟩ = some (.slice none 0 0) := by rw [cell_at hg]; rfl
                    have dl : y2.heap.size < y3.heap.size := lt_of_heap hg
                    have HF : Hid (∀ o, (∃ G S N, PX w (y3.alloc o) B2 l b C r g d n gc A x a1 G S G S N) ∧ (y3.alloc o).cell? ⟨y2.heap.size, 1, none⟩ = some (.slice none 0 0)) := fun o => ⟨⟨_, _, _, hY3.below ((Below.refl _ _).alloc (Nat.le_refl _) _)⟩, ((bcell ((Below.refl _ y3).alloc (Nat.le_refl _) o)).1 _ _ dl).trans d1⟩
                    have cv := fun o => conv_zero (y3.alloc o) none 0
                    clear D2 hY3 t3 hg HO HE a0 a2 al
                    go_wp2_with fail
                    go_loopw [22] (fun i wr => i = .int .i64 0 ∧ Hid ((∃ G S N, PX w wr B2 l b C r g d n gc A x a1 G S G S N) ∧ wr.cell? ⟨y2.heap.size, 1, none⟩ = some (.slice none 0 0))) (fun _ _ => 0)
                    case atStart => exact ⟨rfl, HF.out _⟩
                    case round =>
                      obtain ⟨rfl, HQ⟩ := hrel
                      clear HF cv d0 d1 dl
                      have cx := HQ.out.2
                      have xl : y2.heap.size < wr.heap.size := World.block_lt_of_cell? wr ⟨y2.heap.size, 1, none⟩ cx
                      go_wp2_with fail
                      go_meet
                      case rel => exact ⟨trivial, HQ.out.1⟩
                  · obtain ⟨i, hti, hin, f, bs, q, hq⟩ : ∃ i : Nat, x.to = (i : Int) ∧ i < n ∧ ∃ f bs q, S i = (f, bs) :: q := by
                      by_cases hf : x.to < 0 ∨ (n : Int) ≤ x.to
                      · exact absurd (.inl hf) he
                      · obtain ⟨i, hi⟩ := Int.eq_ofNat_of_zero_le (show 0 ≤ x.to by omega)
                        refine ⟨i, hi, by omega, ?_⟩
                        match hq : S i with
                        | [] => exact absurd (.inr ⟨by omega, by omega, by rw [hi]; exact hq⟩) he
                        | (f, bs) :: q => exact ⟨f, bs, q, rfl⟩
                    rw [hti] at a2
                    have C1 := HP0.out.rcv hin f bs q hq
                    have HE : Hid (S i = (f, bs) :: q ∧ x.to = (i : Int)) := ⟨hq, hti⟩
                    clear HP0 he a1' a3 hq hti
                    go_wp2_with fail
                    refine C1.mono ?_
                    rintro e y2 ⟨Z, rfl, hY2, hZ2, hZ3, hZ4, hZ5⟩
                    clear C1 a0 a2 al
                    obtain ⟨a0, _, a2, _, al⟩ := hY2.cells
                    rw [HE.out.2] at a2
                    have bO : Below y2.heap.size y2 (y2.alloc (.cells #[.int .i64 f, .slice (some ⟨Z, 0, none⟩) bs.length bs.length] 42)) := (Below.refl _ y2).alloc (Nat.le_refl _) _
                    have D2 := (hY2.below bO).rrcv hin f bs q HE.out.1
                    have HO : Hid ((y2.alloc (.cells #[.int .i64 f, .slice (some ⟨Z, 0, none⟩) bs.length bs.length] 42)).heap[y2.heap.size]? = some (.cells #[.int .i64 f, .slice (some ⟨Z, 0, none⟩) bs.length bs.length] 42 (0, 0)) ∧ (y2.alloc (.cells #[.int .i64 f, .slice (some ⟨Z, 0, none⟩) bs.length bs.length] 42)).heap[Z]? = some (.cells (bv bs) 5 (0, 0)) ∧ Bytes bs) := ⟨heap_alloc_at _ _, (bO.block Z (lt_of_heap hZ2)).trans hZ2, hZ5⟩
                    clear hY2 bO hZ2 hZ5
                    go_wp2_with fail
                    refine D2.mono ?_
                    rintro e y3 ⟨rfl, hY3, t3⟩
                    have hg := (t3.block _ (lt_of_heap HO.out.1) (PX.notR HO.out.1 (by decide))).trans HO.out.1
                    have hz := (t3.block _ (lt_of_heap HO.out.2.1) (PX.notR HO.out.2.1 (by decide))).trans HO.out.2.1
                    have d0 : y3.cell? ⟨y2.heap.size, 0, none⟩ = some (.int .i64 f) := by rw [cell_at hg]; rfl
                    have d1 : y3.cell? ⟨y2.heap.size, 1, none⟩ = some (.slice (some ⟨Z, 0, none⟩) bs.length bs.length) := by rw [cell_at hg]; rfl
                    have dl : y2.heap.size < y3.heap.size := lt_of_heap hg
                    have HF : Hid (∀ o, (∃ G S N, PX w (y3.alloc o) B2 l b C r g d n gc A x a1 G S G S N ∧ N Z) ∧ FL (y3.alloc o) Z bs.length ∧ (y3.alloc o).heap[y2.heap.size]? = some (.cells #[.int .i64 f, .slice (some ⟨Z, 0, none⟩) bs.length bs.length] 42 (0, 0))) := fun o => by
                      have bo : Below y3.heap.size y3 (y3.alloc o) := (Below.refl _ y3).alloc (Nat.le_refl _) o
                      exact ⟨⟨_, _, _, hY3.below bo, .inr rfl⟩, (FL.of_row hz).keep (bo.block Z (lt_of_heap hz)), (bo.block _ dl).trans hg⟩
                    have cv := fun o => conv_sl bs.length ((sl_row hz HO.out.2.2).below ((Below.refl _ y3).alloc (Nat.le_refl _) o))
                    clear D2 hY3 t3 hg hz HO HE a0 a2 al
                    generalize strOfNums bs = st at *
                    generalize bs.length = m at *
                    go_wp2_with fail
                    go_loopw [22] (fun u wr => ∃ j : Nat, j ≤ m ∧ u = .int .i64 j ∧ Hid ((∃ G S N, PX w wr B2 l b C r g d n gc A x a1 G S G S N ∧ N Z) ∧ FL wr Z m ∧ wr.heap[y2.heap.size]? = some (.cells #[.int .i64 f, .slice (some ⟨Z, 0, none⟩) m m] 42 (0, 0)))) (fun u _ => m - (intOf u).toNat)
                    case atStart => exact ⟨0, by omega, rfl, HF.out _⟩
                    case round =>
                      obtain ⟨j2, hj2, rfl, HQ⟩ := hrel
                      clear HF cv d0 d1 dl
                      have cx : wr.cell? ⟨y2.heap.size, 1, none⟩ = some (.slice (some ⟨Z, 0, none⟩) m m) := by rw [cell_at HQ.out.2.2]; rfl
                      have xl : y2.heap.size < wr.heap.size := lt_of_heap HQ.out.2.2
                      by_cases hjm : j2 < m
                      · have hjm' : (j2 : Int) < (m : Int) := by omega
                        obtain ⟨⟨z, cz⟩, fz, zl⟩ := HQ.out.2.1.at j2 hjm
                        have EN : Hid (∀ t z', (∃ G S N, PX w ((wr.drewN t).setCell ⟨Z, j2, none⟩ (.int .u8 z')) B2 l b C r g d n gc A x a1 G S G S N ∧ N Z) ∧ FL ((wr.drewN t).setCell ⟨Z, j2, none⟩ (.int .u8 z')) Z m ∧ ((wr.drewN t).setCell ⟨Z, j2, none⟩ (.int .u8 z')).heap[y2.heap.size]? = some (.cells #[.int .i64 f, .slice (some ⟨Z, 0, none⟩) m m] 42 (0, 0))) := fun t z' => by
                          obtain ⟨⟨G1, S1, N1, hP, hN⟩, hF, hG⟩ := HQ.out
                          have bt : Below wr.heap.size wr (wr.drewN t) := ⟨rfl, rfl, rfl, Nat.le_refl _, fun _ _ => rfl⟩
                          have hF' : FL (wr.drewN t) Z m := hF.keep rfl
                          obtain ⟨q1, q2⟩ := hF'.other hF' j2 hjm z'
                          refine ⟨⟨G1, S1, N1, (hP.below bt).lturn hF' hZ3 hN j2 hjm z', hN⟩, q1, (q2.block _ xl ?_).trans hG⟩
                          obtain ⟨cur, hc, _⟩ := hF
                          exact ne_typ hG hc (by decide)
                        clear HQ
                        go_wp2_with fail
                        go_region
                        all_goals
                          go_wp2_with fail
                          go_roundw
                          case rel => exact ⟨j2 + 1, by omega, by go_num, EN.out 1 _⟩
                          case measure => simp [intOf]; omega
                      · have hj9' : (m : Int) ≤ (j2 : Int) := by omega
                        have HE : Hid (∃ G S N, PX w wr B2 l b C r g d n gc A x a1 G S G S N) := by
                          obtain ⟨⟨G1, S1, N1, hP, _⟩, _⟩ := HQ.out
                          exact ⟨_, _, _, hP⟩
                        clear HQ
                        go_wp2_with fail
                        go_meet
                        case rel => exact ⟨trivial, HE⟩
                by_cases h3' : x.kd = 3
                · rw [h3'] at a0
                  have bD : Below y1.heap.size y1 y1.drew := (Below.refl _ _).drew
                  have e1 : y1.drew.cell? ⟨A, 1, none⟩ = some (.int .i64 x.fr) ∧ y1.drew.cell? ⟨A, 2, none⟩ = some (.int .i64 x.to) := ⟨a1', a2⟩
                  have C1 := (HP0.out.below bD).join x.to x.fr
                  obtain ⟨q, HQ⟩ : ∃ q, Hid (joinE n x.to = q) := ⟨_, rfl⟩
                  rw [HQ.out] at C1
                  clear HP0 bD a3
                  go_wp2_with fail
                  go_region_held2 (fun w' => w'.cell? ⟨A, 1, none⟩ = some (.int .i64 x.fr) ∧ w'.cell? ⟨A, 2, none⟩ = some (.int .i64 x.to)) (first | exact e1 | exact e2 | exact e3)
                    (first
                      | (go_at_call 16; refine C1.mono ?_; rintro e y2 ⟨rfl, hY2⟩; obtain ⟨_, q1, q2, _, _⟩ := hY2.cells; (have e2 : y2.cell? ⟨A, 1, none⟩ = some (.int .i64 x.fr) ∧ y2.cell? ⟨A, 2, none⟩ = some (.int .i64 x.to) := ⟨q1, q2⟩); (have D2 := hY2.rjoin x.to x.fr); rw [HQ.out] at D2)
                      | (go_at_call 17; refine D2.mono ?_; rintro e y3 ⟨rfl, hY3⟩; obtain ⟨_, r1, r2, _, _⟩ := hY3.cells; (have e3 : y3.cell? ⟨A, 1, none⟩ = some (.int .i64 x.fr) ∧ y3.cell? ⟨A, 2, none⟩ = some (.int .i64 x.to) := ⟨r1, r2⟩)))
                  have HF : Hid (∃ G S N, PX w y3 B2 l b C r g d n gc A x a1 G S G S N) := ⟨_, _, _, hY3⟩
                  clear C1 D2 e1 e2 e3 hY2 hY3 q1 q2 r1 r2 a0 a1' a2 al
                  go_wp2_with fail
                  go_meet
                  case rel => exact ⟨trivial, HF⟩
                have b0 : (x.kd == 0) = false := beq_false_of_ne h0
                have b1 : (x.kd == 1) = false := beq_false_of_ne h1'
                have b2 : (x.kd == 2) = false := beq_false_of_ne h2'
                have b3 : (x.kd == 3) = false := beq_false_of_ne h3'
                have HF : Hid (∃ G S N, PX w y1 B2 l b C r g d n gc A x a1 G S G S N) := ⟨_, _, _, HP0.out⟩
                clear HP0 a1' a2 a3
                go_wp2_with fail
                go_meet
                case rel => exact ⟨trivial, HF⟩
              case rest =>
               as_aux_lemma =>
                obtain ⟨_, HT⟩ := hcut
                clear HP0 HSL
                obtain ⟨y2, rfl⟩ : ∃ y2, y2 = wc := ⟨_, rfl⟩
                go_wp2_with fail
                go_loopw [23] (fun q wr => ∃ j : Nat, j ≤ x.len ∧ q = .int .i64 j ∧ Hid (∃ G S N, PX w wr B2 l b C r g d n gc A x a1 G S G S N)) (fun q _ => x.len - (intOf q).toNat)
                case atStart => exact ⟨0, by omega, rfl, HT⟩
                case round =>
                  obtain ⟨q, hq, rfl, HQ⟩ := hrel
                  clear HT
                  by_cases hqn : q < x.len
                  · have hq' : (q : Int) < (x.len : Int) := by omega
                    obtain ⟨G1, S1, N1, hP⟩ := HQ.out
                    rcases hP.fl with h0 | ⟨Y, rfl, hY1, hY2, hY3⟩
                    · omega
                    obtain ⟨⟨z, cz⟩, fz, xl⟩ := hY2.at q hqn
                    have EN : Hid (∀ z', ∃ G S N, PX w (wr.setCell ⟨Y, q, none⟩ (.int .u8 z')) B2 l b C r g d n gc A x (some ⟨Y, 0, none⟩) G S G S N) := fun z' => ⟨_, _, _, hP.lturn hY2 hY1 hY3 q hqn z'⟩
                    clear hP HQ hY2 hY3
                    go_wp2_with fail
                    go_roundw
                    case rel => exact ⟨q + 1, by omega, by go_num, EN.out _⟩
                    case measure => simp [intOf]; omega
                  · have hq9 : (x.len : Int) ≤ (q : Int) := by omega
                    obtain ⟨G1, S1, N1, hP⟩ := HQ.out
                    obtain ⟨a0, a1', a2, a3, al⟩ := hP.cells
                    have HF : Hid (∃ G S, PZ w wr B2 l b C r g d n gc G S) := ⟨_, _, hP.z⟩
                    by_cases hto : x.to < 0 ∨ (n : Int) ≤ x.to
                    · have HN : Hid (NoHas r x.to wr) := xhas_bad hP.rz hto
                      have HW : Hid (Off (.pointer (some ⟨l, 0, none⟩)) x.to 2 wr) := xoff hP.wx hto
                      clear hP HQ hto
                      go_wp2_with fail
                      refine Calls.mono HN.out ?_
                      rintro e wr ⟨rfl, rfl⟩
                      go_wp2_with fail
                      refine Calls.mono (waiting_off HW.out (by decide)) ?_
                      rintro e wr ⟨rfl, rfl⟩
                      go_wp2_with fail
                      go_roundw
                      case rel => exact ⟨k + 1, by omega, by go_num, HF⟩
                      case measure => simp [intOf]; omega
                    · obtain ⟨i, hi⟩ := Int.eq_ofNat_of_zero_le (show 0 ≤ x.to by omega)
                      rw [hi] at a2
                      have hin : i < n := by omega
                      have hin' : (i : Int) < (n : Int) := by omega
                      have HN : Hid (IsHas r i wr) := xhas_ok hP.rz hin
                      obtain ⟨e1, ⟨a', c', e2⟩, e3, e4⟩ := hP.waits hin
                      have WA := fun k => xwaiting (hP.wx.drewN k) hin
                      have HFk : Hid (∀ k, ∃ G S, PZ w (wr.drewN k) B2 l b C r g d n gc G S) := fun k => ⟨_, _, hP.z.below ⟨rfl, rfl, rfl, Nat.le_refl _, fun _ _ => rfl⟩⟩
                      generalize (S1 i).length = m1 at e2 WA
                      clear hP HQ hto hi
                      go_wp2_with fail
                      refine Calls.mono HN.out ?_
                      rintro e wr ⟨rfl, rfl⟩
                      go_wp2_with fail
                      go_quiet (fail)
                      go_wp2_with fail
                      refine Calls.mono (WA _) ?_
                      rintro e w9 ⟨rfl, rfl⟩
                      go_wp2_with fail
                      go_roundw
                      case rel => exact ⟨k + 1, by omega, by go_num, HFk.out _⟩
                      case measure => simp [intOf]; omega
        · have hk9 : (len : Int) ≤ (k : Int) := by omega
          have HB : Hid (Below w.heap.size w wr) := by
            obtain ⟨_, _, hZ⟩ := HZ.out
            exact hZ.bel
          clear HZ
          go_wp2_with fail
          go_ret
          exact ⟨rfl, HB.out⟩
end wirePlays
end Go.Proofs.Ytnjkbpjkaignbaa
