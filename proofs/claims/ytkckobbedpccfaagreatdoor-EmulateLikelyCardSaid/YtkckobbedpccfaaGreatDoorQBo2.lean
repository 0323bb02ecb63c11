/-
  What the law's both makes: two memories with the same bytes, two files with the same registers, two buses.
-/
import Derived.Test.YtkckobbedpccfaaGreatDoorQBo1
import Derived.Test.YtkckobbedpccfaaGreatDoorQHa
import Derived.Deep.DeepCutAuto
import Derived.Deep.RegionWith
namespace Go.Proofs.YtkckobbedpccfaaGreatDoor
open Go.RowKit
set_option linter.unusedVariables false
set_option maxRecDepth 100000

/-- what the law's bus is: a memory, no kind but 0 and 1, a second stage -/
def busV (c : Nat) (sec : Int) : Array Value := #[.pointer (some ⟨c, 0, none⟩), .int .i64 (if sec < 0 then 0 else 1), .int .i64 sec, .int .i64 0, .pointer none, .slice none 0 0, .bool false, .int .u64 0, .slice none 0 0]
theorem bus_any (c : Nat) (sec : Int) (w : World) : Calls Tryz.prog 36 #[.pointer (some ⟨c, 0, none⟩), .int .i64 sec] w fun e w' => e = .returned (.pointer (some ⟨w.heap.size, 0, none⟩)) ∧ w' = w.alloc (.cells (busV c sec) 132) := by
  unfold busV
  by_cases h : sec < 0
  · rw [if_pos h]
    go_enter Tryz.func36, Tryz.ntmps36
    go_wp2
    go_ret
    exact ⟨rfl, rfl⟩
  · rw [if_neg h]
    go_enter Tryz.func36, Tryz.ntmps36
    go_wp2
    go_ret
    exact ⟨rfl, rfl⟩

/-- what both makes -/
structure Made (W w : World) (b g c h F G B Q : Nat) (zs : List Int) (R : Nat → Int) (sec : Int) : Prop where
  mm : MM w b g zs
  rm : RM w c h zs
  ff : C.FF w F R
  gf : GF w G R
  fl : w.heap[B]? = some (.cells (flatV b sec false 0) 46 (0, 0))
  bu : w.heap[Q]? = some (.cells (busV c sec) 132 (0, 0))
  bl : Below W.heap.size W w
  o0 : W.heap.size ≤ b ∧ W.heap.size ≤ g
  o1 : b < c ∧ b < h ∧ g < c ∧ g < h
  o2 : c < F ∧ h < F
  o3 : F < G
  o4 : G < B ∧ G < Q ∧ B ≠ Q

theorem inf56 : (Tryz.prog.info? 35).map (fun i => (i.zero, i.size, i.bytes)) = some (some (.int .u32 0), 1, 4) := by kernel_rfl
theorem und28 : Tryz.prog.underlying 28 = some (.slice 35) := by kernel_rfl
theorem words_own {w : World} {base n : Nat} {v : Value} {ws : List Int} (h : w.ownsRow base 35 1 v n (ws.map (Value.int .u32))) (hn : 0 < n) (hr : ∀ i, 0 ≤ ws.getD i 0 ∧ ws.getD i 0 ≤ 4294967295) :
    ∃ g cap, v = .slice (some ⟨g, 0, none⟩) n cap ∧ n ≤ cap ∧ cap ≤ 9223372036854775807 ∧ base ≤ g ∧ WordsIn w (some ⟨g, 0, none⟩) n ws := by
  have hl : ws.length = n := by have := h.1; simpa using this
  obtain ⟨_, h2⟩ := id h
  rcases h2 with ⟨rfl, rfl⟩ | ⟨g, cap, cur, rfl, hg, hh, h3, h4, _⟩
  · omega
  refine ⟨g, cap, rfl, h3, by unfold maxLen at h4; omega, hg, hl, .inr ⟨g, 0, rfl, lt_of_heap hh, fun i hi => ?_⟩, hr⟩
  have := h.cellAt i (by omega)
  rw [Nat.zero_add, this]
  simp [List.getD, List.getElem?_eq_getElem (show i < ws.length by omega)]
theorem enc_range (x : I5) : 0 ≤ x.enc ∧ x.enc ≤ 4294967295 := by
  unfold I5.enc I.encW
  split
  · rename_i h; exact I.word_range h
  · omega
theorem words_next {w : World} {a : Option Addr} {n : Nat} {ws : List Int} (h : WordsIn w a n ws) (x : Int) (hx : 0 ≤ x ∧ x ≤ 4294967295) (i : Nat) : 0 ≤ (ws ++ [x]).getD i 0 ∧ (ws ++ [x]).getD i 0 ≤ 4294967295 := by
  have := h.2.2 i
  simp only [List.getD, List.getElem?_append] at *
  split
  · exact this
  · cases e : i - ws.length with
    | zero => simpa using hx
    | succ k => simp

theorem WordsIn.kept {w w' : World} {a : Option Addr} {n m : Nat} {ws : List Int} (h : WordsIn w a n ws) (hg : w.grownBy w' (some m)) (ho : 0 < n → ∀ x, a = some x → x.block ≠ m) : WordsIn w' a n ws := by
  obtain ⟨h1, h2, h3⟩ := h
  refine ⟨h1, ?_, h3⟩
  rcases h2 with h2 | ⟨B, off, rfl, hB, hc⟩
  · exact .inl h2
  · by_cases hn : 0 < n
    · refine .inr ⟨B, off, rfl, Nat.lt_of_lt_of_le hB hg.size, fun i hi => ?_⟩
      have := ho hn _ rfl
      rw [World.cell?_of_block (hg.block B hB (by intro e; cases e; exact this rfl))]
      exact hc i hi
    · exact .inl (by omega)
/-- the registers, the first ones set -/
def partR (R : Nat → Int) (k : Nat) : Nat → Int := fun m => if m < k then R m else 0
theorem GF.congr {w : World} {G : Nat} {R R' : Nat → Int} (h : GF w G R) (e : ∀ n, n < 12 → R n = R' n) : GF w G R' := by
  obtain ⟨cs, h, h1, h3⟩ := h
  exact ⟨cs, h, h1, fun n hn => by rw [h3 n hn, e n hn]⟩
theorem part_next (R : Nat → Int) (k n : Nat) : C.upd (partR R k) k (R k) n = partR R (k + 1) n := by
  unfold C.upd partR
  by_cases e : n = k
  · subst e; simp
  · rw [if_neg e]
    by_cases h : n < k
    · rw [if_pos h, if_pos (by omega)]
    · rw [if_neg h, if_neg (by omega)]
theorem BW.files {W w : World} {A b g c h F G : Nat} {cs : Array Value} {zs : List Int} {Rf Rg Rf' Rg' : Nat → Int} (H : BW W w A b g c h F G cs zs Rf Rg) (e1 : ∀ n, n < 12 → Rf n = Rf' n) (e2 : ∀ n, n < 12 → Rg n = Rg' n) : BW W w A b g c h F G cs zs Rf' Rg' :=
  ⟨H.a, H.mm, H.rm, H.ff.congr e1, H.gf.congr e2, H.bl, H.lA, H.oA, H.o1, H.o2, H.o3⟩

theorem BW.made1 {W w : World} {A b g c h F G : Nat} {cs : Array Value} {zs : List Int} {R : Nat → Int} (H : BW W w A b g c h F G cs zs R R) (sec : Int) :
    Made W ((w.alloc (.cells (flatV b sec false 0) 46)).alloc (.cells (busV c sec) 132)).drew b g c h F G w.heap.size (w.heap.size + 1) zs R sec := by
  have hb : Below w.heap.size w ((w.alloc (.cells (flatV b sec false 0) 46)).alloc (.cells (busV c sec) 132)).drew := (((Below.refl _ _).alloc (Nat.le_refl _) _).alloc (by simp) _).drew
  have H' := H.below hb
  have g1 := H.gf.lt
  have lA := H.lA
  have oA := H.oA
  have hs : (w.alloc (.cells (flatV b sec false 0) 46)).heap.size = w.heap.size + 1 := by simp
  refine ⟨H'.mm, H'.rm, H'.ff, H'.gf, ?_, ?_, H'.bl, by omega, H.o1, H.o2, H.o3, by omega⟩
  · show ((w.alloc (.cells (flatV b sec false 0) 46)).alloc (.cells (busV c sec) 132)).heap[w.heap.size]? = _
    rw [C.heap_alloc_past _ _ (by rw [hs]; omega)]
    exact C.heap_alloc_at w _
  · have := C.heap_alloc_at (w.alloc (.cells (flatV b sec false 0) 46)) (.cells (busV c sec) 132)
    rwa [hs] at this
theorem BW.made2 {W w : World} {A b g c h F G : Nat} {cs : Array Value} {zs : List Int} {R : Nat → Int} (H : BW W w A b g c h F G cs zs R R) (sec : Int) :
    Made W ((w.alloc (.cells (busV c sec) 132)).alloc (.cells (flatV b sec false 0) 46)).drew b g c h F G (w.heap.size + 1) w.heap.size zs R sec := by
  have hb : Below w.heap.size w ((w.alloc (.cells (busV c sec) 132)).alloc (.cells (flatV b sec false 0) 46)).drew := (((Below.refl _ _).alloc (Nat.le_refl _) _).alloc (by simp) _).drew
  have H' := H.below hb
  have g1 := H.gf.lt
  have lA := H.lA
  have oA := H.oA
  have hs : (w.alloc (.cells (busV c sec) 132)).heap.size = w.heap.size + 1 := by simp
  refine ⟨H'.mm, H'.rm, H'.ff, H'.gf, ?_, ?_, H'.bl, by omega, H.o1, H.o2, H.o3, by omega⟩
  · have := C.heap_alloc_at (w.alloc (.cells (busV c sec) 132)) (.cells (flatV b sec false 0) 46)
    rwa [hs] at this
  · show ((w.alloc (.cells (busV c sec) 132)).alloc (.cells (flatV b sec false 0) 46)).heap[w.heap.size]? = _
    rw [C.heap_alloc_past _ _ (by rw [hs]; omega)]
    exact C.heap_alloc_at w _

set_option maxHeartbeats 8000000 in
theorem both_any (cs : Array Value) (R : Nat → Int) (pc sec : Int) (ia wa pa : Option Addr) (iN iC wN wC pN pC : Nat) (xs : List I5) (ws : List Int) (ps : List (Int × Int)) (W : World)
    (k16 : cs[16]? = some (.int .u64 pc)) (k30 : cs[30]? = some (.slice ia iN iC)) (k31 : cs[31]? = some (.slice wa wN wC)) (k32 : cs[32]? = some (.slice pa pN pC)) (k33 : cs[33]? = some (.int .i64 sec)) (kR : ∀ n, n < 12 → cs[18 + n]? = some (.int .u64 (R n)))
    (hz : SZ W) (hpc : C.U pc) (hR : ∀ n, n < 12 → C.U (R n)) (hcs : cs.size = 34)
    (hi : InsnsIn W ia iN xs) (hiC : iN ≤ iC) (hiM : iC ≤ 9223372036854775807) (hw : WordsIn W wa wN ws) (hwC : wN ≤ wC) (hwM : wC ≤ 9223372036854775807) (hwn : wa = none → wN = 0 ∧ wC = 0) (hp : PokesIn W pa pN ps) (hpC : pN ≤ pC) (hpM : pC ≤ 9223372036854775807)
    (hsz : (wN + iN) * 4 ≤ 140737488355328) :
    Calls Tryz.prog 16 #[.agg cs] W fun e W' => ∃ b g c h F G B Q, e = .returned (.tuple #[.pointer (some ⟨F, 0, none⟩), .pointer (some ⟨G, 0, none⟩), .pointer (some ⟨B, 0, none⟩), .pointer (some ⟨Q, 0, none⟩), .bool true]) ∧
      Made W W' b g c h F G B Q (memW pc (ws ++ xs.map I5.enc) (memP ps (List.replicate 3072 0) pN) (wN + iN)) R sec := by
  have HZ : Hid (SZ W) := hz
  clear hz
  go_enter Tryz.func16, Tryz.ntmps16
  go_wp2_with fail
  refine (new_yes 12 _ (by decide) (by decide)).mono ?_
  rintro e x1 ⟨b, g, rfl, m1, lb, lg, c1⟩
  go_wp2_with fail
  refine (rnew_yes 12 _ (by decide) (by decide)).mono ?_
  rintro e x2 ⟨c, h, rfl, r2, lc, lh, c2⟩
  go_wp2_with fail
  refine (C.new_ff 0 (by decide) (by decide) _).mono ?_
  rintro e x3 ⟨F, rfl, lF, f3, c3⟩
  go_wp2_with fail
  refine (gnew_gf _).mono ?_
  rintro e x4 ⟨G, rfl, lG, g4, c4⟩
  have HB : Hid (BW W x4 W.heap.size b g c h F G cs (List.replicate 3072 0) (C.newP 0) (fun _ => 0)) := by
    have ha := C.heap_alloc_at W (.cells cs 31)
    have e0 : (W.alloc (.cells cs 31)).heap.size = W.heap.size + 1 := by simp
    have s1 := c1.size
    have s2 := c2.size
    have s3 := c3.size
    have q1 := m1.blt
    have q2 := m1.glt
    have q3 := r2.blt
    have q4 := r2.glt
    have q5 := f3.lt
    refine ⟨?_, (((m1.below c2).below c3).below c4), ((r2.below c3).below c4), f3.below c4, g4, ?_, Nat.le_refl _, by omega, by omega, by omega, by omega⟩
    · rw [c4.block _ (by omega), c3.block _ (by omega), c2.block _ (by omega), c1.block _ (by omega)]
      exact ha
    · exact ((((Below.refl _ _).alloc (Nat.le_refl _) _).trans (c1.mono (by omega))).trans (c2.mono (by omega))).trans ((c3.mono (by omega)).trans (c4.mono (by omega)))
  clear m1 lb lg c1 r2 lc lh c2 lF f3 c3 lG g4 c4
  go_wp2_with fail
  go_loopw [13] (fun i wr => ∃ (k : Nat), k ≤ pN ∧ i = .int .i64 k ∧ BW W wr W.heap.size b g c h F G cs (memP ps (List.replicate 3072 0) k) (C.newP 0) (fun _ => 0)) (fun i _ => pN - (intOf i).toNat)
  case atStart => exact ⟨0, by omega, rfl, HB.out⟩
  case round =>
    obtain ⟨k, hk, rfl, hb⟩ := hrel
    clear HB
    have a32 : wr.cell? ⟨W.heap.size, 32, none⟩ = some (.slice pa pN pC) := by rw [C.cell_at hb.a]; exact k32
    have a31 : wr.cell? ⟨W.heap.size, 31, none⟩ = some (.slice wa wN wC) := by rw [C.cell_at hb.a]; exact k31
    have hA := lt_of_heap hb.a
    by_cases hlt : k < pN
    · obtain ⟨hl, hs, hu⟩ := hp
      rcases hs with h0 | ⟨B, off, rfl, hB, hsl⟩
      · omega
      obtain ⟨q0, q1⟩ := hsl k hlt
      have u := hu k
      have nx := memP_next ps (List.replicate 3072 0) k
      have p0 := ((bcell hb.bl).1 B _ hB).trans q0
      have p1 := ((bcell hb.bl).1 B _ hB).trans q1
      have hBr := Nat.lt_of_lt_of_le hB hb.bl.size
      generalize (ps.getD k (0, 0)).1 = pat at *
      generalize (ps.getD k (0, 0)).2 = pv at *
      obtain ⟨⟨u0, u1⟩, u2, u3⟩ := u
      have MS := fun w' (hm' : MM w' b g (memP ps (List.replicate 3072 0) k)) (hz' : SZ w') => mstore_mm b g (memP ps (List.replicate 3072 0) k) (pat % 3072 / 8 * 8) 8 pv w' hz' hm' (by omega) (by omega) (by decide) u2 u3
      have RS := fun w' (hm' : RM w' c h (memP ps (List.replicate 3072 0) k)) => rmstore_any c h (memP ps (List.replicate 3072 0) k) (pat % 3072 / 8 * 8) 8 pv w' hm' (by omega) (by omega) (by decide) u2 u3
      have w1 : IntKind.u64.wrap (pat % 3072 / 8 * 8) = pat % 3072 / 8 * 8 := wraps_u64 _ (by omega) (by omega)
      have i1 : (0 : Int) ≤ (k : Int) ∧ (k : Int) < (pN : Int) := by omega
      have HB : Hid (_) := hb
      have HN : Hid (_) := nx
      have HU : Hid (∀ i, C.U (ps.getD i (0, 0)).1 ∧ C.U (ps.getD i (0, 0)).2) := hu
      clear hb nx hsl hu hl q0 q1
      go_wp2_with fail
      refine (MS _ HB.out.mm (HZ.out.below HB.out.bl)).mono ?_
      rintro e y1 ⟨rfl, m1, g1⟩
      have a32' : y1.cell? ⟨W.heap.size, 32, none⟩ = some (.slice (some ⟨B, off, none⟩) pN pC) := by
        have o := HB.out.oA
        rw [World.cell?_of_block (g1.block W.heap.size (lt_of_heap HB.out.a) (by simp; omega))]; exact a32
      have p1' : y1.cell? ⟨B, off + k * 2 + 1, none⟩ = some (.int .u64 pv) := by
        have o := HB.out.oA
        rw [World.cell?_of_block (g1.block B hBr (by simp; omega))]; exact p1
      have r1 : RM y1 c h (memP ps (List.replicate 3072 0) k) := HB.out.rm.kept g1 (by have := HB.out.o1; simp; omega) (by have := HB.out.o1; simp; omega)
      have hA1 := Nat.lt_of_lt_of_le hA g1.size
      have hB1 := Nat.lt_of_lt_of_le hBr g1.size
      have R1 : Hid (_) := r1
      have M1 : Hid (_) := m1
      have G1 : Hid (_) := g1
      clear r1 m1 g1 MS a32 a31 p0 p1
      go_wp2_with fail
      refine (RS _ R1.out).mono ?_
      rintro e y2 ⟨rfl, r2, g2⟩
      have hb2 := HB.out.stored M1.out G1.out r2 g2
      rw [← HN.out] at hb2
      clear RS r2 g2
      go_wp2_with fail
      go_roundw
      case rel => exact ⟨k + 1, by omega, by go_num, hb2⟩
      case measure => simp [intOf]; omega
    · obtain rfl : pN = k := by omega
      obtain ⟨i0, hf, hz0, hz1, hz2⟩ := info_parts inf56
      have HB : Hid (_) := hb
      clear hb
      go_wp2_with fail
      clear a32
      go_loopw [15, 16] (fun v i wr => ∃ (k : Nat) (a : Option Addr) (cp : Nat), k ≤ iN ∧ i = .int .i64 k ∧ v = .slice a (wN + k) cp ∧ wN + k ≤ cp ∧ (a = none → wN + k = 0 ∧ cp = 0) ∧ cp ≤ 9223372036854775807 ∧ (0 < wN + k → ∀ x, a = some x → x.block < W.heap.size ∨ G < x.block) ∧ WordsIn wr a (wN + k) (ws ++ (xs.map I5.enc).take k) ∧ BW W wr W.heap.size b g c h F G cs (memP ps (List.replicate 3072 0) pN) (C.newP 0) (fun _ => 0)) (fun _ i _ => iN - (intOf i).toNat)
      case atStart => exact ⟨0, wa, wC, by omega, rfl, rfl, hwC, hwn, hwM, (fun h x e => by rcases hw.2.1 with h0 | ⟨B, off, e', hB, _⟩; (· omega); (· rw [e'] at e; cases e; exact .inl hB)), by simpa using hw.below rfl HB.out.bl, HB.out⟩
      case round =>
        obtain ⟨k, a, cp, hk, rfl, rfl, hcp, han, hcm, hwo, hwr, hb⟩ := hrel
        clear HB
        have a30 : wr.cell? ⟨W.heap.size, 30, none⟩ = some (.slice ia iN iC) := by rw [C.cell_at hb.a]; exact k30
        have hA := lt_of_heap hb.a
        by_cases hlt : k < iN
        · obtain ⟨hl, hs⟩ := hi
          rcases hs with h0 | ⟨B, off, rfl, hB, hsl⟩
          · omega
          obtain ⟨q0, q1, q2, q3, q4⟩ := hsl k hlt
          have p0 := ((bcell hb.bl).1 B _ hB).trans q0
          have p1 := ((bcell hb.bl).1 B _ hB).trans q1
          have p2 := ((bcell hb.bl).1 B _ hB).trans q2
          have p3 := ((bcell hb.bl).1 B _ hB).trans q3
          have p4 := ((bcell hb.bl).1 B _ hB).trans q4
          have hBr := Nat.lt_of_lt_of_le hB hb.bl.size
          have EN := I.rencode_any (xs.getD k .zero).op (xs.getD k .zero).rd (xs.getD k .zero).rs1 (xs.getD k .zero).rs2 (xs.getD k .zero).imm
          have er := enc_range (xs.getD k .zero)
          have nx : (xs.map I5.enc).take (k + 1) = (xs.map I5.enc).take k ++ [(xs.getD k .zero).enc] := by
            rw [List.take_add_one]
            simp [List.getD, List.getElem?_eq_getElem (show k < xs.length by omega)]
          have hen : I.encW (xs.getD k .zero).op (xs.getD k .zero).rd (xs.getD k .zero).rs1 (xs.getD k .zero).rs2 (xs.getD k .zero).imm = (xs.getD k .zero).enc := rfl
          rw [hen] at EN
          generalize (xs.getD k .zero).enc = en at *
          generalize I.encE (xs.getD k .zero).op (xs.getD k .zero).rd (xs.getD k .zero).rs1 (xs.getD k .zero).rs2 (xs.getD k .zero).imm = ee at *
          generalize (xs.getD k .zero).op = j0 at *
          generalize (xs.getD k .zero).rd = j1 at *
          generalize (xs.getD k .zero).rs1 = j2 at *
          generalize (xs.getD k .zero).rs2 = j3 at *
          generalize (xs.getD k .zero).imm = j4 at *
          unfold I.ins at EN
          have i1 : (0 : Int) ≤ (k : Int) ∧ (k : Int) < (iN : Int) := by omega
          have HB : Hid (_) := hb
          have HN : Hid (_) := nx
          have HW0 : Hid (WordsIn wr a (wN + k) (ws ++ (xs.map I5.enc).take k)) := hwr
          have hkk : ((wN + k : Nat) : Int) ≤ (cp : Int) := by omega
          clear hb nx hsl q0 q1 q2 q3 q4 hwr hl hen
          go_wp2_with fail
          refine (EN _).mono ?_
          rintro e y1 ⟨rfl, hb1⟩
          have B1 : Hid (_) := HB.out.below hb1
          have W1 : Hid (WordsIn y1 a (wN + k) (ws ++ (xs.map I5.enc).take k)) := WordsIn.below HW0.out rfl hb1
          clear hb1 HB HW0 EN p0 p1 p2 p3 p4 a30 a31
          have hlen : (ws ++ (xs.map I5.enc).take k).length = wN + k := W1.out.1
          have hcells : ∀ b, a = some b → ∀ j u, ((ws ++ (xs.map I5.enc).take k).map (Value.int .u32))[j]? = some u → (y1.alloc (.cells #[.int .u32 en] 35)).cell? (b.add j) = some u := by
            intro b eb j u hu
            have hj : j < wN + k := by
              have := (List.getElem?_eq_some_iff.1 hu).1
              simp only [List.length_map, hlen] at this
              exact this
            rcases W1.out.2.1 with h0 | ⟨B', off', rfl, hB', hc'⟩
            · omega
            · cases eb
              have hc := hc' j hj
              have : (y1.alloc (.cells #[.int .u32 en] 35)).cell? ⟨B', off' + j, none⟩ = y1.cell? ⟨B', off' + j, none⟩ := World.cell?_of_block (C.heap_alloc_past y1 _ hB')
              have e2 : (⟨B', off', none⟩ : Addr).add j = ⟨B', off' + j, none⟩ := by simp [Addr.add_lit]
              rw [e2, this, hc]
              rw [List.getElem?_map] at hu
              simp only [List.getD]
              cases h : (ws ++ (xs.map I5.enc).take k)[j]? with
              | none => rw [h] at hu; cases hu
              | some z => rw [h] at hu; simpa using hu
          go_wp2_with (at_builtin; refine wpList_append_grows _ rfl _ _ 28 rfl 35 i0 (.int .u32 0) 1 4 und28 hf hz0 hz1 hz2 rfl (by decide) a (wN + k) (wN + k) ((ws ++ (xs.map I5.enc).take k).map (Value.int .u32)) rfl (fun e => ⟨(han e).1, (han e).1⟩) (by simp only [List.length_map, hlen]; omega) hcells ⟨y1.heap.size, 0, none⟩ 1 1 [.int .u32 en] rfl rfl (one_new _ _ _) (by intro u hu; simp at hu; subst hu; rfl) (by omega) (by unfold maxLen; omega) (by omega) ?_; intro v1 w1 hown1 hgrow1)
          have hw1 : w1.ownsRow (y1.alloc (.cells #[.int .u32 en] 35)).heap.size 35 1 v1 (wN + k + 1) ((ws ++ (xs.map I5.enc).take (k + 1)).map (Value.int .u32)) := by rw [HN.out, ← List.append_assoc, List.map_append]; exact hown1
          obtain ⟨gg, cap, rfl, h3, h4, h5, hwi⟩ := words_own hw1 (by omega) (by intro i; rw [HN.out, ← List.append_assoc]; exact words_next W1.out en er i)
          have hb2 : Below y1.heap.size y1 w1 := ((Below.refl _ _).alloc (Nat.le_refl _) _).grown hgrow1 (by simp) (by intro j hj; cases hj)
          have B2 : Hid (_) := B1.out.below hb2
          have B1G := B1.out.gf.lt
          clear hown1 hw1 hgrow1 hb2 hcells W1 B1
          go_roundw
          case rel => exact ⟨k + 1, some ⟨gg, 0, none⟩, cap, by omega, by go_num, rfl, h3, (fun e => by cases e), h4, (fun _ x e => by cases e; have := B1G; simp at h5; right; show G < gg; omega), hwi, B2.out⟩
          case measure => simp [intOf]; omega
        · obtain rfl : iN = k := by omega
          have hall : (xs.map I5.enc).take iN = xs.map I5.enc := List.take_of_length_le (by have := hi.1; simp; omega)
          rw [hall] at hwr
          have HB : Hid (_) := hb
          have HW0 : Hid (WordsIn wr a (wN + iN) (ws ++ xs.map I5.enc)) := hwr
          clear hb hwr
          go_wp2_with fail
          clear a30
          generalize hws : ws ++ xs.map I5.enc = vs at *
          generalize hn : wN + iN = n at *
          generalize hz0 : memP ps (List.replicate 3072 0) pN = z0 at *
          go_loopw [19] (fun i wr => ∃ (k : Nat), k ≤ n ∧ i = .int .i64 k ∧ WordsIn wr a n vs ∧ BW W wr W.heap.size b g c h F G cs (memW pc vs z0 k) (C.newP 0) (fun _ => 0)) (fun i _ => n - (intOf i).toNat)
          case atStart => exact ⟨0, by omega, rfl, HW0.out, HB.out⟩
          case round =>
            obtain ⟨k, hk, rfl, hwr, hb⟩ := hrel
            clear HB HW0
            have a16 : wr.cell? ⟨W.heap.size, 16, none⟩ = some (.int .u64 pc) := by rw [C.cell_at hb.a]; exact k16
            have hA' := lt_of_heap hb.a
            obtain ⟨pc0, pc1⟩ := id hpc
            by_cases hlt : k < n
            · obtain ⟨hl, hs, hu⟩ := id hwr
              rcases hs with h0 | ⟨B, off, rfl, hB, hsl⟩
              · omega
              have q0 := hsl k hlt
              have u := hu k
              have nx := memW_next pc vs z0 k
              generalize vs.getD k 0 = pv at *
              obtain ⟨u2, u3⟩ := u
              have hB2 := hwo (by omega) _ rfl
              simp only at hB2
              have MS := fun w' (hm' : MM w' b g (memW pc vs z0 k)) (hz' : SZ w') => mstore_mm b g (memW pc vs z0 k) (pc % 3072 / 4 * 4 + 4 * (k : Int)) 4 pv w' hz' hm' (by omega) (by omega) (by decide) u2 (by omega)
              have RS := fun w' (hm' : RM w' c h (memW pc vs z0 k)) => rmstore_any c h (memW pc vs z0 k) (pc % 3072 / 4 * 4 + 4 * (k : Int)) 4 pv w' hm' (by omega) (by omega) (by decide) u2 (by omega)
              have w1 : IntKind.u64.wrap (pc % 3072 / 4 * 4) = pc % 3072 / 4 * 4 := wraps_u64 _ (by omega) (by omega)
              have w2 : IntKind.u64.wrap (k : Int) = k := wraps_u64 _ (by omega) (by omega)
              have w3 : IntKind.u64.wrap (4 * (k : Int)) = 4 * (k : Int) := wraps_u64 _ (by omega) (by omega)
              have w4 : IntKind.u64.wrap (pc % 3072 / 4 * 4 + 4 * (k : Int)) = pc % 3072 / 4 * 4 + 4 * (k : Int) := wraps_u64 _ (by omega) (by omega)
              have w5 : IntKind.u64.wrap pv = pv := wraps_u64 _ (by omega) (by omega)
              have i1 : (0 : Int) ≤ (k : Int) ∧ (k : Int) < (n : Int) := by omega
              have HB : Hid (_) := hb
              have HN : Hid (_) := nx
              have HW0 : Hid (WordsIn wr (some ⟨B, off, none⟩) n vs) := hwr
              clear hb nx hsl hu hl hwr
              go_wp2_with fail
              refine (MS _ HB.out.mm (HZ.out.below HB.out.bl)).mono ?_
              rintro e y1 ⟨rfl, m1, g1⟩
              have hBg : B ≠ g ∧ B ≠ h := by have o1 := HB.out.o1; have o2 := HB.out.o2; have o3 := HB.out.o3; have oA := HB.out.oA; omega
              have q1 : y1.cell? ⟨B, off + k, none⟩ = some (.int .u32 pv) := by
                rw [World.cell?_of_block (g1.block B hB (by simp; exact hBg.1))]; exact q0
              have r1 : RM y1 c h (memW pc vs z0 k) := HB.out.rm.kept g1 (by have := HB.out.o1; simp; omega) (by have := HB.out.o1; simp; omega)
              have hB1 := Nat.lt_of_lt_of_le hB g1.size
              have R1 : Hid (_) := r1
              have M1 : Hid (_) := m1
              have G1 : Hid (_) := g1
              have HW1 : Hid (WordsIn y1 (some ⟨B, off, none⟩) n vs) := WordsIn.kept HW0.out g1 (fun _ x e => by cases e; exact hBg.1)
              clear r1 m1 g1 MS a16 q0 HW0
              go_wp2_with fail
              refine (RS _ R1.out).mono ?_
              rintro e y2 ⟨rfl, r2, g2⟩
              have hb2 := HB.out.stored M1.out G1.out r2 g2
              rw [← HN.out] at hb2
              have HW2 : Hid (WordsIn y2 (some ⟨B, off, none⟩) n vs) := WordsIn.kept HW1.out g2 (fun _ x e => by cases e; exact hBg.2)
              clear RS r2 g2 HW1
              go_wp2_with fail
              go_roundw
              case rel => exact ⟨k + 1, by omega, by go_num, HW2.out, hb2⟩
              case measure => simp [intOf]; omega
            · obtain rfl : n = k := by omega
              have HB : Hid (BW W wr W.heap.size b g c h F G cs (memW pc vs z0 n) (partR R 0) (partR R 0)) := hb.files (fun n hn => by simp [C.newP, partR]) (fun n hn => by simp [partR])
              clear hb hwr
              go_wp2_with fail
              clear a16
              generalize hzz : memW pc vs z0 n = zz at *
              go_loopw [21] (fun i wr => ∃ (k : Nat), k ≤ 12 ∧ i = .int .i64 k ∧ BW W wr W.heap.size b g c h F G cs zz (partR R k) (partR R k)) (fun i _ => 12 - (intOf i).toNat)
              case atStart => exact ⟨0, by omega, rfl, HB.out⟩
              case round =>
                obtain ⟨k, hk, rfl, hb⟩ := hrel
                clear HB
                have hA2 := lt_of_heap hb.a
                by_cases hlt : k < 12
                · have a18 : wr.cell? ⟨W.heap.size, 18 + k, none⟩ = some (.int .u64 (R k)) := by rw [C.cell_at hb.a]; exact kR k hlt
                  have u := hR k hlt
                  have FS := C.set_ff F (partR R k) k hlt (R k) u wr hb.ff
                  have i1 : (0 : Int) ≤ (k : Int) ∧ (k : Int) < 12 := by omega
                  have HB : Hid (_) := hb
                  clear hb
                  go_wp2_with fail
                  refine FS.mono ?_
                  rintro e y1 ⟨rfl, f1, g1⟩
                  have a18' : y1.cell? ⟨W.heap.size, 18 + k, none⟩ = some (.int .u64 (R k)) := by
                    have o1 := HB.out.o1
                    have o2 := HB.out.o2
                    have oA := HB.out.oA
                    rw [World.cell?_of_block (g1.block W.heap.size hA2 (by simp; omega))]; exact a18
                  have gf1 : GF y1 G (partR R k) := HB.out.gf.keep (g1.block G HB.out.gf.lt (by have := HB.out.o3; simp; omega))
                  have GS := gset_gf G (partR R k) k hlt (R k) y1 gf1
                  have hA3 := Nat.lt_of_lt_of_le hA2 g1.size
                  have F1 : Hid (_) := f1
                  have G1 : Hid (_) := g1
                  clear f1 g1 FS a18 gf1
                  go_wp2_with fail
                  refine GS.mono ?_
                  rintro e y2 ⟨rfl, f2, g2⟩
                  have hb2 := (HB.out.filed F1.out G1.out f2 g2).files (fun n _ => part_next R k n) (fun n _ => part_next R k n)
                  clear GS f2 g2
                  go_wp2_with fail
                  go_roundw
                  case rel => exact ⟨k + 1, by omega, by go_num, hb2⟩
                  case measure => simp [intOf]; omega
                · obtain rfl : 12 = k := by omega
                  have HB : Hid (BW W wr W.heap.size b g c h F G cs zz R R) := hb.files (fun n hn => by simp [partR, hn]) (fun n hn => by simp [partR, hn])
                  have a33 : wr.cell? ⟨W.heap.size, 33, none⟩ = some (.int .i64 sec) := by rw [C.cell_at hb.a]; exact k33
                  have BV := bus_any c sec
                  clear hb
                  go_wp2_with fail
                  go_region_with ((refine (BV _).mono ?_; rintro e x1 ⟨rfl, hx1⟩; subst hx1))
                  all_goals go_wp2_with fail
                  all_goals subst hzz hz0 hn hws
                  all_goals first
                    | exact bodyPost_ret (v := .tuple #[.pointer (some ⟨F, 0, none⟩), .pointer (some ⟨G, 0, none⟩), .pointer (some ⟨wr.heap.size, 0, none⟩), .pointer (some ⟨wr.heap.size + 1, 0, none⟩), .bool true]) (by simp [results, Tryz.results16, go_sem]) rfl ⟨b, g, c, h, F, G, wr.heap.size, wr.heap.size + 1, rfl, HB.out.made1 sec⟩
                    | exact bodyPost_ret (v := .tuple #[.pointer (some ⟨F, 0, none⟩), .pointer (some ⟨G, 0, none⟩), .pointer (some ⟨wr.heap.size + 1, 0, none⟩), .pointer (some ⟨wr.heap.size, 0, none⟩), .bool true]) (by simp [results, Tryz.results16, go_sem]) rfl ⟨b, g, c, h, F, G, wr.heap.size + 1, wr.heap.size, rfl, HB.out.made2 sec⟩
end Go.Proofs.YtkckobbedpccfaaGreatDoor
