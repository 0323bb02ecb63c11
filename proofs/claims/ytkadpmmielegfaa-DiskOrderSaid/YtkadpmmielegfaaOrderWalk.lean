/-
  Requests are done in whatever order they are picked, each once: the walk of DiskOrder.
-/
import Derived.Test.YtkadpmmielegfaaOw
namespace Go.Proofs.Ytkadpmmielegfaa
open Go.RowKit Go.Maps
set_option linter.unusedVariables false
set_option maxRecDepth 20000

/-- between the rounds of the first loop: j requests are asked -/
structure O1 (N0 : Nat) (w wr : World) (D m b g j : Nat) : Prop where
  dk : ∃ v, DK N0 wr D m 4 v (reqs j) (List.replicate (4 * 256) 0)
  mm : MM wr b g (fill j)
  bel : Below w.heap.size w wr
/-- between the rounds of the second loop: what is left, what is done -/
structure O2 (N0 : Nat) (w wr : World) (D m b g L Q j : Nat) (F : Nat → Int) (ps : List Rq) (zs : List Int) : Prop where
  dk : ∃ v, DK N0 wr D m 4 v ps zs
  mm : MM wr b g (fill 8)
  bel : Below w.heap.size w wr
  last : AR wr L 75 4 (fun n => .int .u8 (F n))
  done : ∃ G : Nat → Bool, AR wr Q 76 8 (fun n => .bool (G n)) ∧ ∀ r ∈ ps, ∃ i, i < 8 ∧ r = rq i ∧ G i = false
  len : ps.length = 8 - j
  head : ∀ n, n < 4 → zs.getD (n * 256) 0 = F n

theorem O2.below {N0 : Nat} {w wr w' : World} {D m b g L Q j : Nat} {F : Nat → Int} {ps : List Rq} {zs : List Int} (E : O2 N0 w wr D m b g L Q j F ps zs) (hb : Below wr.heap.size wr w') : O2 N0 w w' D m b g L Q j F ps zs := by
  obtain ⟨⟨v, h⟩, hm, bel, hL, ⟨G, hQ, hps⟩, hlen, hhead⟩ := E
  exact ⟨⟨v, h.below hb⟩, hm.below hb, bel.trans (hb.mono bel.size), hL.kept (hb.block L hL.lt), ⟨G, hQ.kept (hb.block Q hQ.lt), hps⟩, hlen, hhead⟩
/-- what Complete does in a round of the second loop -/
theorem done_next {N0 : Nat} {w wr : World} {D m b g L Q j k : Nat} {F : Nat → Int} {ps : List Rq} {zs : List Int} (hk : k < 8 - j) (E : O2 N0 w wr D m b g L Q j F ps zs) (lD : w.heap.size ≤ D) (lm : w.heap.size ≤ m) (lb : w.heap.size ≤ b) (lg : w.heap.size ≤ g) (hg : g < N0) (sz : w.heap.size ≤ N0) (hN : N0 ≤ wr.heap.size) (hj : j < 8) (lL : w.heap.size ≤ L) (lQ : w.heap.size ≤ Q) :
    ∃ i : Nat, i < 8 ∧ Calls Try.prog 14 #[.pointer (some ⟨D, 0, none⟩), .pointer (some ⟨b, 0, none⟩), .int .i64 k] wr fun e w' => e = .returned (.tuple #[.agg #[.int .i64 i, .bool true, .int .i64 (i % 4 : Nat), .int .i64 i], .int .i64 0]) ∧
      wr.heap.size ≤ w'.heap.size ∧ ∃ (G : Nat → Bool), G i = false ∧ AR w' L 75 4 (fun n => .int .u8 (F n)) ∧ AR w' Q 76 8 (fun n => .bool (G n)) ∧
      ∀ w'', AR w'' L 75 4 (fun n => if n = i % 4 then .int .u8 (1 + (i : Int)) else .int .u8 (F n)) → AR w'' Q 76 8 (fun n => if n = i then .bool true else .bool (G n)) → Trn (fun k => k = L ∨ k = Q) w' w'' →
        O2 N0 w w'' D m b g L Q (j + 1) (fun n => if n = i % 4 then 1 + (i : Int) else F n) (ps.eraseIdx k) (splice zs (i % 4 * 256) (piece (fill 8) i)) := by
  obtain ⟨⟨v, h⟩, hm, bel, hL, ⟨G, hQ, hps⟩, hlen, hhead⟩ := E
  have hkp : k < ps.length := by omega
  obtain ⟨i, hi, hr, hG⟩ := hps ps[k] (List.getElem_mem hkp)
  refine ⟨i, hi, ?_⟩
  have C := complete_yes N0 D m 4 b g v ps zs (fill 8) k hkp wr h hm (by rw [fill_len 8 (by omega)]; omega) hN hg
  rw [hr, tr_e i hi, tr_z zs i hi, tr_m zs i] at C
  refine C.mono ?_
  rintro e w1 ⟨rfl, v', h1, m1, t1⟩
  have nL : ¬ SC D m g v L := not_sc h hL (by decide) (by decide) (ne_typ hL hm.row (by decide))
  have nQ : ¬ SC D m g v Q := not_sc h hQ (by decide) (by decide) (ne_typ hQ hm.row (by decide))
  have b1 := below_sc bel h t1 lD lm lg sz bel.size
  have hL1 : AR w1 L 75 4 (fun n => .int .u8 (F n)) := hL.kept (t1.block L hL.lt nL)
  have hQ1 : AR w1 Q 76 8 (fun n => .bool (G n)) := hQ.kept (t1.block Q hQ.lt nQ)
  refine ⟨rfl, t1.size, G, hG, hL1, hQ1, fun w2 hL2 hQ2 t2 => ?_⟩
  obtain ⟨es, cl, hmt⟩ := h1.mtyp
  have LQ : ∀ {k : Nat} {x : Array Value} {t : TypeId} {f : Nat × Nat}, w1.heap[k]? = some (.cells x t f) → t ≠ 75 → t ≠ 76 → ¬ (k = L ∨ k = Q) := fun hk h75 h76 e => by
    rcases e with e | e
    · exact ne_typ hk hL1 h75 e
    · exact ne_typ hk hQ1 h76 e
  have dk2 : DK N0 w2 D m 4 v' (ps.eraseIdx k) (splice zs (i % 4 * 256) (piece (fill 8) i)) := by
    refine h1.keep t2 (LQ h1.cell (by decide) (by decide)) (fun e => ?_) (fun q hq => ?_) (fun q ys _ hq => LQ hq (by decide) (by decide))
    · rcases e with e | e
      · exact ne_map hL1 hmt e.symm
      · exact ne_map hQ1 hmt e.symm
    · obtain ⟨cur, hc⟩ := h1.ord.typ q hq
      exact LQ hc (by decide) (by decide)
  refine ⟨⟨v', dk2⟩, m1.trn t2 (LQ m1.cell (by decide) (by decide)) (LQ m1.row (by decide) (by decide)), b1.trans ⟨t2.os, t2.tape, t2.output, ?_, fun q hq => t2.block q (by have := b1.size; omega) (by omega)⟩, ?_, ⟨fun n => if n = i then true else G n, ?_, fun r hr' => ?_⟩, ?_, head_next zs i hi h.len F hhead⟩
  · have := b1.size
    have := t2.size
    omega
  · have e : (fun n => if n = i % 4 then Value.int .u8 (1 + (i : Int)) else .int .u8 (F n)) = fun n => Value.int .u8 (if n = i % 4 then 1 + (i : Int) else F n) := by
      funext n
      split <;> rfl
    rw [e] at hL2
    exact hL2
  · have e : (fun n => if n = i then Value.bool true else .bool (G n)) = fun n => Value.bool (if n = i then true else G n) := by
      funext n
      split <;> rfl
    rw [e] at hQ2
    exact hQ2
  · obtain ⟨i', hi', rfl, hG'⟩ := hps r (List.mem_of_mem_eraseIdx hr')
    refine ⟨i', hi', rfl, ?_⟩
    have hne := left_ne hkp h.ids hr'
    rw [hr] at hne
    have : i' ≠ i := fun e => hne (by rw [e])
    simp [this, hG']
  · rw [List.length_eraseIdx, if_pos hkp]
    omega
namespace diskOrder
set_option maxHeartbeats 3200000 in
theorem walk (a : Option Addr) (len cap : Nat) (pk : List Int) (w : World) (hp : NumsIn .i64 w a len pk) (hl : len ≤ 9223372036854775807) :
    Calls Try.prog 6 #[.slice a len cap] w fun e w' => e = .returned (.bool true) ∧ Below w.heap.size w w' := by
  have DN := dnew_yes 4 w (by omega) (by omega)
  rw [show ((4 : Nat) : Int) = 4 from rfl] at DN
  go_enter Try.func6, Try.ntmps6
  go_wp2_with fail
  refine DN.mono ?_
  rintro e x1 ⟨D, m, rfl, h1, lD, lm, b1⟩
  clear DN
  have MN := new_yes 8 x1 (by omega) (by omega)
  rw [show ((8 : Nat) : Int) = 8 from rfl] at MN
  go_wp2_with fail
  refine MN.mono ?_
  rintro e x2 ⟨b, g, rfl, m2, lb, lg, b2⟩
  clear MN
  have hs1 := b1.size
  have E0 : Hid (O1 x2.heap.size w x2 D m b g 0) := ⟨⟨_, (h1 _).below b2⟩, m2, b1.trans (b2.mono b1.size)⟩
  have hg2 : g < x2.heap.size := m2.glt
  have sz0 : w.heap.size ≤ x2.heap.size := by have := b2.size; omega
  have lg' : w.heap.size ≤ g := by omega
  have lb' : w.heap.size ≤ b := by omega
  clear h1 b1 m2 b2
  go_wp2_with fail
  go_loopw [7] (fun i wr => ∃ j : Nat, j ≤ 8 ∧ i = .int .i64 j ∧ Hid (O1 x2.heap.size w wr D m b g j ∧ x2.heap.size ≤ wr.heap.size)) (fun i _ => 8 - (intOf i).toNat)
  case atStart => exact ⟨0, by omega, rfl, E0.out, Nat.le_refl _⟩
  case round =>
    obtain ⟨j, hj, rfl, E⟩ := hrel
    clear E0
    by_cases hj8 : j < 8
    · have hj' : (j : Int) < 8 := by omega
      have ea := and3 j hj8
      have bA : Below wr.heap.size wr (wr.alloc (.cells #[.int .u8 (1 + (j : Int))] 5)) := (Below.refl _ _).alloc (Nat.le_refl _) _
      have hf := fill_len j hj
      have PU := mput_mm b g (fill j) [1 + (j : Int)] ((j * 256 : Nat) : Int) (some ⟨wr.heap.size, 0, none⟩) 1 1 _ (E.out.1.mm.below bA) (sl_one wr _ (by omega) (by omega)) (by omega) (by omega) (by omega)
      rw [show plcE (fill j).length ((j * 256 : Nat) : Int) ([1 + (j : Int)] : List Int).length = 0 by simp [plcE, hf]; omega, show putV (fill j) ((j * 256 : Nat) : Int) [1 + (j : Int)] = fill (j + 1) by rw [putV, if_pos (by simp [plcE, hf]; omega)]; rfl, show ((j * 256 : Nat) : Int) = 256 * (j : Int) by omega] at PU
      have HB : Hid (_) := bA
      clear bA
      go_wp2_with fail
      refine PU.mono ?_
      rintro e y1 ⟨rfl, m3, g3⟩
      clear PU
      obtain ⟨v, h0⟩ := E.out.1.dk
      have h3 := (h0.below HB.out).bytesTurned (E.out.1.mm.below HB.out).row hg2 g3
      have hy : x2.heap.size ≤ y1.heap.size := by have := E.out.2; have := HB.out.size; have := g3.size; omega
      have SU := submit_dk x2.heap.size D m 4 v _ _ (rq j) y1 h3 hy
      rw [sub_e j hj8, sub_p j hj8] at SU
      have H3 : Hid (MM y1 b g (fill (j + 1)) ∧ Below w.heap.size w y1 ∧ DK x2.heap.size y1 D m 4 v (reqs j) (List.replicate (4 * 256) 0)) := ⟨m3, (E.out.1.bel.trans (HB.out.mono E.out.1.bel.size)).grown g3 (by have := E.out.1.bel.size; have := HB.out.size; omega) (by intro k h; cases h; omega), h3⟩
      have hD : w.heap.size ≤ D := lD
      clear h0 h3 m3 g3
      simp only [rv, rq] at SU
      rw [show ((j % 4 : Nat) : Int) = (j : Int) % 4 by omega] at SU
      have hw1 : w.heap.size ≤ y1.heap.size := by omega

      go_wp2_with fail
      refine SU.mono ?_
      rintro e y2 ⟨rfl, v', h4, t4⟩
      clear SU
      obtain ⟨m3, k3, h3⟩ := H3.out
      have EN : Hid (O1 x2.heap.size w y2 D m b g (j + 1) ∧ x2.heap.size ≤ y2.heap.size) :=
        ⟨⟨⟨v', h4⟩, m3.trn t4 (not_sd h3 m3.cell (by decide) (by decide)) (not_sd h3 m3.row (by decide) (by decide)), below_sd k3 h3 t4 hD sz0 hw1⟩, by have := t4.size; omega⟩
      clear m3 k3 h3 h4 t4 H3
      go_wp2_with fail
      go_roundw
      case rel => exact ⟨j + 1, by omega, by go_num, EN⟩
      case measure => simp [intOf]; omega
    · obtain rfl : j = 8 := by omega
      obtain ⟨v, h0⟩ := E.out.1.dk
      have SU := submit_dk x2.heap.size D m 4 v _ _ ⟨9, false, 0, 0⟩ wr h0 E.out.2
      rw [sub_9e, sub_9p] at SU
      simp only [rv] at SU
      have H0 : Hid (DK x2.heap.size wr D m 4 v (reqs 8) (List.replicate (4 * 256) 0)) := h0
      clear h0
      go_wp2_with fail
      refine SU.mono ?_
      rintro e y2 ⟨rfl, v', h4, t4⟩
      clear SU
      have m3 := E.out.1.mm
      have EN : Hid (O1 x2.heap.size w y2 D m b g 8 ∧ x2.heap.size ≤ y2.heap.size) :=
        ⟨⟨⟨v', h4⟩, m3.trn t4 (not_sd H0.out m3.cell (by decide) (by decide)) (not_sd H0.out m3.row (by decide) (by decide)), below_sd E.out.1.bel H0.out t4 lD sz0 (by have := E.out.2; omega)⟩, by have := t4.size; have := E.out.2; omega⟩
      clear m3 h4 t4 H0 E
      have E2 : Hid (O2 x2.heap.size w ((y2.alloc (.cells #[.int .u8 0, .int .u8 0, .int .u8 0, .int .u8 0] 75)).alloc (.cells #[.bool false, .bool false, .bool false, .bool false, .bool false, .bool false, .bool false, .bool false] 76)) D m b g y2.heap.size (y2.heap.size + 1) 0 (fun _ => 0) (reqs 8) (List.replicate (4 * 256) 0) ∧ x2.heap.size ≤ y2.heap.size) := by
        have bb : Below y2.heap.size y2 ((y2.alloc (.cells #[.int .u8 0, .int .u8 0, .int .u8 0, .int .u8 0] 75)).alloc (.cells #[.bool false, .bool false, .bool false, .bool false, .bool false, .bool false, .bool false, .bool false] 76)) := ((Below.refl _ _).alloc (Nat.le_refl _) _).alloc (by simp) _
        obtain ⟨v, hv⟩ := EN.out.1.dk
        refine ⟨⟨⟨v, hv.below bb⟩, EN.out.1.mm.below bb, EN.out.1.bel.trans (bb.mono EN.out.1.bel.size), ?_, ⟨fun _ => false, at_next _ _ _, fun r hr => ?_⟩, rfl, fun n hn => zeros_getD _ _⟩, EN.out.2⟩
        · show _ = _
          rw [heap_alloc_past _ _ (by simp)]
          exact heap_alloc_at _ _
        · obtain ⟨i, hi, rfl⟩ := List.mem_map.1 hr
          exact ⟨i, by simpa using hi, rfl, rfl⟩
      clear EN
      generalize hL : y2.heap.size = L at *
      have hxL : x2.heap.size ≤ L := E2.out.2
      go_wp2_with fail
      go_loopw [10] (fun i wr => ∃ (j : Nat) (F : Nat → Int) (ps : List Rq) (zs : List Int), j ≤ 8 ∧ i = .int .i64 j ∧ Hid (O2 x2.heap.size w wr D m b g L (L + 1) j F ps zs ∧ x2.heap.size ≤ wr.heap.size)) (fun i _ => 8 - (intOf i).toNat)
      case atStart => exact ⟨0, _, _, _, by omega, rfl, E2.out.1, by simp; omega⟩
      case round =>
        obtain ⟨j, F, ps, zs, hj, rfl, E⟩ := hrel
        clear E2
        by_cases hj8 : j < 8
        · have hj' : (j : Int) < 8 := by omega
          by_cases hlp : j < len
          · obtain ⟨bb, off, ha, hbb, hc⟩ := hp.at hlp
            have hc' := ((bcell E.out.1.bel).1 bb (off + j) hbb).trans hc
            have hbl : bb < wr.heap.size := by have := E.out.1.bel.size; omega
            generalize pk.getD j 0 = p at *
            obtain ⟨k, hk, ek⟩ := pick_lt p j hj8
            subst ha
            clear hc
            obtain ⟨i, hi, CO⟩ := done_next (j := j) (F := F) hk E.out.1 lD lm lb' lg' hg2 sz0 E.out.2 hj8 (by omega) (by omega)
            go_wp2_with fail
            refine CO.mono ?_
            rintro e y3 ⟨rfl, hsz, G, hG, aL, aQ, nxt⟩
            clear CO
            have cQ := aQ.at i hi
            have cL := aL.at (i % 4) (by omega)
            have fQ := aQ.fz i
            have fL := aL.fz (i % 4)
            have lLt := aL.lt
            have lQt := aQ.lt
            rw [hG] at cQ
            have NX : Hid (∀ o, O2 x2.heap.size w (((y3.setCell ⟨L + 1, i, none⟩ (.bool true)).setCell ⟨L, i % 4, none⟩ (.int .u8 (1 + (i : Int)))).alloc o) D m b g L (L + 1) (j + 1) (fun n => if n = i % 4 then 1 + (i : Int) else F n) (ps.eraseIdx k) (splice zs (i % 4 * 256) (piece (fill 8) i)) ∧ x2.heap.size ≤ (((y3.setCell ⟨L + 1, i, none⟩ (.bool true)).setCell ⟨L, i % 4, none⟩ (.int .u8 (1 + (i : Int)))).alloc o).heap.size) := fun o => by
              obtain ⟨r1, r2, r3⟩ := two_sets aL aQ (by omega) (i % 4) i (by omega) hi (.int .u8 (1 + (i : Int))) (.bool true) o
              exact ⟨nxt _ r1 r2 r3, by have := r3.size; have := E.out.2; omega⟩
            clear nxt aL aQ
            have hi' : (i : Int) < 8 := by omega
            have hb4 : (i % 4 : Nat) < 4 := by omega
            go_wp2_with fail
            go_roundw
            case rel => exact ⟨j + 1, _, _, _, by omega, by go_num, NX.out _⟩
            case measure => simp [intOf]; omega
          · obtain ⟨k, hk, k0⟩ : ∃ k : Nat, k < 8 - j ∧ k = 0 := ⟨0, by omega, rfl⟩
            have hlp' : (len : Int) ≤ (j : Int) := by omega
            obtain ⟨i, hi, CO⟩ := done_next (j := j) (F := F) hk E.out.1 lD lm lb' lg' hg2 sz0 E.out.2 hj8 (by omega) (by omega)
            rw [show (k : Int) = 0 by omega] at CO
            clear k0
            go_wp2_with fail
            refine CO.mono ?_
            rintro e y3 ⟨rfl, hsz, G, hG, aL, aQ, nxt⟩
            clear CO
            have cQ := aQ.at i hi
            have cL := aL.at (i % 4) (by omega)
            have fQ := aQ.fz i
            have fL := aL.fz (i % 4)
            have lLt := aL.lt
            have lQt := aQ.lt
            rw [hG] at cQ
            have NX : Hid (∀ o, O2 x2.heap.size w (((y3.setCell ⟨L + 1, i, none⟩ (.bool true)).setCell ⟨L, i % 4, none⟩ (.int .u8 (1 + (i : Int)))).alloc o) D m b g L (L + 1) (j + 1) (fun n => if n = i % 4 then 1 + (i : Int) else F n) (ps.eraseIdx k) (splice zs (i % 4 * 256) (piece (fill 8) i)) ∧ x2.heap.size ≤ (((y3.setCell ⟨L + 1, i, none⟩ (.bool true)).setCell ⟨L, i % 4, none⟩ (.int .u8 (1 + (i : Int)))).alloc o).heap.size) := fun o => by
              obtain ⟨r1, r2, r3⟩ := two_sets aL aQ (by omega) (i % 4) i (by omega) hi (.int .u8 (1 + (i : Int))) (.bool true) o
              exact ⟨nxt _ r1 r2 r3, by have := r3.size; have := E.out.2; omega⟩
            clear nxt aL aQ
            have hi' : (i : Int) < 8 := by omega
            have hb4 : (i % 4 : Nat) < 4 := by omega
            go_wp2_with fail
            go_roundw
            case rel => exact ⟨j + 1, _, _, _, by omega, by go_num, NX.out _⟩
            case measure => simp [intOf]; omega
        · have hj9 : (8 : Int) ≤ (j : Int) := by omega
          have H8 : Hid (j = 8) := by show j = 8; omega
          go_wp2_with fail
          generalize hjj : j = jj at *
          go_loopw [14] (fun i wr => ∃ j : Nat, j ≤ 4 ∧ i = .int .i64 j ∧ Hid (O2 x2.heap.size w wr D m b g L (L + 1) jj F ps zs)) (fun i _ => 4 - (intOf i).toNat)
          case atStart => exact ⟨0, by omega, rfl, E.out.1⟩
          case round =>
            obtain ⟨j, hj4, rfl, E3⟩ := hrel
            clear E
            obtain ⟨v, h⟩ := E3.out.dk
            by_cases hj3 : j < 4
            · have hj' : (j : Int) < 4 := by omega
              have BL := block_yes x2.heap.size D m 4 v ps zs j _ h hj3
              clear h
              go_wp2_with fail
              refine BL.mono ?_
              rintro e y3 ⟨g', rfl, hg', lg'', b3⟩
              clear BL
              have E4 := E3.out.below b3
              have cL := E4.last.at j hj3
              have lL := E4.last.lt
              have zl : (piece zs j).length = 256 := by
                obtain ⟨v, h⟩ := E4.dk
                exact piece_len h.len hj3
              have cB : y3.cell? ⟨g', 0, none⟩ = some (.int .u8 (F j)) := by
                refine cell_of hg' ?_
                have e1 : (piece zs j).getD 0 0 = F j := by rw [piece_head, E4.head j hj3]
                simp [List.getD, List.getElem?_eq_getElem (show 0 < (piece zs j).length by omega)] at e1
                simp [List.getElem?_eq_getElem (show 0 < (piece zs j).length by omega), e1]
              have lB := lt_of_heap hg'
              have HE : Hid (_) := E4
              clear E4 hg' b3
              go_wp2_with fail
              go_quiet (fail)
              go_wp2_with fail
              go_roundw
              case rel => exact ⟨j + 1, by omega, by go_num, HE.out.below (below_drewN (Below.refl _ _) _)⟩
              case measure => simp [intOf]; omega
            · obtain rfl : j = 4 := by omega
              have PE := pending_dk x2.heap.size D m 4 v ps zs _ h
              rw [show ps.length = 0 by have := E3.out.len; have := H8.out; omega] at PE
              have bel := E3.out.bel
              have HB : Hid (_) := bel
              clear bel h
              go_wp2_with fail
              refine PE.mono ?_
              rintro e y3 ⟨g', rfl, _, _, b3⟩
              clear PE
              go_wp2_with fail
              go_ret
              exact ⟨rfl, HB.out.trans (b3.mono HB.out.size)⟩
end diskOrder
end Go.Proofs.Ytkadpmmielegfaa
