/-
  What New does: its contract.
-/
import Derived.Test.YteghkhdpdeiocaaGreatDoorTo
import Derived.Test.YteghkhdpdeiocaaGreatDoorGS
namespace Go.Proofs.YteghkhdpdeiocaaGreatDoor
open Go.RowKit Go.Maps
set_option linter.unusedVariables false
set_option maxRecDepth 100000

/-- tables as they are made, ahead of their root -/
def x0 : Tp := ⟨0, fun _ => -1, fun _ => none⟩
/-- a block more that is none of the frames' -/
def Bl (B : Nat → Prop) (L : Nat) : Nat → Prop := fun k => B k ∨ k = L
theorem FX.guard {B : Nat → Prop} {w w' : World} {D : Nat} {S : Fs} (h : FX B w D S) {L : Nat} (hL : w.heap.size ≤ L) (hk : Below w.heap.size w w') : FX (Bl B L) w' D S := by
  have lt := h.lt
  obtain ⟨r, C, s, h⟩ := h
  obtain ⟨l1, l2, l3⟩ := h.lo
  have h' := h.below hk
  refine ⟨r, C, s, h'.ob, h'.row, h'.mp, h'.inj, h'.s1, h'.s2, h'.ok, ?_, ?_, fun i hi hc => ?_⟩
  · rintro (e | e)
    · exact l1 e
    · omega
  · have := h.row.lt
    rintro (e | e)
    · exact l2 e
    · omega
  · have := (h.mp i hi hc).lt
    rintro (e | e)
    · exact l3 i hi hc e
    · omega
theorem cnt_x0 (k : Nat) : cnt x0.pg k = 0 := by
  unfold cnt x0
  exact List.countP_eq_zero.2 fun a _ => by simp
theorem nlo_x0 : nlo x0.lo = 0 := by
  unfold nlo x0
  exact List.countP_eq_zero.2 fun a _ => by simp
theorem loM_x0 (k : Nat) : loM x0.lo k = none := loM_none (by show (-1 : Int) < 0; omega)
section
variable {B : Nat → Prop} {w w' : World} {b g D T L gu n : Nat} {z : Zs} {m : List Int} {S : Fs}
/-- memory and frames -/
structure MF (B : Nat → Prop) (w : World) (b g D : Nat) (m : List Int) (S : Fs) : Prop where
  sz : SZ w
  bt : E.BT w
  mm : MM w b g m
  fx : FX B w D S
  b01 : B 0 ∧ B 1
  hB : ∀ k, w.heap.size ≤ k → ¬ B k
  g1 : 1 < g
theorem SX.mf (h : SX B w b g D T L gu z) : MF B w b g D z.m z.S := ⟨h.sz, h.bt, h.mm, h.fx, h.b01, h.hB, h.lo.1⟩
theorem MF.below (h : MF B w b g D m S) (hb : Below w.heap.size w w') : MF B w' b g D m S := ⟨h.sz.below hb, h.bt.below hb, h.mm.below hb, h.fx.below hb, h.b01, hB_of h.hB hb.size, h.g1⟩
theorem MF.frames (h : MF B w b g D m S) {S' : Fs} (hf : FX B w' D S') (t : Tu Of B w w') : MF B w' b g D m S' := by
  have p0 := h.sz.pos
  obtain ⟨o0, e0⟩ := heap_some (show 0 < w.heap.size by omega)
  obtain ⟨o1, e1⟩ := heap_some (show 1 < w.heap.size by omega)
  exact ⟨h.sz.stay ((t.keep 1 o1 e1 (.inl h.b01.2)).trans e1.symm) t.size, BT.stay h.bt ((t.keep 0 o0 e0 (.inl h.b01.1)).trans e0.symm) t.size, h.mm.stay ((t.keep _ _ h.mm.cell (.inr (not_of (by decide)))).trans h.mm.cell.symm) ((t.keep _ _ h.mm.row (.inr (not_of (by decide)))).trans h.mm.row.symm), hf, h.b01, hB_of h.hB t.size, h.g1⟩
theorem MF.made (h : MF B w b g D m S) (gu : Nat) : SX (Bl B w.heap.size) ((w.alloc (.map #[] 0)).alloc (.cells #[.pointer (some ⟨b, 0, none⟩), .pointer (some ⟨D, 0, none⟩), .int .i64 gu, .int .i64 0, .map (some w.heap.size), .int .i64 0, .int .i64 0, .int .i64 0, .int .i64 0, .int .i64 0, .int .i64 0, .int .i64 0, .int .i64 0, .int .i64 0, .int .i64 0, .int .i64 0, .int .i64 0, .int .i64 0, .int .i64 0, .int .i64 0, .int .i64 0, .int .i64 0, .int .i64 0, .int .i64 0, .int .i64 0, .int .i64 0, .int .i64 0, .int .i64 0, .int .i64 0, .int .i64 0, .int .i64 0, .int .i64 0, .int .i64 0, .int .i64 0, .int .i64 0, .int .i64 0, .int .i64 0] 110)) b g D (w.heap.size + 1) w.heap.size gu ⟨m, S, x0⟩ ∧ Below w.heap.size w ((w.alloc (.map #[] 0)).alloc (.cells #[.pointer (some ⟨b, 0, none⟩), .pointer (some ⟨D, 0, none⟩), .int .i64 gu, .int .i64 0, .map (some w.heap.size), .int .i64 0, .int .i64 0, .int .i64 0, .int .i64 0, .int .i64 0, .int .i64 0, .int .i64 0, .int .i64 0, .int .i64 0, .int .i64 0, .int .i64 0, .int .i64 0, .int .i64 0, .int .i64 0, .int .i64 0, .int .i64 0, .int .i64 0, .int .i64 0, .int .i64 0, .int .i64 0, .int .i64 0, .int .i64 0, .int .i64 0, .int .i64 0, .int .i64 0, .int .i64 0, .int .i64 0, .int .i64 0, .int .i64 0, .int .i64 0, .int .i64 0, .int .i64 0] 110)) := by
  have b1 : Below w.heap.size w (w.alloc (.map #[] 0)) := (Below.refl _ _).alloc (Nat.le_refl _) _
  have b2 := b1.alloc (by simp) (.cells #[.pointer (some ⟨b, 0, none⟩), .pointer (some ⟨D, 0, none⟩), .int .i64 gu, .int .i64 0, .map (some w.heap.size), .int .i64 0, .int .i64 0, .int .i64 0, .int .i64 0, .int .i64 0, .int .i64 0, .int .i64 0, .int .i64 0, .int .i64 0, .int .i64 0, .int .i64 0, .int .i64 0, .int .i64 0, .int .i64 0, .int .i64 0, .int .i64 0, .int .i64 0, .int .i64 0, .int .i64 0, .int .i64 0, .int .i64 0, .int .i64 0, .int .i64 0, .int .i64 0, .int .i64 0, .int .i64 0, .int .i64 0, .int .i64 0, .int .i64 0, .int .i64 0, .int .i64 0, .int .i64 0] 110)
  have s1 : (w.alloc (.map #[] 0)).heap.size = w.heap.size + 1 := by simp
  have p0 := h.sz.pos
  have mp : MapIs ((w.alloc (.map #[] 0)).alloc (.cells #[.pointer (some ⟨b, 0, none⟩), .pointer (some ⟨D, 0, none⟩), .int .i64 gu, .int .i64 0, .map (some w.heap.size), .int .i64 0, .int .i64 0, .int .i64 0, .int .i64 0, .int .i64 0, .int .i64 0, .int .i64 0, .int .i64 0, .int .i64 0, .int .i64 0, .int .i64 0, .int .i64 0, .int .i64 0, .int .i64 0, .int .i64 0, .int .i64 0, .int .i64 0, .int .i64 0, .int .i64 0, .int .i64 0, .int .i64 0, .int .i64 0, .int .i64 0, .int .i64 0, .int .i64 0, .int .i64 0, .int .i64 0, .int .i64 0, .int .i64 0, .int .i64 0, .int .i64 0, .int .i64 0] 110)) w.heap.size 0 (fun _ => none) := (MapIs.new w).keep (heap_alloc_past _ _ (by omega))
  have hb : ((w.alloc (.map #[] 0)).alloc (.cells #[.pointer (some ⟨b, 0, none⟩), .pointer (some ⟨D, 0, none⟩), .int .i64 gu, .int .i64 0, .map (some w.heap.size), .int .i64 0, .int .i64 0, .int .i64 0, .int .i64 0, .int .i64 0, .int .i64 0, .int .i64 0, .int .i64 0, .int .i64 0, .int .i64 0, .int .i64 0, .int .i64 0, .int .i64 0, .int .i64 0, .int .i64 0, .int .i64 0, .int .i64 0, .int .i64 0, .int .i64 0, .int .i64 0, .int .i64 0, .int .i64 0, .int .i64 0, .int .i64 0, .int .i64 0, .int .i64 0, .int .i64 0, .int .i64 0, .int .i64 0, .int .i64 0, .int .i64 0, .int .i64 0] 110)).heap[w.heap.size + 1]? = some (.cells #[.pointer (some ⟨b, 0, none⟩), .pointer (some ⟨D, 0, none⟩), .int .i64 gu, .int .i64 0, .map (some w.heap.size), .int .i64 0, .int .i64 0, .int .i64 0, .int .i64 0, .int .i64 0, .int .i64 0, .int .i64 0, .int .i64 0, .int .i64 0, .int .i64 0, .int .i64 0, .int .i64 0, .int .i64 0, .int .i64 0, .int .i64 0, .int .i64 0, .int .i64 0, .int .i64 0, .int .i64 0, .int .i64 0, .int .i64 0, .int .i64 0, .int .i64 0, .int .i64 0, .int .i64 0, .int .i64 0, .int .i64 0, .int .i64 0, .int .i64 0, .int .i64 0, .int .i64 0, .int .i64 0] 110 (0, 0)) := by
    have := heap_alloc_at (w.alloc (.map #[] 0)) (.cells #[.pointer (some ⟨b, 0, none⟩), .pointer (some ⟨D, 0, none⟩), .int .i64 gu, .int .i64 0, .map (some w.heap.size), .int .i64 0, .int .i64 0, .int .i64 0, .int .i64 0, .int .i64 0, .int .i64 0, .int .i64 0, .int .i64 0, .int .i64 0, .int .i64 0, .int .i64 0, .int .i64 0, .int .i64 0, .int .i64 0, .int .i64 0, .int .i64 0, .int .i64 0, .int .i64 0, .int .i64 0, .int .i64 0, .int .i64 0, .int .i64 0, .int .i64 0, .int .i64 0, .int .i64 0, .int .i64 0, .int .i64 0, .int .i64 0, .int .i64 0, .int .i64 0, .int .i64 0, .int .i64 0] 110)
    rwa [s1] at this
  have h' := h.below b2
  refine ⟨⟨h'.sz, h'.bt, h'.mm, h.fx.guard (Nat.le_refl _) b2, ⟨_, hb, rfl, rfl, rfl, rfl, rfl, rfl, fun k hk => ?_⟩, mp.congr nlo_x0.symm (fun k _ => (loM_x0 k).symm), .inr rfl, ⟨.inl h.b01.1, .inl h.b01.2⟩, fun k hk => ?_, h.g1, by omega, by omega⟩, b2⟩
  · rw [cnt_x0]
    have : ∀ k, k < 32 → (#[.pointer (some ⟨b, 0, none⟩), .pointer (some ⟨D, 0, none⟩), .int .i64 gu, .int .i64 0, .map (some w.heap.size), .int .i64 0, .int .i64 0, .int .i64 0, .int .i64 0, .int .i64 0, .int .i64 0, .int .i64 0, .int .i64 0, .int .i64 0, .int .i64 0, .int .i64 0, .int .i64 0, .int .i64 0, .int .i64 0, .int .i64 0, .int .i64 0, .int .i64 0, .int .i64 0, .int .i64 0, .int .i64 0, .int .i64 0, .int .i64 0, .int .i64 0, .int .i64 0, .int .i64 0, .int .i64 0, .int .i64 0, .int .i64 0, .int .i64 0, .int .i64 0, .int .i64 0, .int .i64 0] : Array Value)[5 + k]? = some (.int .i64 0)
      | 0, _ => rfl
      | 1, _ => rfl
      | 2, _ => rfl
      | 3, _ => rfl
      | 4, _ => rfl
      | 5, _ => rfl
      | 6, _ => rfl
      | 7, _ => rfl
      | 8, _ => rfl
      | 9, _ => rfl
      | 10, _ => rfl
      | 11, _ => rfl
      | 12, _ => rfl
      | 13, _ => rfl
      | 14, _ => rfl
      | 15, _ => rfl
      | 16, _ => rfl
      | 17, _ => rfl
      | 18, _ => rfl
      | 19, _ => rfl
      | 20, _ => rfl
      | 21, _ => rfl
      | 22, _ => rfl
      | 23, _ => rfl
      | 24, _ => rfl
      | 25, _ => rfl
      | 26, _ => rfl
      | 27, _ => rfl
      | 28, _ => rfl
      | 29, _ => rfl
      | 30, _ => rfl
      | 31, _ => rfl
      | k + 32, h => absurd h (by omega)
    exact this k hk
  · have : w.heap.size + 2 ≤ k := by simpa using hk
    rintro (e | e)
    · exact h.hB k (by omega) e
    · omega
theorem areFrames_fx (h : MF B w b g D m S) : Calls Tryz.prog 47 #[.pointer (some ⟨D, 0, none⟩)] w fun e w' => e = .returned (.bool true) ∧ FX B w' D S ∧ Tu Of B w w' := by
  have C := hold_fx h.fx (-1) (-1)
  have e1 : hoE S (-1) (-1) = 2 := by
    have e : errC S (-1) (-1) (-1) = 2 := by unfold errC isO; rw [if_neg (by omega)]
    unfold hoE
    rw [e]
    rfl
  rw [ho_no (by rw [e1]; decide), e1] at C
  clear h e1
  go_enter Tryz.func47, Tryz.ntmps47
  go_wp2_with fail
  refine C.mono ?_
  rintro e w1 ⟨rfl, h1, t1⟩
  have H1 : Hid (_ ∧ _) := ⟨h1, t1⟩
  clear h1 t1
  go_wp2_with fail
  go_ret
  exact ⟨rfl, H1.out⟩
/-- what New makes -/
structure NewP (B : Nat → Prop) (w w1 : World) (b g D gu n : Nat) (m : List Int) (S : Fs) (e : Ending) : Prop where
  ex : ∃ T L, w.heap.size ≤ T ∧ w.heap.size ≤ L ∧ (takeE n S = 0 → e = .returned (.tuple #[.pointer (some ⟨T, 0, none⟩), .int .i64 0]) ∧ SX (Bl B L) w1 b g D T L gu ⟨takeM n m S, takeS n S, { x0 with rt := alR S 0 }⟩) ∧
    (takeE n S ≠ 0 → e = .returned (.tuple #[.pointer none, .int .i64 (takeE n S)]) ∧ MF (Bl B L) w1 b g D (takeM n m S) (takeS n S))
  tn : Tn (fun k => k = g) B w w1
set_option maxHeartbeats 1600000 in
theorem snew_mf (h : MF B w b g D m S) (hl : m.length = n * 256) (hn : 1 ≤ n ∧ n ≤ 65536) (hg : 1 ≤ gu ∧ gu ≤ 16) : Calls Tryz.prog 18 #[.pointer (some ⟨b, 0, none⟩), .pointer (some ⟨D, 0, none⟩), .int .i64 gu] w fun e w1 => NewP B w w1 b g D gu n m S e := by
  have C1 := isMemory_mm h.mm (by omega)
  have C2 := areFrames_fx h
  have hg1 : (1 : Int) ≤ gu := by omega
  have hg2 : (gu : Int) ≤ 16 := by omega
  have HM : Hid (MF B w b g D m S) := h
  have TK := fun (w2 W : World) (hS : SX (Bl B w2.heap.size) W b g D (w2.heap.size + 1) w2.heap.size gu ⟨m, S, x0⟩) => take_sx hS hl hn.2
  clear h
  have hmm : ∀ w : World, (Instr.makeMap 108 none).run Tryz.prog w = .ok (.map (some w.heap.size)) (w.alloc (.map #[] 0)) := fun w => by kernel_rfl
  by_cases h0 : takeE n S = 0
  · simp only [h0, if_true] at TK
    go_enter Tryz.func18, Tryz.ntmps18
    go_wp2_with fail
    refine C1.mono ?_
    rintro e w ⟨rfl, rfl⟩
    go_wp2_with fail
    refine C2.mono ?_
    rintro e w2 ⟨rfl, h2, t2⟩
    obtain ⟨h3, b3⟩ := (HM.out.frames h2 t2).made gu
    have H3 : Hid (SX (Bl B w2.heap.size) ((w2.alloc (.map #[] 0)).alloc (.cells #[.pointer (some ⟨b, 0, none⟩), .pointer (some ⟨D, 0, none⟩), .int .i64 gu, .int .i64 0, .map (some w2.heap.size), .int .i64 0, .int .i64 0, .int .i64 0, .int .i64 0, .int .i64 0, .int .i64 0, .int .i64 0, .int .i64 0, .int .i64 0, .int .i64 0, .int .i64 0, .int .i64 0, .int .i64 0, .int .i64 0, .int .i64 0, .int .i64 0, .int .i64 0, .int .i64 0, .int .i64 0, .int .i64 0, .int .i64 0, .int .i64 0, .int .i64 0, .int .i64 0, .int .i64 0, .int .i64 0, .int .i64 0, .int .i64 0, .int .i64 0, .int .i64 0, .int .i64 0, .int .i64 0] 110)) b g D (w2.heap.size + 1) w2.heap.size gu ⟨m, S, x0⟩ ∧ Tn (fun k => k = g) B w ((w2.alloc (.map #[] 0)).alloc (.cells #[.pointer (some ⟨b, 0, none⟩), .pointer (some ⟨D, 0, none⟩), .int .i64 gu, .int .i64 0, .map (some w2.heap.size), .int .i64 0, .int .i64 0, .int .i64 0, .int .i64 0, .int .i64 0, .int .i64 0, .int .i64 0, .int .i64 0, .int .i64 0, .int .i64 0, .int .i64 0, .int .i64 0, .int .i64 0, .int .i64 0, .int .i64 0, .int .i64 0, .int .i64 0, .int .i64 0, .int .i64 0, .int .i64 0, .int .i64 0, .int .i64 0, .int .i64 0, .int .i64 0, .int .i64 0, .int .i64 0, .int .i64 0, .int .i64 0, .int .i64 0, .int .i64 0, .int .i64 0, .int .i64 0] 110)) ∧ w.heap.size ≤ w2.heap.size) := ⟨h3, (Tn.of_tu t2).trans (Tn.of_below b3), t2.size⟩
    clear h2 t2 h3 b3 C1 C2
    go_wp2_with fail
    refine (TK w2 _ H3.out.1).mono ?_
    rintro e w4 ⟨rfl, h4, tn4⟩
    have H4 : Hid (SX (Bl B w2.heap.size) w4 b g D (w2.heap.size + 1) w2.heap.size gu ⟨takeM n m S, takeS n S, x0⟩ ∧ Tn (fun k => k = g) B w w4) := ⟨h4, H3.out.2.1.trans ⟨tn4.os, tn4.tape, tn4.output, tn4.size, fun k o hk hp hr => tn4.keep k o hk hp (hr.imp .inl id)⟩⟩
    clear h4 tn4
    have d3 := H4.out.1.tb.c3
    have f3 := H4.out.1.tb.fz 3
    have dl := H4.out.1.tb.lt
    obtain ⟨t5, n5⟩ := H4.out.1.tb.setR (alR S 0)
    have H5 : Hid (SX (Bl B w2.heap.size) (w4.setCell ⟨w2.heap.size + 1, 3, none⟩ (.int .i64 (alR S 0))) b g D (w2.heap.size + 1) w2.heap.size gu ⟨takeM n m S, takeS n S, { x0 with rt := alR S 0 }⟩) := H4.out.1.block (x' := { x0 with rt := alR S 0 }) rfl t5 n5
    have HT : Hid (Tn (fun k => k = g) B w (w4.setCell ⟨w2.heap.size + 1, 3, none⟩ (.int .i64 (alR S 0)))) :=
      ⟨(n5.os).trans H4.out.2.os, n5.tape.trans H4.out.2.tape, n5.output.trans H4.out.2.output, Nat.le_trans H4.out.2.size n5.size, fun k o hk hp hr => by
        have h1 := H4.out.2.keep k o hk hp hr
        have h2 := lt_of_heap hk
        have h3 := H3.out.2.2
        exact (n5.block k (lt_of_heap h1) (by omega)).trans h1⟩
    clear t5 n5
    have hs := H3.out.2.2
    go_wp2_with fail
    go_ret2
    exact ⟨⟨w2.heap.size + 1, w2.heap.size, by omega, hs, fun _ => ⟨rfl, H5.out⟩, fun e => absurd h0 e⟩, HT.out⟩
  · simp only [h0, if_false] at TK
    go_enter Tryz.func18, Tryz.ntmps18
    go_wp2_with fail
    refine C1.mono ?_
    rintro e w ⟨rfl, rfl⟩
    go_wp2_with fail
    refine C2.mono ?_
    rintro e w2 ⟨rfl, h2, t2⟩
    obtain ⟨h3, b3⟩ := (HM.out.frames h2 t2).made gu
    have H3 : Hid (SX (Bl B w2.heap.size) ((w2.alloc (.map #[] 0)).alloc (.cells #[.pointer (some ⟨b, 0, none⟩), .pointer (some ⟨D, 0, none⟩), .int .i64 gu, .int .i64 0, .map (some w2.heap.size), .int .i64 0, .int .i64 0, .int .i64 0, .int .i64 0, .int .i64 0, .int .i64 0, .int .i64 0, .int .i64 0, .int .i64 0, .int .i64 0, .int .i64 0, .int .i64 0, .int .i64 0, .int .i64 0, .int .i64 0, .int .i64 0, .int .i64 0, .int .i64 0, .int .i64 0, .int .i64 0, .int .i64 0, .int .i64 0, .int .i64 0, .int .i64 0, .int .i64 0, .int .i64 0, .int .i64 0, .int .i64 0, .int .i64 0, .int .i64 0, .int .i64 0, .int .i64 0] 110)) b g D (w2.heap.size + 1) w2.heap.size gu ⟨m, S, x0⟩ ∧ Tn (fun k => k = g) B w ((w2.alloc (.map #[] 0)).alloc (.cells #[.pointer (some ⟨b, 0, none⟩), .pointer (some ⟨D, 0, none⟩), .int .i64 gu, .int .i64 0, .map (some w2.heap.size), .int .i64 0, .int .i64 0, .int .i64 0, .int .i64 0, .int .i64 0, .int .i64 0, .int .i64 0, .int .i64 0, .int .i64 0, .int .i64 0, .int .i64 0, .int .i64 0, .int .i64 0, .int .i64 0, .int .i64 0, .int .i64 0, .int .i64 0, .int .i64 0, .int .i64 0, .int .i64 0, .int .i64 0, .int .i64 0, .int .i64 0, .int .i64 0, .int .i64 0, .int .i64 0, .int .i64 0, .int .i64 0, .int .i64 0, .int .i64 0, .int .i64 0, .int .i64 0] 110)) ∧ w.heap.size ≤ w2.heap.size) := ⟨h3, (Tn.of_tu t2).trans (Tn.of_below b3), t2.size⟩
    clear h2 t2 h3 b3 C1 C2
    go_wp2_with fail
    refine (TK w2 _ H3.out.1).mono ?_
    rintro e w4 ⟨rfl, h4, tn4⟩
    have H4 : Hid (MF (Bl B w2.heap.size) w4 b g D (takeM n m S) (takeS n S) ∧ Tn (fun k => k = g) B w w4) := ⟨h4.mf, H3.out.2.1.trans ⟨tn4.os, tn4.tape, tn4.output, tn4.size, fun k o hk hp hr => tn4.keep k o hk hp (hr.imp .inl id)⟩⟩
    clear h4 tn4
    have hs := H3.out.2.2
    have HY : Hid (takeE n S ≠ 0) := h0
    generalize hy : takeE n S = y at *
    go_wp2_with fail
    go_ret2
    exact ⟨⟨w2.heap.size + 1, w2.heap.size, by omega, hs, fun e => absurd (hy ▸ e) h0, fun _ => ⟨by rw [hy]; rfl, H4.out.1⟩⟩, H4.out.2⟩
end
end Go.Proofs.YteghkhdpdeiocaaGreatDoor
