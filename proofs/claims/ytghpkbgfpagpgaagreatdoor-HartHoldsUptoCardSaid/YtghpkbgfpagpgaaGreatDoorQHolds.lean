/-
  What a step leaves as it was, by what it tells: plain facts of the step as a function.
  The document's Get of a control register; Bytes of a memory; the law's same.
  The law HartHolds: what tells a call, a wait or a refusal of the second stage has changed nothing; from User control registers change by traps alone.
-/
import Derived.Test.YtghpkbgfpagpgaaGreatDoorQTwice
import Derived.BigQuiet
import Derived.Test.YtghpkbgfpagpgaaGreatDoorQNw
import Derived.Deep.CutRange
namespace Go.Proofs.YtghpkbgfpagpgaaGreatDoor
open Go.RowKit
set_option linter.unusedVariables false
set_option maxRecDepth 20000

/-- alike but for what is held and what is read of an instruction -/
structure Sim (s t : Hs) : Prop where
  X : t.X = s.X
  pc : t.pc = s.pc
  md : t.md = s.md
  R : t.R = s.R
  zs : t.zs = s.zs
theorem Sim.refl (s : Hs) : Sim s s := ⟨rfl, rfl, rfl, rfl, rfl⟩
/-- what a step leaves -/
structure GG (s : Hs) (o : Rs × Hs) : Prop where
  two : 2 ≤ o.1.k → Sim s o.2
  one : o.1.k = 1 → o.2.X = s.X ∧ o.2.md = 1 ∧ 0 ≤ o.1.c
  nil : o.1.k = 0 → s.md = 0 → o.2.R = s.R ∧ o.2.md = 0 ∧ o.1.fe = false ∧ o.1.ti = false
  lo : 0 ≤ o.1.k
theorem gg_ok {s t : Hs} (hR : t.R = s.R) (hm : t.md = s.md) : GG s (Rs.ok, t) :=
  ⟨fun h => absurd h (by show ¬ (2 : Int) ≤ 0; decide), fun h => absurd h (by show ¬ (0 : Int) = 1; decide), fun _ h => ⟨hR, hm.trans h, rfl, rfl⟩, by show (0 : Int) ≤ 0; decide⟩
theorem gg_trap {s t : Hs} (h : t.X = s.X) (c v w g : Int) (hc : 0 ≤ c) : GG s (⟨1, c, v, g, false, false⟩, t.trapped c w) :=
  ⟨fun h => absurd h (by show ¬ (2 : Int) ≤ 1; decide), fun _ => ⟨h, rfl, hc⟩, fun h => absurd h (by show ¬ (1 : Int) = 0; decide), by show (0 : Int) ≤ 1; decide⟩
theorem gg_ref {s t : Hs} (h : Sim s t) (c v g : Int) (hc : 0 ≤ c) : GG s (t.refP c v g) := by
  unfold Hs.refP
  split
  · exact ⟨fun _ => h, fun h => absurd h (by show ¬ (3 : Int) = 1; decide), fun h => absurd h (by show ¬ (3 : Int) = 0; decide), by show (0 : Int) ≤ 3; decide⟩
  · exact gg_trap h.X c v v g hc
theorem gg_told {s t : Hs} (t0 : Hs) (e : t0.R = t.R ∧ t0.md = t.md) (hR : t.R = s.R) (hm : t.md = s.md) (v : Int) : GG s (t0.told v) := gg_ok (e.1.trans hR) (e.2.trans hm)
theorem gg_ill {s t : Hs} (h : Sim s t) : GG s t.illP := gg_trap h.X 2 t.wd t.wd 0 (by decide)
theorem gg_ite {s : Hs} {a b : Rs × Hs} (c : Prop) [Decidable c] (ha : c → GG s a) (hb : ¬ c → GG s b) : GG s (if c then a else b) := by
  by_cases h : c
  · rw [if_pos h]; exact ha h
  · rw [if_neg h]; exact hb h
section
variable {T : TT} (hc : ∀ s root t a u, 0 ≤ (T s root t a u).c)
include hc
theorem rch_c (s : Hs) (k : Int) : 0 ≤ (s.rch T k).c := by
  unfold Hs.rch
  split
  · exact hc _ _ _ _ _
  · show 0 ≤ kindC k 4 6
    unfold kindC
    split <;> decide
theorem tk_c (s : Hs) (k : Int) : 0 ≤ (s.tk T k).c := by
  unfold Hs.tk
  split
  · split
    · exact rch_c hc s k
    · show 0 ≤ kindC k 13 15
      unfold kindC
      split <;> decide
  · exact rch_c hc s k
theorem ft_c (s : Hs) : 0 ≤ (s.ft T).c := by
  unfold Hs.ft
  split
  · split
    · split
      · exact Int.le_refl 0
      · show (0 : Int) ≤ 12; decide
    · exact hc _ _ _ _ _
  · exact Int.le_refl 0
omit hc in
theorem gg_ctl (s t : Hs) (h : Sim s t) (hm : t.md = 0 ∨ t.md = 1) : GG s t.ctlP := by
  have nz : ∀ {o : Rs × Hs}, o.1.k = 0 → (t.md ≠ 0) → GG s o := fun {o} hk0 hn => ⟨fun h => by rw [hk0] at h; omega, fun h => by rw [hk0] at h; omega, fun _ h0 => absurd (h.md.trans h0) hn, by rw [hk0]; decide⟩
  unfold Hs.ctlP
  split
  · rename_i hr
    have hn : t.md ≠ 0 := fun h0 => by
      unfold C.reachP at hr
      rw [if_neg (by omega)] at hr
      omega
    split
    · split
      · exact nz rfl hn
      split
      · exact nz rfl hn
      · exact gg_ill h
    · exact gg_told (t := t) _ (by exact ⟨rfl, rfl⟩) h.R h.md _
  · exact gg_ill h
theorem gg_per (s t : Hs) (h : Sim s t) (hk : t.md = 0 → kerP t.op = false) (hm : t.md = 0 ∨ t.md = 1) : GG s (t.perP T) := by
  have nz : ∀ {o : Rs × Hs}, o.1.k = 0 → (t.md ≠ 0) → GG s o := fun {o} hk0 hn => ⟨fun h => by rw [hk0] at h; omega, fun h => by rw [hk0] at h; omega, fun _ h0 => absurd (h.md.trans h0) hn, by rw [hk0]; decide⟩
  have hk1 : t.md = 0 → t.op ≠ 43 ∧ t.op ≠ 44 ∧ t.op ≠ 45 := fun h0 => by
    have := hk h0
    simp [kerP] at this
    exact ⟨this.1.1.1.1.1, this.1.1.1.1.2, this.1.1.1.2⟩
  unfold Hs.perP
  refine gg_ite _ (fun _ => gg_ok h.R h.md) fun _ => ?_
  refine gg_ite _ (fun _ => gg_told (t := t) _ (by exact ⟨rfl, rfl⟩) h.R h.md _) fun _ => ?_
  refine gg_ite _ (fun _ => ?_) fun _ => ?_
  · unfold Hs.loadsP
    exact gg_ite _ (fun _ => gg_told (t := t) _ (by exact ⟨rfl, rfl⟩) h.R h.md _) fun _ => gg_ref h _ _ _ (tk_c hc t 1)
  refine gg_ite _ (fun _ => ?_) fun _ => ?_
  · unfold Hs.storesP
    refine gg_ite _ (fun _ => ?_) fun _ => gg_ref h _ _ _ (rch_c hc t 2)
    exact gg_ite _ (fun _ => gg_ok h.R h.md) fun _ => gg_ref h _ _ _ (by decide)
  refine gg_ite _ (fun _ => gg_ok h.R h.md) fun _ => ?_
  refine gg_ite _ (fun _ => gg_ok h.R h.md) fun _ => ?_
  refine gg_ite _ (fun _ => ?_) fun _ => ?_
  · unfold Hs.lrP
    exact gg_ite _ (fun _ => gg_told (t := t) _ (by exact ⟨rfl, rfl⟩) h.R h.md _) fun _ => gg_ref h _ _ _ (tk_c hc t 1)
  refine gg_ite _ (fun _ => ?_) fun _ => ?_
  · unfold Hs.scP
    refine gg_ite _ (fun _ => ?_) fun _ => gg_ref h _ _ _ (rch_c hc t 2)
    refine gg_ite _ (fun _ => ?_) fun _ => gg_told (t := t) _ (by exact ⟨rfl, rfl⟩) h.R h.md _
    exact gg_ite _ (fun _ => gg_told (t := t) _ (by exact ⟨rfl, rfl⟩) h.R h.md _) fun _ => gg_ref (t := t.let_) ⟨h.X, h.pc, h.md, h.R, h.zs⟩ _ _ _ (by decide)
  refine gg_ite _ (fun _ => ?_) fun _ => ?_
  · unfold Hs.amoP
    exact gg_ite _ (fun _ => gg_told (t := t) _ (by exact ⟨rfl, rfl⟩) h.R h.md _) fun _ => gg_ref h _ _ _ (tk_c hc t 2)
  refine gg_ite _ (fun _ => ?_) fun _ => ?_
  · unfold Hs.amoP
    exact gg_ite _ (fun _ => gg_told (t := t) _ (by exact ⟨rfl, rfl⟩) h.R h.md _) fun _ => gg_ref h _ _ _ (tk_c hc t 2)
  refine gg_ite _ (fun _ => gg_ok h.R h.md) fun _ => ?_
  refine gg_ite _ (fun _ => ?_) fun _ => ?_
  · unfold Hs.callsP
    refine gg_ite _ (fun _ => gg_trap h.X 8 0 0 0 (by decide)) fun _ => ?_
    exact ⟨fun _ => h, fun h => absurd h (by show ¬ (2 : Int) = 1; decide), fun h => absurd h (by show ¬ (2 : Int) = 0; decide), by show (0 : Int) ≤ 2; decide⟩
  refine gg_ite _ (fun h43 => nz rfl (fun h0 => (hk1 h0).1 h43)) fun _ => ?_
  refine gg_ite _ (fun _ => ?_) fun _ => ?_
  · unfold Hs.waitsP
    refine gg_ite _ (fun _ => ?_) fun _ => ?_
    all_goals first | exact gg_ok h.R h.md | exact ⟨fun _ => h, fun h => absurd h (by show ¬ (4 : Int) = 1; decide), fun h => absurd h (by show ¬ (4 : Int) = 0; decide), by show (0 : Int) ≤ 4; decide⟩
  refine gg_ite _ (fun h45 => nz rfl (fun h0 => (hk1 h0).2.2 h45)) fun _ => ?_
  exact gg_ctl s t h hm
theorem gg_do (s : Hs) (hm : s.md = 0 ∨ s.md = 1) : GG s (s.doP T) := by
  unfold Hs.doP
  split
  · rename_i hd
    refine gg_trap rfl _ _ _ _ ?_
    have e : ∀ x, 0 ≤ (C.dueL x).1 := fun x => by
      unfold C.dueL
      split
      · decide
      split
      · decide
      split <;> decide
    unfold dueP
    split
    · exact e _
    · split
      · exact e _
      · exact Int.le_refl 0
  split
  · unfold Hs.insP
    split
    · rename_i hv
      exact gg_per hc s _ ⟨rfl, rfl, rfl, rfl, rfl⟩ hv.2 hm
    · exact gg_ill ⟨rfl, rfl, rfl, rfl, rfl⟩
  · exact gg_ref (Sim.refl s) _ _ _ (ft_c hc s)
end
end Go.Proofs.YtghpkbgfpagpgaaGreatDoor
namespace Go.Proofs.YtghpkbgfpagpgaaGreatDoor
open Go.RowKit
set_option linter.unusedVariables false
set_option maxRecDepth 20000

theorem copied_any (a : Option Addr) (n c : Nat) (zs : List Int) (w : World) (hs : SL w a n zs) (hn : n ≤ 16777216) :
    Calls Tryz.prog 53 #[.slice a n c] w fun e w' => ∃ g, e = .returned (.slice (some ⟨g, 0, none⟩) n n) ∧ w'.ownsRow w.heap.size 5 1 (.slice (some ⟨g, 0, none⟩) n n) n (zs.map (Value.int .u8)) ∧ Below w.heap.size w w' := by
  obtain ⟨i0, hi, hz0, hz1, hz2⟩ := info_parts Tryz.info5
  have HS : Hid (SL w a n zs) := hs
  clear hs
  go_enter Tryz.func53, Tryz.ntmps53
  go_wp2_with (at_make; refine wpList_make_full _ rfl _ _ 87 rfl w.heap.size 5 i0 (.int .u8 0) 1 Tryz.underlying87 hi hz0 hz1 _ _ _ _ n rfl rfl (by omega) (by omega) (by rw [hz2]; omega) (by unfold maxLen; omega) (by simp) ?_; intro w2 hown2 hgrow2; rw [made_zeros] at hown2)
  obtain ⟨w3, hr3, hg3, hgr3⟩ := run_copy_sl 3 w.heap.size 0 n (some ⟨w.heap.size, 0, none⟩) a n c n (List.replicate n 0) zs (own_heap hown2).1 (SL.below HS.out ((Below.refl _ _).grown hgrow2 (by simp) (by intro k h; cases h))) rfl (.inr rfl) (by simp)
  have HG3 : Hid (_) := hg3
  clear hg3 hown2
  rw [hr3]
  clear hr3
  go_wp2_with fail
  have hb3 : Below w.heap.size w w3 := ((Below.refl _ _).grown hgrow2 (by simp) (by intro k h; cases h)).grown hgr3 hgrow2.size (by intro k h; cases h; exact Nat.le_refl _)
  have hg3 := HG3.out
  rw [splice_all _ _ (by simp [HS.out.1])] at hg3
  go_ret
  exact ⟨w.heap.size, by simp, own_of_heap hg3 HS.out.1 (Nat.le_refl _) (by unfold maxLen; omega), hb3⟩

theorem mbytes_yes (b g : Nat) (zs : List Int) (T N : Nat) (w : World) (h : MM w b g zs) (ho : T + N ≤ zs.length) :
    Calls Tryz.prog 29 #[.pointer (some ⟨b, 0, none⟩), .int .u64 T, .int .i64 N] w fun e w' => ∃ g', e = .returned (.tuple #[.slice (some ⟨g', 0, none⟩) N N, .int .i64 0]) ∧ w'.ownsRow w.heap.size 5 1 (.slice (some ⟨g', 0, none⟩) N N) N (((zs.drop T).take N).map (Value.int .u8)) ∧ Below w.heap.size w w' := by
  have hl := h.len
  go_enter Tryz.func29, Tryz.ntmps29
  go_wp2_with fail
  refine (place_in b g zs T N _ h ho).mono ?_
  rintro e w1 ⟨⟨o, hoT, rfl⟩, hb1⟩
  have hm1 := h.below hb1
  have hsl : SL w1 (some ⟨g, o, none⟩) N ((zs.drop T).take N) := by
    rcases hoT with rfl | rfl
    · simp only [List.take_zero]; exact SL.nil _ _
    · exact hm1.sl o N ho
  go_wp2_with fail
  refine (copied_any _ N N ((zs.drop T).take N) _ hsl (by omega)).mono ?_
  rintro e w2 ⟨g', rfl, hown, hb2⟩
  have hs1 := hb1.size
  have HO : Hid (w2.ownsRow w.heap.size 5 1 (.slice (some ⟨g', 0, none⟩) N N) N (((zs.drop T).take N).map (Value.int .u8))) := by
    obtain ⟨k1, k2, k3⟩ := own_heap hown
    exact own_of_heap k1 k2 (by omega) (by unfold maxLen; omega)
  clear hown
  go_wp2_with fail
  go_ret2
  exact ⟨g', rfl, HO.out, hb1.trans (hb2.mono hb1.size)⟩


theorem rget_gf (G : Nat) (R : Nat → Int) (n : Nat) (hn : n < 12) (w : World) (h : GF w G R) : Calls Tryz.prog 13 #[.pointer (some ⟨G, 0, none⟩), .int .i64 n] w fun e w' => e = .returned (.int .u64 (R n)) ∧ w' = w := by
  obtain ⟨cs, hb, hs, hc⟩ := h.blk
  have c : w.cell? ⟨G, n, none⟩ = some (.int .u64 (R n)) := by rw [C.cell_at hb]; exact hc n hn
  have hl := lt_of_heap hb
  have hn' : (n : Int) < 12 := by omega
  clear hb hc h
  go_enter Tryz.func13, Tryz.ntmps13
  go_wp2_with fail
  go_ret
  exact ⟨rfl, rfl⟩
theorem quiet_conv {P : Program} {C : World → Prop} {a : Act} {o : Oper} {K : Act → Prop} (s t : TypeId) (x : Operand) (h : o.op = .convert s t x) (u v : Value) (hu : a.eval x = u) (hv : ∀ w, C w → (convert s t u).run P w = .ok v w) (hk : K (a.put o.dst v)) : o.quiet P a C K :=
  ⟨v, fun w hw => by
    unfold Oper.quietAt execOp
    rw [h]
    simp only [hu, Sem.run_bind, hv w hw]
    exact ⟨rfl, rfl⟩, hk⟩
set_option maxHeartbeats 4000000 in
theorem same_law (F G B Q b g c h : Nat) (R : Nat → Int) (sec sec2 : Int) (is : Bool) (at_ : Int) (zs : List Int) (zl : zs.length = 3072) (w : World) (hf : C.FF w F R) (hg : GF w G R) (hm : MM w b g zs) (hr : RM w c h zs) (fl : w.heap[B]? = some (.cells (flatV b sec is at_) 53 (0, 0))) (bu : w.heap[Q]? = some (.cells (busV c sec2) 96 (0, 0))) :
    Calls Tryz.prog 11 #[.pointer (some ⟨F, 0, none⟩), .pointer (some ⟨G, 0, none⟩), .pointer (some ⟨B, 0, none⟩), .pointer (some ⟨Q, 0, none⟩)] w fun e w' => e = .returned (.bool true) ∧ Below w.heap.size w w' := by
  have G1 := fun n hn => C.get_ff F R n hn w hf
  have G2 := fun n hn => rget_gf G R n hn w hg
  have c1 : w.cell? ⟨B, 0, none⟩ = some (.pointer (some ⟨b, 0, none⟩)) := by rw [C.cell_at fl]; rfl
  have lB := lt_of_heap fl
  have MB := mbytes_yes b g zs 0 3072 w hm (by omega)
  have E : ((zs.drop 0).take 3072) = zs := by rw [List.drop_zero, ← zl, List.take_length]
  rw [E] at MB
  have HB : Hid (Bytes zs) := hm.bytes
  have HQ : Hid (_) := bu
  have HR : Hid (_) := hr
  clear fl bu hm hr hf hg E
  go_enter Tryz.func11, Tryz.ntmps11
  go_wp2_with fail
  go_loopw [9] (fun i wr => ∃ k : Nat, k ≤ 12 ∧ i = .int .i64 k ∧ wr = w) (fun i _ => 12 - (intOf i).toNat)
  case atStart => exact ⟨0, by omega, rfl, rfl⟩
  case round =>
    obtain ⟨k, hk, rfl, rfl⟩ := hrel
    by_cases hk12 : k < 12
    · have hk' : (k : Int) < 12 := by omega
      go_wp2_with fail
      refine (G1 k hk12).mono ?_
      rintro e w1 ⟨rfl, rfl⟩
      go_wp2_with fail
      refine (G2 k hk12).mono ?_
      rintro e w1 ⟨rfl, rfl⟩
      go_wp2_with fail
      go_roundw
      case rel => exact ⟨k + 1, by omega, by go_num, trivial⟩
      case measure => simp [intOf]; omega
    · have hk' : ¬ (k : Int) < 12 := by omega
      go_wp2_with fail
      refine MB.mono ?_
      rintro e w2 ⟨g', rfl, hown, hb2⟩
      obtain ⟨k1, k2, k3⟩ := own_heap hown
      have s1 : SL w2 (some ⟨g', 0, none⟩) 3072 zs := SL.own hown HB.out
      have r2 := HR.out.below hb2
      have s2 : SL w2 (some ⟨h, 0, none⟩) zs.length zs := r2.slAll
      have v1 := fun n => conv_sl (w := w2.drewN n) 3072 s1
      have v2 := fun n => conv_sl (w := w2.drewN n) zs.length s2
      rw [zl] at v2
      have q2 := keepB HQ.out hb2
      have c2 : w2.cell? ⟨Q, 0, none⟩ = some (.pointer (some ⟨c, 0, none⟩)) := by rw [C.cell_at q2]; rfl
      have c3 : w2.cell? ⟨c, 0, none⟩ = some (.slice (some ⟨h, 0, none⟩) zs.length zs.length) := by rw [C.cell_at r2.cell]; rfl
      have lQ := lt_of_heap q2
      have lc := lt_of_heap r2.cell
      have HE : Hid (_) := str_eq zs zs HB.out HB.out
      have B2 : Hid (_) := hb2
      clear G1 G2 MB hown k1 k2 k3 s1 s2 r2 q2 hb2
      go_wp2_with fail
      refine wp_region_quiet_lit (by kernel_rfl) (by kernel_rfl) ?_
      iterate 4 (go_big_quiet_step (fail))
      go_big_quiet_want
      refine quiet_conv 87 9 _ rfl _ _ rfl (by rintro _ ⟨n, rfl⟩; exact v1 n) ?_
      simp only [Act.put, List.setIfInBounds_toArray, List.set]
      go_big_quiet_on
      iterate 7 (go_big_quiet_step (fail))
      go_big_quiet_want
      refine quiet_conv 87 9 _ rfl _ _ rfl (by rintro _ ⟨n, rfl⟩; exact v2 n) ?_
      simp only [Act.put, List.setIfInBounds_toArray, List.set]
      go_big_quiet_on
      repeat (go_big_quiet_step (fail))
      refine wpQuiet_nil ?_
      rintro _ ⟨nq, rfl⟩
      go_wp2_with fail
      go_ret
      exact ⟨rfl, ⟨B2.out.os, B2.out.tape, B2.out.output, B2.out.size, B2.out.block⟩⟩
end Go.Proofs.YtghpkbgfpagpgaaGreatDoor
namespace Go.Proofs.YtghpkbgfpagpgaaGreatDoor
open Go.RowKit
set_option linter.unusedVariables false
set_option maxRecDepth 20000

/-- the registers alone -/
def regX (X : Nat → Int) : Array Value := #[.int .u64 (X 0), .int .u64 (X 1), .int .u64 (X 2), .int .u64 (X 3), .int .u64 (X 4), .int .u64 (X 5), .int .u64 (X 6), .int .u64 (X 7), .int .u64 (X 8), .int .u64 (X 9), .int .u64 (X 10), .int .u64 (X 11), .int .u64 (X 12), .int .u64 (X 13), .int .u64 (X 14), .int .u64 (X 15)]
theorem regX_at (X : Nat → Int) : ∀ n, n < 16 → (regX X)[n]? = some (.int .u64 (X n)) := fun n hn => by
  match n, hn with
  | 0, _ | 1, _ | 2, _ | 3, _ | 4, _ | 5, _ | 6, _ | 7, _ | 8, _ | 9, _ | 10, _ | 11, _ | 12, _ | 13, _ | 14, _ | 15, _ => rfl
  | k + 16, h => omega
theorem regX_range {w : World} {r : Nat} {X : Nat → Int} {pc m : Int} (h : w.heap[r]? = some (.cells (regC X pc m) 25 (0, 0))) : w.rangeAt r 0 (regX X).toList := fun j v hv => by
  have hv' : (regX X)[j]? = some v := by simpa using hv
  have hj : j < 16 := (Array.getElem?_eq_some_iff.1 hv').1
  rw [Nat.zero_add, C.cell_at h, reg_at X pc m j hj, ← hv', regX_at X j hj]
theorem eq_regX (X : Nat → Int) (w : World) : (Op.equalIn 10000 23 (.agg (regX X)) (.agg (regX X))).run Tryz.prog w = .ok true w := by
  obtain ⟨i, hi⟩ : ∃ i, Tryz.prog.info? 22 = some i := Option.isSome_iff_exists.1 (by kernel_rfl)
  have hc : Tryz.prog.cellsOf 22 = 1 := by kernel_rfl
  have h : (Op.equalIn (9998 + 1 + 1) 23 (.agg (regX X)) (.agg (regX X))).run Tryz.prog w = .ok true w := by
    rw [run_equalIn_array w (9998 + 1) _ _ Tryz.underlying23 hi, hc]
    exact eq_items 9998 _ _ w (fun j hj => ⟨X j, regX_at X j (by simpa using hj)⟩)
  exact h
theorem eqg23 : Tryz.prog.eqGuardType Tryz.prog.depth 23 = false := by kernel_rfl
theorem inf23 : (Tryz.prog.info? 23).map (·.size) = some 16 := by kernel_rfl
theorem und23 : ∃ d, Tryz.prog.underlying 23 = some d ∧ d.isRow = true := ⟨_, Tryz.underlying23, rfl⟩
theorem mem_len (pc : Int) (vs : List Int) (ps : List (Int × Int)) (n k : Nat) : (memW pc vs (memP ps (List.replicate 3072 0) n) k).length = 3072 := by
  rw [memW_len, memP_len]; simp

/-- both behind the step -/
structure HH (W w : World) (F G B Q b g c h : Nat) (R : Nat → Int) (zs : List Int) (sec : Int) (r t : Nat) (p : Pl) (s : Hs) (X0 : Nat → Int) (pc m : Int) : Prop where
  hF : p.F = F
  hB : p.B = B
  hM : p.M = b
  hg : p.g = g
  ow : Ow w p s
  gf : GF w G R
  bu : w.heap[Q]? = some (.cells (busV c sec) 96 (0, 0))
  rm : RM w c h zs
  rr : w.heap[r]? = some (.cells (regC s.X s.pc s.md) 25 (0, 0))
  rt : w.heap[t]? = some (.cells (regC X0 pc m) 25 (0, 0))
  bel : Below W.heap.size W w
theorem HH.below {W w w' : World} {F G B Q b g c h : Nat} {R : Nat → Int} {zs : List Int} {sec : Int} {r t : Nat} {p : Pl} {s : Hs} {X0 : Nat → Int} {pc m : Int} (a : HH W w F G B Q b g c h R zs sec r t p s X0 pc m) (hb : Below w.heap.size w w') : HH W w' F G B Q b g c h R zs sec r t p s X0 pc m :=
  ⟨a.hF, a.hB, a.hM, a.hg, a.ow.below hb, a.gf.keep (hb.block _ a.gf.lt), keepB a.bu hb, a.rm.below hb, keepB a.rr hb, keepB a.rt hb, a.bel.trans (hb.mono a.bel.size)⟩
theorem HH.same {W w : World} {F G B Q b g c h : Nat} {R : Nat → Int} {zs : List Int} {sec : Int} {r t : Nat} {p : Pl} {s : Hs} {X0 : Nat → Int} {pc m : Int} (a : HH W w F G B Q b g c h R zs sec r t p s X0 pc m) (zl : zs.length = 3072) (hR : s.R = R) (hz : s.zs = zs) :
    Calls Tryz.prog 11 #[.pointer (some ⟨F, 0, none⟩), .pointer (some ⟨G, 0, none⟩), .pointer (some ⟨B, 0, none⟩), .pointer (some ⟨Q, 0, none⟩)] w fun e w' => e = .returned (.bool true) ∧ Below w.heap.size w w' := by
  have ff := a.ow.ff
  have fl := a.ow.fl
  have mm := a.ow.mm
  rw [a.hF, hR] at ff
  rw [a.hB, a.hM] at fl
  rw [a.hM, a.hg, hz] at mm
  exact same_law F G B Q b g c h R _ _ _ _ zs zl w ff a.gf mm a.rm fl a.bu
set_option maxHeartbeats 16000000 in
theorem holds_law [E.Bits] {W : World} {cs : Array Value} {X R : Nat → Int} {pc mode sec : Int} {iN wN pN : Nat} {xs : List I5} {ws : List Int} {ps : List (Int × Int)} {ia wa pa : Option Addr} {iC wC pC : Nat} (hG : Given W cs X R pc mode sec iN wN pN xs ws ps ia wa pa iC wC pC) (hz : SZ W) (h1 : 1 < W.heap.size) (hT : ∀ p : Pl, p.o1 = W.heap[1]? → TransOK p TB) (hsec : sec < 9223372036854775808) :
    Calls Tryz.prog 4 #[.agg cs] W fun e W' => e = .returned (.bool true) ∧ Below W.heap.size W W' := by
  obtain ⟨fs31, hu31⟩ := und31
  obtain ⟨fs25, hu25⟩ := und25
  have hb0 : Below W.heap.size W (W.alloc (.cells cs 31)) := (Below.refl _ _).alloc (Nat.le_refl _) _
  have BO := hG.both hz hb0
  have hi31 : (Tryz.prog.info? 31).map (·.size) = some cs.size := by rw [hG.size]; exact inf31
  have hA0 := C.heap_alloc_at W (.cells cs 31)
  obtain ⟨m, hm⟩ : ∃ m, bits .and .i64 mode 1 = m := ⟨_, rfl⟩
  have hm1 : m = 0 ∨ m = 1 := hm ▸ mode_one mode
  have HA0 : Hid ((W.alloc (.cells cs 31)).heap[W.heap.size]? = some (.cells cs 31 (0, 0))) := hA0
  have HB0 : Hid (_) := hb0
  have HG : Hid (_) := hG
  have HZ : Hid (_) := hz
  have HT : Hid (_) := hT
  clear hz hG hb0 hA0 hT
  go_enter Tryz.func4, Tryz.ntmps4
  go_wp2_with (first | refine wpList_load_row rfl 31 _ rfl W.heap.size rfl 31 cs (0, 0) _ HA0.out hu31 rfl hi31 ?_ | fail)
  refine BO.mono ?_
  rintro e x1 ⟨b, g, c, h, F, G, B, Q, rfl, md1⟩
  have hA1 : x1.heap[W.heap.size]? = some (.cells cs 31 (0, 0)) := keepB HA0.out md1.bl
  have H1 : Hid (Below W.heap.size W x1) := HB0.out.trans (md1.bl.mono (by simp))
  have HM1 : Hid (_) := md1
  have hl1 := lt_of_heap hA1
  obtain ⟨rs, rX, hrg⟩ := HG.out.regs
  have hR1 : Hid (x1.rangeAt W.heap.size 0 (regC X pc mode).toList) := hrg _ _ hA1
  have rr1 := reg_one X pc mode
  have rr2 := reg_one (zeroX X) pc m
  clear BO md1 HA0 HB0 hrg rX hA1
  go_upto_region 7 with (first
    | refine wpList_load_mid rfl 25 _ rfl W.heap.size 0 rfl _ _ hR1.out hu25 rfl inf25 ?_
    | (refine wpList_store_row rfl 25 _ _ rfl x1.heap.size (regC X pc mode) rfl rfl 25 _ (C.heap_alloc_at x1 _) inf25 rfl rr1 ?_
       have nr := fun old => new_row x1 old (regC X pc mode) 25
       generalize hy1 : World.setRow _ _ _ = y1
       obtain ⟨n1, n2, n3⟩ : y1.heap[x1.heap.size]? = some (.cells (regC X pc mode) 25 (0, 0)) ∧ Below x1.heap.size x1 y1 ∧ y1.heap.size = x1.heap.size + 1 := by rw [← hy1]; exact nr _
       have c17 : y1.cell? ⟨x1.heap.size, 17, none⟩ = some (.int .i64 mode) := by rw [C.cell_at n1]; rfl
       have c0 : y1.cell? ⟨x1.heap.size, 0, none⟩ = some (.int .u64 (X 0)) := by rw [C.cell_at n1]; rfl
       have f17 : y1.frozen? ⟨x1.heap.size, 17, none⟩ = false := by simp [World.frozen?, n1]
       have f0 : y1.frozen? ⟨x1.heap.size, 0, none⟩ = false := by simp [World.frozen?, n1]
       have l17 : x1.heap.size < y1.heap.size := by omega
       have N1 : Hid (y1.heap[x1.heap.size]? = some (.cells (regC X pc mode) 25 (0, 0))) := n1
       have N2 : Hid (Below x1.heap.size x1 y1) := n2
       clear nr hy1 n1 n2)
    | fail)
  have r0 := (set_bus (o := 0) (v := .int .u64 0) (set_bus (o := 17) (v := .int .i64 m) N1.out).1).1
  have b0 : Below x1.heap.size x1 ((y1.setCell ⟨x1.heap.size, 17, none⟩ (.int .i64 m)).setCell ⟨x1.heap.size, 0, none⟩ (.int .u64 0)) := (N2.out.setCell (p := ⟨x1.heap.size, 17, none⟩) (Nat.le_refl _) _).setCell (p := ⟨x1.heap.size, 0, none⟩) (Nat.le_refl _) _
  have s0 : ((y1.setCell ⟨x1.heap.size, 17, none⟩ (.int .i64 m)).setCell ⟨x1.heap.size, 0, none⟩ (.int .u64 0)).heap.size = x1.heap.size + 1 := by simp [n3]
  have r0' : ((y1.setCell ⟨x1.heap.size, 17, none⟩ (.int .i64 m)).setCell ⟨x1.heap.size, 0, none⟩ (.int .u64 0)).heap[x1.heap.size]? = some (.cells (regC (zeroX X) pc m) 25 (0, 0)) := r0.trans rfl
  generalize (y1.setCell ⟨x1.heap.size, 17, none⟩ (.int .i64 m)).setCell ⟨x1.heap.size, 0, none⟩ (.int .u64 0) = z1 at *
  have R0 : Hid (z1.heap[x1.heap.size]? = some (.cells (regC (zeroX X) pc m) 25 (0, 0))) := r0'
  have B0 : Hid (Below x1.heap.size x1 z1) := b0
  have hz1 := C.heap_alloc_at z1
  rw [s0] at hz1
  clear r0 b0 r0' N1 N2 c17 c0 f17 f0 l17 n3 rr1
  go_wp2_with (first
    | refine wpList_load_row rfl 25 _ rfl x1.heap.size rfl 25 (regC (zeroX X) pc m) (0, 0) _ R0.out hu25 rfl inf25 ?_
    | (refine wpList_store_row rfl 25 _ _ rfl (x1.heap.size + 1) (regC (zeroX X) pc m) rfl rfl 25 _ (hz1 _) inf25 rfl rr2 ?_
       have nr := fun old => new_row z1 old (regC (zeroX X) pc m) 25
       rw [s0] at nr
       generalize hy2 : World.setRow _ _ _ = y2
       obtain ⟨n1, n2, n3⟩ : y2.heap[x1.heap.size + 1]? = some (.cells (regC (zeroX X) pc m) 25 (0, 0)) ∧ Below (x1.heap.size + 1) z1 y2 ∧ y2.heap.size = x1.heap.size + 1 + 1 := by rw [← hy2]; exact nr _
       have M1 : Hid (y2.heap[x1.heap.size]? = some (.cells (regC (zeroX X) pc m) 25 (0, 0))) := (n2.block _ (by omega)).trans R0.out
       have M2 : Hid (y2.heap[x1.heap.size + 1]? = some (.cells (regC (zeroX X) pc m) 25 (0, 0))) := n1
       have M3 : Hid (Below x1.heap.size x1 y2) := B0.out.trans (n2.mono (by omega))
       clear nr hy2 n1 n2 hz1)
    | fail)
  have md := HM1.out
  have hs1 := H1.out.size
  obtain ⟨u0, u1⟩ := md.o0
  simp only [World.size_alloc] at u0 u1
  obtain ⟨u2, u3, u4, u5⟩ := md.o1
  obtain ⟨u6, u7⟩ := md.o2
  have u8 := md.o3
  obtain ⟨u9, u10, u11⟩ := md.o4
  have e1 : x1.heap[1]? = W.heap[1]? := H1.out.block 1 h1
  have zl := mem_len pc (ws ++ xs.map I5.enc) ps pN (wN + iN)
  generalize memW pc (ws ++ xs.map I5.enc) (memP ps (List.replicate 3072 0) pN) (wN + iN) = zs at md zl HM1
  have ow1 := made_ow md (by simp <;> omega) (HZ.out.below H1.out) (zeroX X) (zero_U HG.out.hX) rfl pc m HG.out.hpc hm1 hsec
  rw [e1] at ow1
  have lts := ow1.lt
  have ow2 := ow1.below M3.out
  obtain ⟨p, hp⟩ : ∃ p : Pl, (⟨0, F, B, b, g, W.heap[1]?⟩ : Pl) = p := ⟨_, rfl⟩
  have hpF : p.F = F := by rw [← hp]
  have hpB : p.B = B := by rw [← hp]
  have hpM : p.M = b := by rw [← hp]
  have hpg : p.g = g := by rw [← hp]
  have hpo : p.o1 = W.heap[1]? := by rw [← hp]
  rw [hp] at ow2 lts
  have hOr : Ow.Off p x1.heap.size := ⟨by omega, by omega, by omega, by omega, by omega⟩
  have hTB := HT.out p hpo
  have ST := step_of p ⟨zeroX X, pc, m, R, zs, sec, false, 0, 0, 0, 0, 0, 0, 0⟩ (zeroX X) (fun _ _ _ => rfl) x1.heap.size hOr _ (fun S => do_hw { p with S := S } TB (HT.out _ hpo) _ hm1) y2 ow2 M1.out
  have GD := gg_do (T := TB) hTB.c (⟨zeroX X, pc, m, R, zs, sec, false, 0, 0, 0, 0, 0, 0, 0⟩ : Hs).fresh hm1
  obtain ⟨ρ, hρ⟩ : ∃ ρ, ((⟨zeroX X, pc, m, R, zs, sec, false, 0, 0, 0, 0, 0, 0, 0⟩ : Hs).fresh.doP TB).1 = ρ := ⟨_, rfl⟩
  obtain ⟨s', hs'⟩ : ∃ s', ((⟨zeroX X, pc, m, R, zs, sec, false, 0, 0, 0, 0, 0, 0, 0⟩ : Hs).fresh.doP TB).2 = s' := ⟨_, rfl⟩
  have GT := GD.two
  have GO := GD.one
  have GN := GD.nil
  have GL := GD.lo
  rw [hρ, hpF, hpB, hs'] at ST
  rw [hρ, hs'] at GT GO GN
  rw [hρ] at GL
  refine ST.mono ?_
  rintro e w3 ⟨rfl, o3, r3, t3⟩
  have hw3 := t3.size
  have lR := md.rm.blt
  have lRg := md.rm.glt
  have lG := md.gf.lt
  have lQ := lt_of_heap md.bu
  have kp : ∀ k, k < x1.heap.size → k ≠ p.F → k ≠ p.B → k ≠ p.g → w3.heap[k]? = x1.heap[k]? := fun k hk a1 a2 a3 => (t3.block k (by omega) (by omega) a1 a2 a3).trans (M3.out.block k hk)
  have GF3 : GF w3 G R := md.gf.keep (kp G lG (by omega) (by omega) (by omega))
  have bu3 : w3.heap[Q]? = some (.cells (busV c sec) 96 (0, 0)) := (kp Q lQ (by omega) (by omega) (by omega)).trans md.bu
  have RM3 : RM w3 c h zs := ⟨(kp c lR (by omega) (by omega) (by omega)).trans md.rm.cell, (kp h lRg (by omega) (by omega) (by omega)).trans md.rm.row, md.rm.ne, md.rm.bytes, md.rm.pos, md.rm.len⟩
  have W3 : w3.heap[x1.heap.size + 1]? = some (.cells (regC (zeroX X) pc m) 25 (0, 0)) := (t3.block _ (by omega) (by omega) (by omega) (by omega) (by omega)).trans M2.out
  have H3 : Below W.heap.size W w3 := ts_below (H1.out.trans (M3.out.mono hs1)) t3 (by omega) (by omega) (by omega) (by omega)
  have HS : Hid (HH W w3 F G B Q b g c h R zs sec x1.heap.size (x1.heap.size + 1) p s' (zeroX X) pc m) := ⟨hpF, hpB, hpM, hpg, o3, GF3, bu3, RM3, r3, W3, H3⟩
  clear ST o3 r3 t3 kp GF3 bu3 RM3 W3 H3 ow1 ow2 md M1 M2 M3 HM1 R0 B0 hR1 GD HT HZ HG hTB lts hOr u0 u1 u2 u3 u4 u5 u6 u7 u8 u9 u10 u11 e1 H1
  have b4 := below_box w3 (.cells (resC ρ) 41)
  have a4 := C.heap_alloc_at w3 (.cells (resC ρ) 41)
  dsimp only [Rs.val, resV]
  unfold resC at b4 a4
  go_upto_region 11 with fail
  have hs4 := HS.out.below b4
  generalize w3.alloc (.cells #[.int .i64 ρ.k, .int .i64 ρ.c, .int .u64 ρ.v, .int .u64 ρ.g, .bool ρ.fe, .bool ρ.ti] 41) = w4 at *
  have q0 : w4.cell? ⟨w3.heap.size, 0, none⟩ = some (.int .i64 ρ.k) := by rw [C.cell_at a4]; rfl
  have q1 : w4.cell? ⟨w3.heap.size, 1, none⟩ = some (.int .i64 ρ.c) := by rw [C.cell_at a4]; rfl
  have q4 : w4.cell? ⟨w3.heap.size, 4, none⟩ = some (.bool ρ.fe) := by rw [C.cell_at a4]; rfl
  have q5 : w4.cell? ⟨w3.heap.size, 5, none⟩ = some (.bool ρ.ti) := by rw [C.cell_at a4]; rfl
  have lN := lt_of_heap a4
  have HS4 : Hid (_) := hs4
  have lr := lt_of_heap hs4.rr
  have lt := lt_of_heap hs4.rt
  clear a4 b4 HS hs4
  by_cases hk2 : 2 ≤ ρ.k
  · have sim := GT hk2
    clear GT GO GN q1 q4 q5
    have k3 := HS4.out.rr
    rw [sim.X, sim.pc, sim.md] at k3
    have SM := HS4.out.same zl sim.R sim.zs
    have k3' : w4.rangeAt x1.heap.size 0 (regC (zeroX X) pc m).toList := range_of k3
    have k4' := range_of HS4.out.rt
    have ER := eq_regs (regC (zeroX X) pc m) (zeroX X) pc m (reg_at (zeroX X) pc m) rfl rfl
    have HB : Hid (Below W.heap.size W w4) := HS4.out.bel
    clear k3 sim HS4
    go_wp2_with (first
      | refine wpList_load_at rfl 25 _ rfl _ 0 rfl _ _ k3' hu25 rfl inf25 ?_
      | refine wpList_load_at rfl 25 _ rfl _ 0 rfl _ _ k4' hu25 rfl inf25 ?_
      | refine wpList_eql_agg rfl 25 _ _ rfl _ _ rfl rfl Tryz.eqGuardType25 true (ER _) ?_
      | fail)
    refine SM.mono ?_
    rintro e w5 ⟨rfl, b5⟩
    go_wp2_with fail
    go_ret
    exact ⟨rfl, HB.out.trans (b5.mono HB.out.size)⟩
  · by_cases hk1 : ρ.k = 1
    · obtain ⟨gX, gm, gc⟩ := GO hk1
      clear GT GO GN q4 q5
      have k3 := HS4.out.rr
      rw [gX, gm] at k3
      have c17 : w4.cell? ⟨x1.heap.size, 17, none⟩ = some (.int .i64 1) := by rw [C.cell_at k3]; rfl
      have k3' : w4.rangeAt x1.heap.size 0 (regX (zeroX X)).toList := regX_range k3
      have k4' : w4.rangeAt (x1.heap.size + 1) 0 (regX (zeroX X)).toList := regX_range HS4.out.rt
      have ER := eq_regX (zeroX X)
      obtain ⟨d23, hu23, hr23⟩ := und23
      have HB : Hid (Below W.heap.size W w4) := HS4.out.bel
      rw [hk1] at q0
      clear k3 HS4 gX gm
      have hi23 : (Tryz.prog.info? 23).map (·.size) = some (regX (zeroX X)).toList.length := inf23
      go_upto_region 14 with fail
      have HK3 : Hid (_) := k3'
      have HK4 : Hid (_) := k4'
      have HER : Hid (∀ w, (Op.equalIn 10000 23 (.agg (regX (zeroX X))) (.agg (regX (zeroX X)))).run Tryz.prog w = .ok true w) := ER
      clear k3' k4' ER
      generalize regX (zeroX X) = rc at *
      by_cases hc : ρ.c = 0
      · rw [hc] at q1
        go_wp2_with (first
          | refine wpList_load_at rfl 23 _ rfl _ 0 rfl rc.toList _ HK3.out hu23 hr23 hi23 ?_
          | refine wpList_load_at rfl 23 _ rfl _ 0 rfl rc.toList _ HK4.out hu23 hr23 hi23 ?_
          | refine wpList_eql_agg rfl 23 _ _ rfl rc rc rfl rfl eqg23 true (HER.out _) ?_
          | fail)
        go_ret
        exact ⟨rfl, HB.out⟩
      · have hc' : 0 < ρ.c := by omega
        generalize ρ.c = cc at *
        generalize Value.agg (regC X pc mode) = g1
        generalize Value.agg (regC (zeroX X) pc m) = g2
        generalize Value.agg cs = g3
        iterate 45 (first
          | refine wpList_load_at rfl 23 _ rfl _ 0 rfl rc.toList _ HK3.out hu23 hr23 hi23 ?_
          | refine wpList_load_at rfl 23 _ rfl _ 0 rfl rc.toList _ HK4.out hu23 hr23 hi23 ?_
          | refine wpList_eql_agg rfl 23 _ _ rfl rc rc rfl rfl eqg23 true (HER.out _) ?_
          | go_values | go_skip | go_guarded | go_step | go_upon | go_back)
        rename_i hK
        refine hK _ _ ?_
        go_skip
        go_wp2_with fail
        go_ret
        exact ⟨rfl, HB.out⟩
    · have hk0 : ρ.k = 0 := by omega
      clear GT GO
      have d17 : w4.cell? ⟨x1.heap.size + 1, 17, none⟩ = some (.int .i64 m) := by rw [C.cell_at HS4.out.rt]; rfl
      rw [hk0] at q0
      by_cases hm0 : m = 0
      · obtain ⟨gR, gm, gf, gt⟩ := GN hk0 hm0
        have c17 : w4.cell? ⟨x1.heap.size, 17, none⟩ = some (.int .i64 0) := by rw [C.cell_at HS4.out.rr, gm]; rfl
        rw [gf] at q4
        rw [gt] at q5
        rw [hm0] at d17
        have ff := HS4.out.ow.ff
        rw [HS4.out.hF, gR] at ff
        have G1 := fun n hn => C.get_ff F R n hn w4 ff
        have G2 := fun n hn => rget_gf G R n hn w4 HS4.out.gf
        have HB : Hid (Below W.heap.size W w4) := HS4.out.bel
        clear GN HS4 ff q1 gR gm
        go_wp2_with fail
        go_loopw [12] (fun i wr => ∃ k : Nat, k ≤ 12 ∧ i = .int .i64 k ∧ wr = w4) (fun i _ => 12 - (intOf i).toNat)
        case atStart => exact ⟨0, by omega, rfl, rfl⟩
        case round =>
          obtain ⟨k, hk, rfl, rfl⟩ := hrel
          by_cases hk12 : k < 12
          · have hk' : (k : Int) < 12 := by omega
            go_wp2_with fail
            refine (G1 k hk12).mono ?_
            rintro e w1 ⟨rfl, rfl⟩
            go_wp2_with fail
            refine (G2 k hk12).mono ?_
            rintro e w1 ⟨rfl, rfl⟩
            go_wp2_with fail
            go_roundw
            case rel => exact ⟨k + 1, by omega, by go_num, trivial⟩
            case measure => simp [intOf]; omega
          · have hk' : ¬ (k : Int) < 12 := by omega
            go_wp2_with fail
            go_ret
            exact ⟨rfl, HB.out⟩
      · have HB : Hid (Below W.heap.size W w4) := HS4.out.bel
        clear GN HS4 q1 q4 q5
        go_wp2_with fail
        go_ret
        exact ⟨rfl, HB.out⟩
end Go.Proofs.YtghpkbgfpagpgaaGreatDoor
