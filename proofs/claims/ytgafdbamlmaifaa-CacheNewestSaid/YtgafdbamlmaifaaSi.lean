/-
  What leave drops: its contract.
-/
import Derived.Test.YtgafdbamlmaifaaSh
import Derived.Deep.DeepCutAuto
namespace Go.Proofs.Ytgafdbamlmaifaa.S
open Go.RowKit Go.Maps
set_option linter.unusedVariables false
set_option maxRecDepth 20000

theorem leave_end {B b room m g c cb : Nat} {os fs : List Pl} {M : Pl → Option Value} {f : FuncId} {caps : Array Value} {obj : Obj} {w WD x1 : World} (hC : CC B w b room m (.slice (some ⟨g, 0, none⟩) os.length c) os M) (P : Pl → Bool) (hfs : fs = os.filter (fun p => !P p))
    (hbD : Below w.heap.size w WD) (hr1 : Row x1 g c fs.length (fun k => fs.getD k p0)) (hL1 : LS w.heap.size cb obj f caps b room m (.slice (some ⟨g, 0, none⟩) os.length c) os.length (fun i => os.getD i p0) P M os.length x1) (ht1 : Trn (fun k => k = g ∨ k = m) WD x1) :
    CC B (x1.setCell ⟨b, 2, none⟩ (.slice (some ⟨g, 0, none⟩) fs.length c)) b room m (.slice (some ⟨g, 0, none⟩) fs.length c) (os.filter (fun p => !P p)) (Ml P M) ∧
      Turn w (x1.setCell ⟨b, 2, none⟩ (.slice (some ⟨g, 0, none⟩) fs.length c)) b m (.slice (some ⟨g, 0, none⟩) os.length c) (.slice (some ⟨g, 0, none⟩) fs.length c) := by
  obtain ⟨o1, o2⟩ := hL1.ob.set (.slice (some ⟨g, 0, none⟩) fs.length c)
  have hgb : g ≠ b := fun e => hC.gb (by rw [← e]; rfl)
  have hgB : B ≤ g := (hC.ord.lt g rfl).1
  subst hfs
  refine ⟨hC.left P o1 ((hL1.mp.keep (gr_keep o2 hL1.mp.lt (fun e => hC.bm e.symm))).congr (by rw [kept_is]; simp) (fun q hq => ?_)) (.inr ⟨g, c, rfl, hgB, hr1.keep (gr_keep o2 hr1.lt hgb)⟩) (fun k hk => hk), ?_⟩
  · unfold Mj Ml
    rw [any_of_mem]
    by_cases hin : q ∈ os
    · simp [hin]
    · have hn : M q = none := by
        cases e : M q with
        | none => rfl
        | some x => exact absurd ((hC.inn q hq).1 (by simp [e])) hin
      simp [hin, hn]
  · refine ⟨⟨(o2.os.trans ht1.os).trans hbD.os, (o2.tape.trans ht1.tape).trans hbD.tape, (o2.output.trans ht1.output).trans hbD.output, Nat.le_trans hbD.size (Nat.le_trans ht1.size o2.size), fun k hk hn => ?_⟩, fun k hk => .inl hk⟩
    have hkg : k ≠ g := fun e => hn (.inr (.inr (by rw [e]; rfl)))
    have hs := hbD.size
    have hs1 := ht1.size
    exact (gr_keep o2 (by omega) (fun e => hn (.inl e))).trans ((ht1.block k (by omega) (fun h => by
      rcases h with h | h
      · exact hkg h
      · exact hn (.inr (.inl h)))).trans (hbD.block k hk))

set_option maxHeartbeats 1600000 in
theorem leave_core (a : Option Addr) (n nf c b : Nat) (f : Value) (Fin : World → Prop) (w : World) (hn : n ≤ 1024) (hnf : nf ≤ n) (hbl : b < w.heap.size) (c2 : w.cell? ⟨b, 2, none⟩ = some (.slice a n c)) (hf : f.oneCell' = true)
    (C : Calls Try.prog 52 #[.slice a n c, .func (.func 53) #[] #[.pointer (some ⟨w.heap.size + 1, 0, none⟩), .pointer (some ⟨w.heap.size, 0, none⟩)]] ((w.alloc (.cells #[.pointer (some ⟨b, 0, none⟩)] 51)).alloc (.cells #[f] 87)).drew
      fun e x => e = .returned (.slice a nf c) ∧ x.cell? ⟨w.heap.size, 0, none⟩ = some (.pointer (some ⟨b, 0, none⟩)) ∧ x.frozen? ⟨b, 2, none⟩ = false ∧ x.cell? ⟨b, 2, none⟩ = some (.slice a n c) ∧ b < x.heap.size ∧ Hid (Fin (x.setCell ⟨b, 2, none⟩ (.slice a nf c)))) :
    Calls Try.prog 39 #[.pointer (some ⟨b, 0, none⟩), f] w fun e w' => e = .returned (.int .i64 ((n : Int) - (nf : Int))) ∧ Fin w' := by
  have hAb : w.heap.size ≠ b := by omega
  go_enter Try.func39, Try.ntmps39
  go_wp2_with fail
  go_cut [5] (fun q wx => q = .int .i64 n ∧ wx.cell? ⟨w.heap.size, 0, none⟩ = some (.pointer (some ⟨b, 0, none⟩)) ∧ wx.cell? ⟨b, 2, none⟩ = some (.slice a nf c) ∧ b < wx.heap.size ∧ Hid (Fin wx))
  case first =>
    go_region_with ((refine C.mono ?_; rintro e x1 ⟨rfl, S1, fz, k2, hbx, HY⟩))
    all_goals
      go_wp2_with fail
      go_meet
      exact ⟨rfl, (World.cell?_setCell_other _ _ _ _ (by simp [])).trans S1, World.cell?_setCell_same _ _ _ k2, by simpa using hbx, HY⟩
  case rest =>
    obtain ⟨rfl, S1, k2, hbx, HY⟩ := hcut
    clear C
    go_wp2_with fail
    go_ret
    exact ⟨ret_int (by simp), HY.out⟩

set_option maxHeartbeats 1600000 in
theorem leave_any (B b room m : Nat) (v : Value) (os : List Pl) (M : Pl → Option Value) (f : FuncId) (caps : Array Value) (cb : Nat) (obj : Obj) (P : Pl → Bool) (w : World)
    (hC : CC B w b room m v os M) (F : Means f caps cb obj P) (hcb : w.heap[cb]? = some obj) (cbm : cb ≠ m) (cbg : v.ownBlock ≠ some cb) :
    Calls Try.prog 39 #[.pointer (some ⟨b, 0, none⟩), .func (.func f) #[] caps] w fun e w' => e = .returned (.int .i64 ((os.length : Int) - ((os.filter (fun p => !P p)).length : Int))) ∧
      ∃ v', CC B w' b room m v' (os.filter (fun p => !P p)) (Ml P M) ∧ Turn w w' b m v v' := by
  have hbl := hC.ob.lt
  have hlen := hC.len
  have hrm := hC.room2
  have hfl := List.length_filter_le (fun p => !P p) os
  have hb0 : Below w.heap.size w (((w.alloc (.cells #[.pointer (some ⟨b, 0, none⟩)] 51)).alloc (.cells #[.func (.func f) #[] caps] 87))) := ((Below.refl _ _).alloc (Nat.le_refl _) _).alloc (by simp) _
  have hbD := hb0.drew
  have hC1 := hC.below hbD
  have c2 := hC.ob.c2
  have a0 : ((w.alloc (.cells #[.pointer (some ⟨b, 0, none⟩)] 51)).alloc (.cells #[.func (.func f) #[] caps] 87)).drew.heap[w.heap.size]? = some (.cells #[.pointer (some ⟨b, 0, none⟩)] 51 (0, 0)) :=
    (heap_alloc_past (w.alloc _) _ (k := w.heap.size) (by simp)).trans (heap_alloc_at w _)
  have a1 : ((w.alloc (.cells #[.pointer (some ⟨b, 0, none⟩)] 51)).alloc (.cells #[.func (.func f) #[] caps] 87)).drew.heap[w.heap.size + 1]? = some (.cells #[.func (.func f) #[] caps] 87 (0, 0)) := by
    have := heap_alloc_at (w.alloc (.cells #[.pointer (some ⟨b, 0, none⟩)] 51)) (.cells #[.func (.func f) #[] caps] 87)
    simpa [World.drew] using this
  have hml := hC.mp.lt
  obtain ⟨WD, HWD⟩ : ∃ WD, Hid (WD = ((w.alloc (.cells #[.pointer (some ⟨b, 0, none⟩)] 51)).alloc (.cells #[.func (.func f) #[] caps] 87)).drew) := ⟨_, rfl⟩
  have hsz : WD.heap.size = w.heap.size + 2 := by rw [HWD.out]; simp
  rw [← HWD.out] at hbD hC1 a0 a1
  rcases hC.ord with ⟨rfl, rfl⟩ | ⟨g, c, rfl, hgB, hrow⟩
  · have cA : WD.cell? ⟨w.heap.size, 0, none⟩ = some (.pointer (some ⟨b, 0, none⟩)) := by rw [cell_at a0]; rfl
    have C := deleteFunc_nil 53 #[.pointer (some ⟨w.heap.size + 1, 0, none⟩), .pointer (some ⟨w.heap.size, 0, none⟩)] WD
    obtain ⟨o1, o2⟩ := hC1.ob.set (.slice none 0 0)
    have HY : (CC B (WD.setCell ⟨b, 2, none⟩ (.slice none 0 0)) b room m (.slice none 0 0) ([].filter (fun p => !P p)) (Ml P M) ∧ Turn w (WD.setCell ⟨b, 2, none⟩ (.slice none 0 0)) b m (.slice none 0 0) (.slice none 0 0)) := by
      refine ⟨hC.left P o1 ((hC1.mp.keep (gr_keep o2 hC1.mp.lt (fun e => hC.bm e.symm))).congr rfl (fun q hq => ?_)) (.inl ⟨rfl, rfl⟩) (fun k hk => hk), ?_⟩
      · unfold Ml
        have hn : M q = none := by
          cases e : M q with
          | none => rfl
          | some x => exact absurd ((hC.inn q hq).1 (by simp [e])) (by simp)
        simp [hn]
      · refine ⟨⟨o2.os.trans hbD.os, o2.tape.trans hbD.tape, o2.output.trans hbD.output, Nat.le_trans hbD.size o2.size, fun k hk hn => ?_⟩, fun k hk => .inl hk⟩
        exact (gr_keep o2 (by omega) (fun e => hn (.inl e))).trans (hbD.block k hk)
    refine leave_core none 0 0 0 b (.func (.func f) #[] caps) _ w (by omega) (by omega) hbl c2 rfl ?_
    rw [← HWD.out]
    exact C.mono fun e x ⟨he, hx⟩ => by
      subst hx
      exact ⟨he, cA, hC1.ob.f 2, hC1.ob.c2, hC1.ob.lt, _, HY⟩
  · have hgl := hrow.lt
    have hgb : g ≠ b := fun e => hC.gb (by rw [← e]; rfl)
    have hgm : g ≠ m := fun e => hC.gm (by rw [← e]; rfl)
    have hgc : g ≠ cb := fun e => cbg (by rw [← e]; rfl)
    have hcl := lt_of_heap hcb
    have hrow1 : Row WD g c os.length (fun i => os.getD i p0) := hrow.keep (hbD.block g hgl)
    have D := dels_of b room m g c cb w.heap.size os M f caps obj P F hgb hgm hgc hgl hbl hml hcl cbm hC.bm hC.ps hC.nd hC.inn
    have hL0 : LS w.heap.size cb obj f caps b room m (.slice (some ⟨g, 0, none⟩) os.length c) os.length (fun i => os.getD i p0) P M 0 WD :=
      ⟨(hbD.block cb hcl).trans hcb, a0, a1, hC1.ob, by rw [Mj_zero]; exact hC1.mp.congr (by simp [keptL]) (fun _ _ => rfl)⟩
    have C := deleteFunc_any 53 _ _ m g os.length c _ P _ WD D hrow1 hL0 (by omega)
    rw [kept_is] at C
    refine leave_core (some ⟨g, 0, none⟩) os.length (os.filter (fun p => !P p)).length c b (.func (.func f) #[] caps) _ w (by omega) hfl hbl c2 rfl ?_
    rw [← HWD.out]
    exact C.mono fun e x ⟨he, hr1, hL1, ht1⟩ => ⟨he, by rw [cell_at hL1.a0]; rfl, hL1.ob.f 2, hL1.ob.c2, hL1.ob.lt, _, leave_end hC P rfl hbD hr1 hL1 ht1⟩
end Go.Proofs.Ytgafdbamlmaifaa.S
