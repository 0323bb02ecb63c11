/-
  What leave drops.
-/
import Derived.Test.YtgafdbamlmaifaaSg
import Derived.Deep.RegionHeld
namespace Go.Proofs.Ytgafdbamlmaifaa.S
open Go.RowKit Go.Maps
set_option linter.unusedVariables false
set_option maxRecDepth 20000

theorem kept_is (P : Pl → Bool) (os : List Pl) : keptL (fun i => os.getD i p0) P os.length = os.filter (fun p => !P p) := by
  unfold keptL
  congr 1
  apply List.ext_getElem (by simp)
  intro i h1 h2
  simp [h2]
theorem Ob.set {w : World} {b room m : Nat} {v : Value} (h : Ob w b room m v) (v' : Value) : Ob (w.setCell ⟨b, 2, none⟩ v') b room m v' ∧ w.grownBy (w.setCell ⟨b, 2, none⟩ v') (some b) := by
  unfold Ob at *
  rw [setCell_eq_setRow w b 2 _ 80 (0, 0) v' h]
  refine ⟨setRow_heap w b _ _ 80 _ h, ⟨rfl, rfl, rfl, by simp [World.setRow], fun k hk hne => setRow_other w b k _ (fun e => hne (by rw [e]))⟩⟩
theorem MapIs.congr {w : World} {m N N' : Nat} {M M' : Pl → Option Value} (h : MapIs w m N M) (hN : N = N') (hM : ∀ p : Pl, p.W → M p = M' p) : MapIs w m N' M' := by
  obtain ⟨D, h1, h2, h3⟩ := h
  subst hN
  exact ⟨D, h1, h2, fun p hp => hM p hp ▸ h3 p hp⟩

/-- what leave leaves -/
def Ml (P : Pl → Bool) (M : Pl → Option Value) : Pl → Option Value := fun q => if P q then none else M q
theorem CC.left {B : Nat} {w w' : World} {b room m : Nat} {v v' : Value} {os : List Pl} {M : Pl → Option Value} (h : CC B w b room m v os M) (P : Pl → Bool)
    (hob : Ob w' b room m v') (hmp : MapIs w' m (os.filter (fun p => !P p)).length (Ml P M)) (hord : Ord B w' v' (os.filter (fun p => !P p))) (hv : ∀ k, v'.ownBlock = some k → v.ownBlock = some k) :
    CC B w' b room m v' (os.filter (fun p => !P p)) (Ml P M) := by
  refine ⟨hob, hmp, hord, h.bB, h.mB, h.bm, fun e => h.gb (hv _ e), fun e => h.gm (hv _ e), fun p hp => h.ps p (List.mem_filter.1 hp).1, h.nd.filter _, fun p hp => ?_, h.room1, h.room2, Nat.le_trans (List.length_filter_le _ _) h.len⟩
  unfold Ml
  cases e : P p
  · simp [h.inn p hp, e]
  · simp [e]
theorem any_of_mem {os : List Pl} {q : Pl} : (List.range os.length).any (fun k => decide (os.getD k p0 = q)) = decide (q ∈ os) := by
  by_cases h : q ∈ os
  · obtain ⟨i, hi, rfl⟩ := List.getElem_of_mem h
    simp only [decide_eq_true h, List.any_eq_true, List.mem_range, decide_eq_true_eq]
    exact ⟨i, hi, by simp [hi]⟩
  · simp only [decide_eq_false h, List.any_eq_false, List.mem_range, decide_eq_true_eq]
    intro i hi e
    apply h
    rw [← e]
    simp [hi]

theorem dels_of (b room m g c cb A : Nat) (os : List Pl) (M : Pl → Option Value) (f : FuncId) (caps : Array Value) (obj : Obj) (P : Pl → Bool) (F : Means f caps cb obj P)
    (hgb : g ≠ b) (hgm : g ≠ m) (hgc : g ≠ cb) (hgA : g < A) (hbA : b < A) (hmA : m < A) (hcA : cb < A) (cbm : cb ≠ m) (bm : b ≠ m) (ps : ∀ p ∈ os, p.W) (nd : os.Nodup) (inn : ∀ p : Pl, p.W → ((M p).isSome = true ↔ p ∈ os)) :
    Dels 53 #[.pointer (some ⟨A + 1, 0, none⟩), .pointer (some ⟨A, 0, none⟩)] (A + 2) m g os.length (fun i => os.getD i p0) P (LS A cb obj f caps b room m (.slice (some ⟨g, 0, none⟩) os.length c) os.length (fun i => os.getD i p0) P M) := by
  refine ⟨fun _ _ => (by kernel_rfl), by omega, fun e => hgm e.symm, fun j w1 w2 hL hk => ?_, fun j w1 hj hL hN => ?_⟩
  · exact ⟨(hk cb (by omega) (fun e => hgc e.symm)).trans hL.cap, (hk _ (by omega) (by omega)).trans hL.a0, (hk _ (by omega) (by omega)).trans hL.a1, hL.ob.keep (hk b (by omega) (fun e => hgb e.symm)), hL.mp.keep (hk m (by omega) (fun e => hgm e.symm))⟩
  · have hmem : os.getD j p0 ∈ os := by simp [hj]
    have hn : (List.range j).any (fun k => decide (os.getD k p0 = os.getD j p0)) = false := by
      simp only [List.any_eq_false, List.mem_range, decide_eq_true_eq]
      intro k hk e
      have hkl : k < os.length := by omega
      simp only [List.getD, List.getElem?_eq_getElem hkl, List.getElem?_eq_getElem hj, Option.getD_some] at e
      exact List.pairwise_iff_getElem.1 nd k j hkl hj hk e
    have hin : (Mj (fun i => os.getD i p0) P M j (os.getD j p0)).isSome = true := by
      simp only [Mj, hn, Bool.false_and, Bool.false_eq_true, if_false]
      exact (inn _ (ps _ hmem)).2 hmem
    have h := asks A cb obj f caps b room m _ os.length (fun i => os.getD i p0) P M F j w1 hL hj (ps _ hmem) hin bm (by omega) (by omega) cbm
    rw [show (#[pv ((fun i => os.getD i p0) j)] ++ #[Value.pointer (some ⟨A + 1, 0, none⟩), .pointer (some ⟨A, 0, none⟩)] : Array Value) = #[pv ((fun i => os.getD i p0) j), .pointer (some ⟨A + 1, 0, none⟩), .pointer (some ⟨A, 0, none⟩)] from by simp]
    exact h
end Go.Proofs.Ytgafdbamlmaifaa.S
