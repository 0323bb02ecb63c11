/-
  The program's cache beside the document's: what is kept is the same, behind each call.
-/
import Derived.Test.YtgafdbamlmaifaaUm
import Derived.Test.YtgafdbamlmaifaaRe
import Derived.Test.YtgafdbamlmaifaaRf
namespace Go.Proofs.Ytgafdbamlmaifaa.P
open Go.RowKit
open U (CC Pl upd Ml evO evM p0)
open R (RC It i0 Hit NoHit putI notG)
set_option linter.unusedVariables false
set_option maxRecDepth 20000

def pl (i : It) : Pl := ⟨i.g, i.k⟩
/-- both keep the same -/
structure Tie (is : List It) (os : List Pl) (M : Pl → Option Value) : Prop where
  os : os = is.map pl
  at_ : ∀ it ∈ is, M (pl it) = some (.int .i64 it.x)

theorem getD_mem {is : List It} {i : Nat} (hi : i < is.length) : is.getD i i0 = is[i] := by simp [hi]
theorem hit_mem {is : List It} {os : List Pl} {M : Pl → Option Value} {g k : Int} {i : Nat} (h : Tie is os M) (hi : Hit is g k i) : (⟨g, k⟩ : Pl) ∈ os := by
  obtain ⟨h1, h2, h3⟩ := hi
  rw [getD_mem h1] at h2 h3
  rw [h.os, List.mem_map]
  exact ⟨is[i], List.getElem_mem h1, by simp [pl, h2, h3]⟩
theorem noHit_mem {is : List It} {os : List Pl} {M : Pl → Option Value} {g k : Int} (h : Tie is os M) (hn : NoHit is g k) : (⟨g, k⟩ : Pl) ∉ os := fun hm => by
  rw [h.os, List.mem_map] at hm
  obtain ⟨it, hit, e⟩ := hm
  obtain ⟨i, hi, rfl⟩ := List.getElem_of_mem hit
  refine hn i hi ?_
  rw [getD_mem hi]
  simp [pl] at e
  exact e
theorem tie_hit {is : List It} {os : List Pl} {M : Pl → Option Value} {g k x : Int} {i : Nat} (h : Tie is os M) (nd : os.Nodup) (hi : Hit is g k i) : Tie (is.set i ⟨g, k, x⟩) os (upd M ⟨g, k⟩ (some (.int .i64 x))) := by
  obtain ⟨h1, h2, h3⟩ := hi
  rw [getD_mem h1] at h2 h3
  have hp : pl is[i] = ⟨g, k⟩ := by simp [pl, h2, h3]
  refine ⟨?_, fun it hit => ?_⟩
  · rw [h.os, List.map_set]
    apply List.ext_getElem (by simp)
    intro j ha hb
    simp only [List.getElem_map, List.getElem_set]
    by_cases e : i = j
    · subst e; rw [if_pos rfl, hp]; rfl
    · simp [e]
  · obtain ⟨j, hj, rfl⟩ := List.getElem_of_mem hit
    have hj' : j < is.length := by simpa using hj
    by_cases e : i = j
    · subst e
      simp [upd, pl]
    · rw [List.getElem_set_ne e]
      have hne : pl is[j] ≠ ⟨g, k⟩ := fun e2 => by
        rw [h.os] at nd
        rcases Nat.lt_or_gt_of_ne e with h' | h'
        · exact List.pairwise_iff_getElem.1 nd i j (by simpa using h1) (by simpa using hj') h' (by simp [hp, e2])
        · exact List.pairwise_iff_getElem.1 nd j i (by simpa using hj') (by simpa using h1) h' (by simp [hp, e2])
      simp only [upd, hne, if_false]
      exact h.at_ _ (List.getElem_mem hj')
theorem tie_miss {is : List It} {os : List Pl} {M : Pl → Option Value} {g k x : Int} {room : Nat} (h : Tie is os M) (nd : os.Nodup) (hr : 1 ≤ room) (hn : (⟨g, k⟩ : Pl) ∉ os) :
    Tie (putI room is ⟨g, k, x⟩) (evO room os ++ [⟨g, k⟩]) (upd (evM room os M) ⟨g, k⟩ (some (.int .i64 x))) := by
  have hl : os.length = is.length := by rw [h.os]; simp
  have hne : ∀ it ∈ is, pl it ≠ ⟨g, k⟩ := fun it hit e => hn (by rw [h.os, ← e]; exact List.mem_map.2 ⟨it, hit, rfl⟩)
  unfold putI evO evM
  rw [hl]
  by_cases hf : is.length < room
  · rw [if_pos hf, if_pos hf, if_pos hf]
    refine ⟨by rw [h.os]; simp [pl], fun it hit => ?_⟩
    rcases List.mem_append.1 hit with hit | hit
    · simp only [upd, hne it hit, if_false]
      exact h.at_ it hit
    · obtain rfl : it = ⟨g, k, x⟩ := by simpa using hit
      simp [upd, pl]
  · rw [if_neg hf, if_neg hf, if_neg hf]
    match is, h, hne, hf with
    | [], h, hne, hf => simp at hf; omega
    | a :: r, h, hne, hf =>
      have hos : os = pl a :: r.map pl := by rw [h.os]; rfl
      subst hos
      have hnd := List.nodup_cons.1 nd
      simp only [List.cons_append, List.drop_succ_cons, List.drop_zero, List.getD_cons_zero]
      refine ⟨by simp [pl], fun it hit => ?_⟩
      rcases List.mem_append.1 hit with hit | hit
      · have h1 : pl it ≠ ⟨g, k⟩ := hne it (by simp [hit])
        have h2 : pl it ≠ pl a := fun e => hnd.1 (by rw [← e]; exact List.mem_map.2 ⟨it, hit, rfl⟩)
        simp only [upd, h1, h2, if_false]
        exact h.at_ it (by simp [hit])
      · obtain rfl : it = ⟨g, k, x⟩ := by simpa using hit
        simp [upd, pl]
theorem erase_nodup {α : Type} [DecidableEq α] : ∀ (l : List α) (i : Nat) (hi : i < l.length), l.Nodup → l.eraseIdx i = l.filter (fun q => !decide (q = l[i]))
  | a :: r, 0, hi, nd => by
    have := (List.nodup_cons.1 nd).1
    simp only [List.eraseIdx_cons_zero, List.getElem_cons_zero, List.filter_cons, decide_true, Bool.not_true, Bool.false_eq_true, if_false]
    symm
    rw [List.filter_eq_self]
    intro q hq
    simp
    exact fun e => this (e ▸ hq)
  | a :: r, i + 1, hi, nd => by
    have h1 := List.nodup_cons.1 nd
    have hi' : i < r.length := by simpa using hi
    have hne : a ≠ r[i] := fun e => h1.1 (e ▸ List.getElem_mem hi')
    simp only [List.eraseIdx_cons_succ, List.getElem_cons_succ, List.filter_cons, hne, decide_false, Bool.not_false, if_true]
    rw [erase_nodup r i hi' h1.2]
theorem tie_drop {is : List It} {os : List Pl} {M : Pl → Option Value} {g k : Int} {i : Nat} (h : Tie is os M) (nd : os.Nodup) (hi : Hit is g k i) : Tie (is.eraseIdx i) (os.filter (fun q => !decide (q = ⟨g, k⟩))) (Ml (fun q => decide (q = ⟨g, k⟩)) M) := by
  obtain ⟨h1, h2, h3⟩ := hi
  rw [getD_mem h1] at h2 h3
  have hp : pl is[i] = ⟨g, k⟩ := by simp [pl, h2, h3]
  have hl : i < os.length := by rw [h.os]; simpa using h1
  have hoi : os[i] = ⟨g, k⟩ := by simp [h.os, hp]
  have hos : os.filter (fun q => !decide (q = ⟨g, k⟩)) = (is.eraseIdx i).map pl := by
    rw [← hoi, ← erase_nodup os i hl nd, h.os]
    simp only [List.eraseIdx_eq_take_drop_succ, List.map_append, List.map_take, List.map_drop]
  refine ⟨hos, fun it hit => ?_⟩
  have hm : pl it ∈ os.filter (fun q => !decide (q = ⟨g, k⟩)) := by rw [hos]; exact List.mem_map.2 ⟨it, hit, rfl⟩
  have hne : pl it ≠ ⟨g, k⟩ := by simpa using (List.mem_filter.1 hm).2
  simp only [Ml, hne, decide_false, Bool.false_eq_true, if_false]
  exact h.at_ it (List.mem_of_mem_eraseIdx hit)
theorem tie_group {is : List It} {os : List Pl} {M : Pl → Option Value} {g : Int} (h : Tie is os M) : Tie (notG g is) (os.filter (fun q => !decide (q.g = g))) (Ml (fun q => decide (q.g = g)) M) := by
  refine ⟨?_, fun it hit => ?_⟩
  · rw [h.os, List.filter_map]
    rfl
  · have hm := List.mem_filter.1 hit
    have hne : (pl it).g ≠ g := by simpa [pl] using hm.2
    simp only [Ml, hne, decide_false, Bool.false_eq_true, if_false]
    exact h.at_ it hm.1

/-- both caches in one world -/
structure PX (B : Nat) (w : World) (b room m r : Nat) (v : Value) (os : List Pl) (M : Pl → Option Value) (vr : Value) (is : List It) : Prop where
  cc : CC B w b room m v os M
  rc : RC B w r room vr is
  rb : r ≠ b
  rm : r ≠ m
  vr_ : v.ownBlock ≠ some r
  rvb : vr.ownBlock ≠ some b
  rvm : vr.ownBlock ≠ some m
  vv : ∀ k, v.ownBlock = some k → vr.ownBlock ≠ some k
theorem PX.below {B : Nat} {w w' : World} {b room m r : Nat} {v : Value} {os : List Pl} {M : Pl → Option Value} {vr : Value} {is : List It} (h : PX B w b room m r v os M vr is) (hk : Below w.heap.size w w') : PX B w' b room m r v os M vr is :=
  ⟨h.cc.below hk, h.rc.below hk, h.rb, h.rm, h.vr_, h.rvb, h.rvm, h.vv⟩
theorem PX.u {B : Nat} {w w' : World} {b room m r : Nat} {v v' : Value} {os os' : List Pl} {M M' : Pl → Option Value} {vr : Value} {is : List It} (h : PX B w b room m r v os M vr is) (hC : CC B w' b room m v' os' M') (hT : U.Turn w w' b m v v') : PX B w' b room m r v' os' M' vr is := by
  have hr := h.rc.lt
  refine ⟨hC, h.rc.keep (hT.trn.block r hr (fun hs => ?_)) (fun k hk => hT.trn.block k (h.rc.its.lt k hk).2 (fun hs => ?_)), h.rb, h.rm, fun e => ?_, h.rvb, h.rvm, fun k hk e => ?_⟩
  · rcases hs with hs | hs | hs
    · exact h.rb hs
    · exact h.rm hs
    · exact h.vr_ hs
  · rcases hs with hs | hs | hs
    · exact h.rvb (hs ▸ hk)
    · exact h.rvm (hs ▸ hk)
    · exact h.vv k hs hk
  · rcases hT.own r e with h' | h'
    · exact h.vr_ h'
    · omega
  · rcases hT.own k hk with h' | h'
    · exact h.vv k h' e
    · have := (h.rc.its.lt k e).2; omega
theorem PX.r {B : Nat} {w w' : World} {b room m r : Nat} {v : Value} {os : List Pl} {M : Pl → Option Value} {vr vr' : Value} {is is' : List It} (h : PX B w b room m r v os M vr is) (hC : RC B w' r room vr' is') (hT : R.Turn w w' r vr vr') : PX B w' b room m r v os M vr' is' := by
  refine ⟨h.cc.keep (hT.trn.block b h.cc.ob.lt (fun hs => ?_)) (hT.trn.block m h.cc.mp.lt (fun hs => ?_)) (fun k hk => hT.trn.block k (h.cc.ord.lt k hk).2 (fun hs => ?_)), hC, h.rb, h.rm, h.vr_, fun e => ?_, fun e => ?_, fun k hk e => ?_⟩
  · rcases hs with hs | hs
    · exact h.rb hs.symm
    · exact h.rvb hs
  · rcases hs with hs | hs
    · exact h.rm hs.symm
    · exact h.rvm hs
  · rcases hs with hs | hs
    · exact h.vr_ (hs ▸ hk)
    · exact h.vv k hk hs
  · rcases hT.own b e with h' | h'
    · exact h.rvb h'
    · have := h.cc.ob.lt; omega
  · rcases hT.own m e with h' | h'
    · exact h.rvm h'
    · have := h.cc.mp.lt; omega
  · rcases hT.own k e with h' | h'
    · exact h.vv k hk h'
    · have := (h.cc.ord.lt k hk).2; omega
end Go.Proofs.Ytgafdbamlmaifaa.P
