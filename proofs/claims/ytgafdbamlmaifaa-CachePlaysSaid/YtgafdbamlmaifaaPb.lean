/-
  Both caches under one act: what comes of it.
-/
import Derived.Test.YtgafdbamlmaifaaPa
namespace Go.Proofs.Ytgafdbamlmaifaa.P
open Go.RowKit
open U (CC Pl upd Ml evO evM p0 zv)
open R (RC It i0 Hit NoHit putI notG)
set_option linter.unusedVariables false
set_option maxRecDepth 20000

theorem uput (B b room m : Nat) (v : Value) (os : List Pl) (M : Pl → Option Value) (p : Pl) (x : Value) (hp : p.W) (w : World) (h : CC B w b room m v os M) (hB : B ≤ w.heap.size) :
    Calls Try.prog 10 #[.pointer (some ⟨b, 0, none⟩), .int .i64 p.g, .int .u64 p.k, x] w fun e w' => e = .returned (.int .i64 0) ∧ ∃ v' os' M', CC B w' b room m v' os' M' ∧ U.Turn w w' b m v v' ∧
      ((p ∈ os ∧ os' = os ∧ M' = upd M p (some x)) ∨ (p ∉ os ∧ os' = evO room os ++ [p] ∧ M' = upd (evM room os M) p (some x))) := by
  by_cases hin : p ∈ os
  · exact (U.put_was B b room m v os M p x hp w h hin).mono fun e w' ⟨he, v', hC, hT⟩ => ⟨he, v', _, _, hC, hT, .inl ⟨hin, rfl, rfl⟩⟩
  · exact (U.put_new B b room m v os M p x hp w h hB hin).mono fun e w' ⟨he, v', hC, hT⟩ => ⟨he, v', _, _, hC, hT, .inr ⟨hin, rfl, rfl⟩⟩
theorem rput (B r room : Nat) (v : Value) (is : List It) (g k x : Int) (w : World) (h : RC B w r room v is) (hB : B ≤ w.heap.size) :
    Calls Try.prog 11 #[.pointer (some ⟨r, 0, none⟩), .int .i64 g, .int .u64 k, .int .i64 x] w fun e w' => e = .returned (.tuple #[]) ∧ ∃ v' is', RC B w' r room v' is' ∧ R.Turn w w' r v v' ∧
      ((∃ i, Hit is g k i ∧ is' = is.set i ⟨g, k, x⟩) ∨ (NoHit is g k ∧ is' = putI room is ⟨g, k, x⟩)) := by
  rcases R.at_hit B r room v is g k w h with ⟨i, hi, C⟩ | ⟨hn, C⟩
  · exact (R.put_hit B r room v is g k x i hi w h C).mono fun e w' ⟨he, v', hC, hT⟩ => ⟨he, v', _, hC, hT, .inl ⟨i, hi, rfl⟩⟩
  · exact (R.put_miss B r room v is g k x w h hB C).mono fun e w' ⟨he, v', hC, hT⟩ => ⟨he, v', _, hC, hT, .inr ⟨hn, rfl⟩⟩
theorem tie_put {is is' : List It} {os os' : List Pl} {M M' : Pl → Option Value} {g k x : Int} {room : Nat} (h : Tie is os M) (nd : os.Nodup) (hr : 1 ≤ room)
    (hu : ((⟨g, k⟩ : Pl) ∈ os ∧ os' = os ∧ M' = upd M ⟨g, k⟩ (some (.int .i64 x))) ∨ ((⟨g, k⟩ : Pl) ∉ os ∧ os' = evO room os ++ [⟨g, k⟩] ∧ M' = upd (evM room os M) ⟨g, k⟩ (some (.int .i64 x))))
    (hv : (∃ i, Hit is g k i ∧ is' = is.set i ⟨g, k, x⟩) ∨ (NoHit is g k ∧ is' = putI room is ⟨g, k, x⟩)) : Tie is' os' M' := by
  rcases hu with ⟨hin, rfl, rfl⟩ | ⟨hin, rfl, rfl⟩
  · rcases hv with ⟨i, hi, rfl⟩ | ⟨hn, rfl⟩
    · exact tie_hit h nd hi
    · exact absurd hin (noHit_mem h hn)
  · rcases hv with ⟨i, hi, rfl⟩ | ⟨hn, rfl⟩
    · exact absurd (hit_mem h hi) hin
    · exact tie_miss h nd hr hin
theorem rdrop (B r room : Nat) (v : Value) (is : List It) (os : List Pl) (M : Pl → Option Value) (g k : Int) (w : World) (ht : Tie is os M) (h : RC B w r room v is) (hB : B ≤ w.heap.size) :
    Calls Try.prog 13 #[.pointer (some ⟨r, 0, none⟩), .int .i64 g, .int .u64 k] w fun e w' => e = .returned (.bool (decide ((⟨g, k⟩ : Pl) ∈ os))) ∧ ∃ v' is', RC B w' r room v' is' ∧ R.Turn w w' r v v' ∧
      ((∃ i, Hit is g k i ∧ is' = is.eraseIdx i) ∨ (NoHit is g k ∧ is' = is)) := by
  rcases R.at_hit B r room v is g k w h with ⟨i, hi, C⟩ | ⟨hn, C⟩
  · rw [decide_eq_true (hit_mem ht hi)]
    exact (R.drop_hit B r room v is g k i hi w h hB C).mono fun e w' ⟨he, v', hC, hT⟩ => ⟨he, v', _, hC, hT, .inl ⟨i, hi, rfl⟩⟩
  · rw [decide_eq_false (noHit_mem ht hn)]
    exact (R.drop_miss B r room v is g k w h C).mono fun e w' ⟨he, hw⟩ => ⟨he, v, is, by rw [hw]; exact h, by rw [hw]; exact R.Turn.refl _ _ _, .inr ⟨hn, rfl⟩⟩
theorem tie_drops {is is' : List It} {os : List Pl} {M : Pl → Option Value} {g k : Int} (h : Tie is os M) (nd : os.Nodup) (hv : (∃ i, Hit is g k i ∧ is' = is.eraseIdx i) ∨ (NoHit is g k ∧ is' = is)) :
    Tie is' (os.filter (fun q => !decide (q = ⟨g, k⟩))) (if (⟨g, k⟩ : Pl) ∈ os then Ml (fun q => decide (q = ⟨g, k⟩)) M else M) := by
  rcases hv with ⟨i, hi, rfl⟩ | ⟨hn, rfl⟩
  · rw [if_pos (hit_mem h hi)]
    exact tie_drop h nd hi
  · rw [if_neg (noHit_mem h hn), U.drop_filter (noHit_mem h hn)]
    exact h
/-- what both tell of a key -/
theorem gets {is : List It} {os : List Pl} {M : Pl → Option Value} {g k : Int} (h : Tie is os M) (hp : (⟨g, k⟩ : Pl).W) (inn : ∀ p : Pl, p.W → ((M p).isSome = true ↔ p ∈ os)) :
    ∃ (x : Int) (bb : Bool), (M ⟨g, k⟩).getD zv = .int .i64 x ∧ (M ⟨g, k⟩).isSome = bb ∧ ∀ B r room v w, RC B w r room v is → Calls Try.prog 17 #[.pointer (some ⟨r, 0, none⟩), .int .i64 g, .int .u64 k] w fun e w' => e = .returned (.tuple #[.int .i64 x, .bool bb]) ∧ w' = w := by
  by_cases hex : ∃ i, Hit is g k i
  · obtain ⟨i, hi⟩ := hex
    have hM : ∀ j, Hit is g k j → M ⟨g, k⟩ = some (.int .i64 (is.getD j i0).x) := fun j ⟨h1, h2, h3⟩ => by
      rw [getD_mem h1] at h2 h3 ⊢
      have := h.at_ _ (List.getElem_mem h1)
      rwa [show pl is[j] = ⟨g, k⟩ by simp [pl, h2, h3]] at this
    refine ⟨(is.getD i i0).x, true, by rw [hM i hi]; rfl, by rw [hM i hi]; rfl, fun B r room v w hR => ?_⟩
    rcases R.get_any B r room v is g k w hR with ⟨j, hj, C⟩ | ⟨hn, _⟩
    · have e : (is.getD j i0).x = (is.getD i i0).x := by
        have := (hM j hj).symm.trans (hM i hi)
        simpa using this
      rw [e] at C
      exact C
    · exact absurd hi.2 (hn i hi.1)
  · have hn : NoHit is g k := fun j hj hh => hex ⟨j, hj, hh⟩
    have hM : M ⟨g, k⟩ = none := by
      cases e : M ⟨g, k⟩ with
      | none => rfl
      | some y => exact absurd ((inn _ hp).1 (by simp [e])) (noHit_mem h hn)
    refine ⟨0, false, by rw [hM]; rfl, by rw [hM]; rfl, fun B r room v w hR => ?_⟩
    rcases R.get_any B r room v is g k w hR with ⟨j, hj, C⟩ | ⟨_, C⟩
    · exact absurd ⟨j, hj⟩ hex
    · exact C
theorem groups_len {is : List It} {os : List Pl} {M : Pl → Option Value} {g : Int} (h : Tie is os M) : (os.length : Int) - ((os.filter (fun q => !decide (q.g = g))).length : Int) = (is.length : Int) - ((notG g is).length : Int) := by
  have h1 : os.length = is.length := by rw [h.os]; simp
  have h2 : (os.filter (fun q => !decide (q.g = g))).length = (notG g is).length := by rw [(tie_group (g := g) h).os]; simp
  rw [h1, h2]
end Go.Proofs.Ytgafdbamlmaifaa.P
