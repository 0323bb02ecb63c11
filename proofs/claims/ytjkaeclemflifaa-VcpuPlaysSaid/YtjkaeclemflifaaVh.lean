/-
  A virtual processor: Load.
-/
import Derived.Test.YtjkaeclemflifaaVg
namespace Go.Proofs.Ytjkaeclemflifaa
open Go.RowKit
set_option linter.unusedVariables false
set_option maxRecDepth 100000
/-- the control registers, so many of them loaded -/
def ld (R0 R1 : Nat → Int) (j : Nat) : Nat → Int := fun k => if k < j ∧ k ≠ 11 then R1 k else R0 k
/-- a load under way -/
structure LD (w wr : World) (A V : Nat) (g : Int) (F : Nat) (ix st co : Int) (N1 R0 R1 : Nat → Int) (j : Nat) : Prop where
  vs : VS wr V g F ix st co (al N1)
  ff : FF wr F (ld R0 R1 j)
  im : wr.heap[A]? = some (.cells (imA N1 R1) 63 (0, 0))
  tn : Trn (fun k => k = V ∨ k = F) w wr
theorem LD.skip {w wr : World} {A V : Nat} {g : Int} {F : Nat} {ix st co : Int} {N1 R0 R1 : Nat → Int} (h : LD w wr A V g F ix st co N1 R0 R1 11) : LD w wr A V g F ix st co N1 R0 R1 12 :=
  ⟨h.vs, h.ff.congr fun n hn => by
    unfold ld
    by_cases e : n < 11 ∧ n ≠ 11
    · rw [if_pos e, if_pos (by omega)]
    · rw [if_neg e, if_neg (by omega)], h.im, h.tn⟩
theorem LD.next {w wr wn : World} {A V : Nat} {g : Int} {F : Nat} {ix st co : Int} {N1 R0 R1 : Nat → Int} {j : Nat} (h : LD w wr A V g F ix st co N1 R0 R1 j) (hj : j < 11) (hf : FF wn F (upd (ld R0 R1 j) j (R1 j))) (hg : wr.grownBy wn (some F)) : LD w wn A V g F ix st co N1 R0 R1 (j + 1) := by
  obtain ⟨fs, hfs, _⟩ := h.ff.blk
  refine ⟨h.vs.keep (gr_keep hg h.vs.lt (ne_typ h.vs hfs (by decide))), hf.congr fun n hn => ?_, (gr_keep hg (lt_of_heap h.im) (ne_typ h.im hfs (by decide))).trans h.im, h.tn.trans (.of_grown hg (.inr rfl))⟩
  unfold upd ld
  by_cases e : n = j
  · subst e
    rw [if_pos rfl, if_pos (by omega)]
  · rw [if_neg e]
    by_cases e2 : n < j ∧ n ≠ 11
    · rw [if_pos e2, if_pos (by omega)]
    · rw [if_neg e2, if_neg (by omega)]
section
variable {w w' : World} {V F : Nat} {g ix st co : Int} {N : Nat → Int}
theorem load_e {v : Value} {er : Int} (he : er ≠ 0) (cs : Array Value) (hc : Calls Try.prog 39 #[v, .slice (some ⟨w.heap.size + 1, 0, none⟩) 3 3] ((w.alloc (.cells cs 63)).alloc (.cells #[.int .i64 1, .int .i64 3, .int .i64 4] 3)) fun e w' => e = .returned (.int .i64 er) ∧ w' = ((w.alloc (.cells cs 63)).alloc (.cells #[.int .i64 1, .int .i64 3, .int .i64 4] 3))) : Calls Try.prog 25 #[v, .agg cs] w fun e w' => e = .returned (.int .i64 er) ∧ Below w.heap.size w w' := by
  have bx : Below w.heap.size w ((w.alloc (.cells cs 63)).alloc (.cells #[.int .i64 1, .int .i64 3, .int .i64 4] 3)) := ((Below.refl _ _).alloc (Nat.le_refl _) _).alloc (by simp) _
  go_enter Try.func25, Try.ntmps25
  go_wp2_with fail
  refine hc.mono ?_
  rintro e y ⟨rfl, rfl⟩
  go_wp2_with fail
  go_ret
  exact ⟨rfl, bx⟩
theorem st3h (w : World) (cs : Array Value) : ST ((w.alloc (.cells cs 63)).alloc (.cells #[.int .i64 1, .int .i64 3, .int .i64 4] 3)) (w.heap.size + 1) 3 1 3 4 := by
  have := st3 (w.alloc (.cells cs 63)) 1 3 4
  simpa using this
theorem load_state (h : VS w V g F ix 2 co N) (cs : Array Value) : Calls Try.prog 25 #[.pointer (some ⟨V, 0, none⟩), .agg cs] w fun e w' => e = .returned (.int .i64 21) ∧ Below w.heap.size w w' := by
  have bx : Below w.heap.size w ((w.alloc (.cells cs 63)).alloc (.cells #[.int .i64 1, .int .i64 3, .int .i64 4] 3)) := ((Below.refl _ _).alloc (Nat.le_refl _) _).alloc (by simp) _
  have C1 := in_v (h.below bx) (st3h w cs)
  rw [show inE (isS 3 1 3 4 2) = 21 by decide] at C1
  exact load_e (by decide) cs C1
theorem load_un {v : Value} (h : UN w v) (cs : Array Value) : Calls Try.prog 25 #[v, .agg cs] w fun e w' => e = .returned (.int .i64 1) ∧ Below w.heap.size w w' := by
  have bx : Below w.heap.size w ((w.alloc (.cells cs 63)).alloc (.cells #[.int .i64 1, .int .i64 3, .int .i64 4] 3)) := ((Below.refl _ _).alloc (Nat.le_refl _) _).alloc (by simp) _
  exact load_e (by decide) cs (in_un (h.below bx) _)
set_option maxHeartbeats 3200000 in
theorem load_yes (h : VS w V g F ix st co N) {R0 : Nat → Int} (hf : FF w F R0) (hs : isS 3 1 3 4 st = true) (N1 R1 : Nat → Int) (hR : ∀ k, k < 12 → U (R1 k)) :
    Calls Try.prog 25 #[.pointer (some ⟨V, 0, none⟩), .agg (imA N1 R1)] w fun e w' => e = .returned (.int .i64 0) ∧ VS w' V g F ix st co (al N1) ∧ FF w' F (ld R0 R1 12) ∧ Trn (fun k => k = V ∨ k = F) w w' := by
  obtain ⟨y, hy⟩ : ∃ y, (w.alloc (.cells (imA N1 R1) 63)).alloc (.cells #[.int .i64 1, .int .i64 3, .int .i64 4] 3) = y := ⟨_, rfl⟩
  have b0 : Below w.heap.size w y := by rw [← hy]; exact ((Below.refl _ _).alloc (Nat.le_refl _) _).alloc (by simp) _
  have a0 : y.heap[w.heap.size]? = some (.cells (imA N1 R1) 63 (0, 0)) := by rw [← hy, heap_alloc_past _ _ (by simp)]; exact heap_alloc_at _ _
  have s0 : ST y (w.heap.size + 1) 3 1 3 4 := by rw [← hy]; exact st3h w _
  have C1 := in_v (h.below b0) s0
  rw [hs, show inE true = 0 by decide] at C1
  obtain ⟨a, ha⟩ : ∃ a, y.alloc (.cells zeros18 58) = a := ⟨_, rfl⟩
  have ba : Below y.heap.size y a := by rw [← ha]; exact below_box _ _
  have a1 : a.heap[y.heap.size]? = some (.cells zeros18 58 (0, 0)) := by rw [← ha]; exact heap_alloc_at _ _
  have a2 := keepB a0 ba
  obtain ⟨c, hr, ⟨ds, hd, hds, hj⟩, hgr⟩ := copy_rows (w := a.drew) 3 y.heap.size w.heap.size 18 30 18 zeros18 (imA N1 R1) 58 63 a1 a2 rfl (by decide) (by rw [imA_size]; omega) (fun j hj => ⟨_, imA_lo N1 R1 j hj⟩)
  have ed : ds = nvA N1 := by
    apply Array.ext_getElem?
    intro i
    rw [hj i]
    by_cases e : i < 18
    · rw [if_pos e, imA_lo N1 R1 i e, nvA_at N1 i e]
    · rw [if_neg e, Array.getElem?_eq_none (by show 18 ≤ i; omega), Array.getElem?_eq_none (by rw [nvA_size]; omega)]
  rw [ed] at hd
  have bay : Below y.heap.size y c := ba.drew.trans (gr_below hgr (Nat.le_refl _) (Nat.le_of_lt (lt_of_heap a1)))
  have C2 := allowed_any N1 c
  have HI : Hid (VS c V g F ix st co N ∧ FF c F R0 ∧ c.heap[w.heap.size]? = some (.cells (imA N1 R1) 63 (0, 0)) ∧ Below w.heap.size w c) := ⟨(h.below b0).below bay, (hf.below b0).below bay, keepB a0 bay, b0.trans (bay.mono b0.size)⟩
  have HL : Hid (c.heap[y.heap.size]? = some (.cells (nvA N1) 58 (0, 0))) := hd
  have wl := lt_of_heap a0
  have yl := lt_of_heap hd
  clear h hf b0 s0 a0 ba a1 a2 hj hgr ed bay hd
  unfold zeros18 at ha
  go_enter Try.func25, Try.ntmps25
  go_wp2_with fail
  clear hy
  refine C1.mono ?_
  rintro e y ⟨rfl, rfl⟩
  clear C1
  go_wp2_with fail
  clear ha
  go_region
  clear hr
  go_wp2_with (first
    | refine wpList_load_row rfl 58 _ rfl y.heap.size rfl 58 _ (0, 0) _ HL.out Try.underlying58 rfl inf58 ?_
    | fail)
  refine C2.mono ?_
  rintro e u ⟨rfl, hu⟩
  clear C2 HL
  have vu := HI.out.1.below hu
  have fu := HI.out.2.1.below hu
  have iu := keepB HI.out.2.2.1 hu
  have HT : Hid (_) := vu.th
  have vl := vu.lt
  have HM : Hid (LD w (u.setCells V 5 (nvA (al N1)).toList) w.heap.size V g F ix st co N1 R0 R1 0) := by
    obtain ⟨vw, tw⟩ := vu.wr (al N1)
    obtain ⟨fs, hfs, _⟩ := fu.blk
    refine ⟨vw, (fu.keep (tw.block _ fu.lt (ne_typ hfs vu (by decide)))).congr fun n hn => ?_, (tw.block _ (lt_of_heap iu) (ne_typ iu vu (by decide))).trans iu, ((Trn.of_below HI.out.2.2.2).trans (.of_below hu)).trans (tw.mono fun k _ e => .inl e)⟩
    unfold ld
    rw [if_neg (by omega)]
  clear vu fu iu hu HI
  go_upto_region 7 with (first
    | refine wpList_store_mid rfl 58 _ _ rfl V 5 (nvA (al N1)) rfl rfl HT.out inf58 (nvA_one _) ?_
    | fail)
  generalize u.setCells V 5 (nvA (al N1)).toList = d at HM ⊢
  have il := lt_of_heap HM.out.im
  clear HT
  go_wp2_with fail
  go_loopw [25] (fun q wr => ∃ j : Nat, j ≤ 12 ∧ q = .int .i64 j ∧ Hid (LD w wr w.heap.size V g F ix st co N1 R0 R1 j)) (fun q _ => 12 - (intOf q).toNat)
  case atStart => exact ⟨0, by omega, rfl, HM⟩
  case round =>
    obtain ⟨j, hj, rfl, HJ⟩ := hrel
    clear HM il
    have i1 := HJ.out.im
    have il := lt_of_heap i1
    have v1 := HJ.out.vs.c1
    have vl := HJ.out.vs.lt
    by_cases hjn : j < 11
    · have hj1 : (j : Int) < 12 := by omega
      have hj2 : ¬ (j : Int) = 11 := by omega
      have c1 := (cell_at i1 (18 + j)).trans (imA_hi N1 R1 j (by omega))
      have CS := set_ff F (ld R0 R1 j) j (by omega) (R1 j) (hR j (by omega)) wr HJ.out.ff
      clear i1
      go_wp2_with fail
      refine CS.mono ?_
      rintro e wn ⟨rfl, hf, hg⟩
      have HF : Hid (_) := HJ.out.next hjn hf hg
      clear CS hf hg HJ
      go_wp2_with fail
      go_roundw
      case rel => exact ⟨j + 1, by omega, by go_num, HF⟩
      case measure => simp [intOf]; omega
    · by_cases hj12 : j = 11
      · subst hj12
        have c1 := (cell_at i1 (18 + 11)).trans (imA_hi N1 R1 11 (by omega))
        have HF : Hid (_) := HJ.out.skip
        clear i1 HJ
        go_wp2_with fail
        go_roundw
        case rel => exact ⟨12, by omega, rfl, HF⟩
        case measure => simp [intOf]
      · obtain rfl : j = 12 := by omega
        clear i1
        go_wp2_with fail
        go_ret
        exact ⟨rfl, HJ.out.vs, HJ.out.ff, HJ.out.tn⟩
end
end Go.Proofs.Ytjkaeclemflifaa
