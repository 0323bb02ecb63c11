/-
  The document's rows appended: what its End leaves.
-/
import Derived.Test.YtgiafngiledmbaaRb
import Derived.BigRegion
import Derived.Deep.RegionLaw
namespace Go.Proofs.Ytgiafngiledmbaa
open Go.RowKit Go.Maps
set_option linter.unusedVariables false
set_option maxRecDepth 100000
theorem flat6 : ∀ (ls : List Tm) (k j : Nat) (hk : k < ls.length), j < 6 → (ls.flatMap ic)[k * 6 + j]? = (ic ls[k])[j]?
  | s :: r, 0, j, hk, hj => by
    simp only [List.flatMap_cons, Nat.zero_mul, Nat.zero_add, List.getElem_cons_zero]
    exact List.getElem?_append_left hj
  | s :: r, k + 1, j, hk, hj => by
    simp only [List.flatMap_cons, List.getElem_cons_succ]
    have h9 : (ic s).length = 6 := rfl
    rw [List.getElem?_append_right (by omega), h9, show (k + 1) * 6 + j - 6 = k * 6 + j by omega]
    exact flat6 r k j (by simpa using hk) hj
theorem len6 (ls : List Tm) : (ls.flatMap ic).length = ls.length * 6 := by
  induction ls with
  | nil => rfl
  | cons s r ih => simp only [List.flatMap_cons, List.length_append, ih, List.length_cons]; simp [ic]; omega
theorem one6 (ls : List Tm) : ∀ u ∈ ls.flatMap ic, u.oneCell' = true := fun u hu => by
  obtain ⟨p, _, hp⟩ := List.mem_flatMap.1 hu
  simp [ic] at hp
  rcases hp with rfl | rfl | rfl | rfl | rfl | rfl <;> rfl
/-- a row of the call's own -/
theorem its_of_row {B : Nat} {w : World} {v : Value} {is : List Tm} (h : w.ownsRow B 63 6 v is.length (is.flatMap ic)) : Its w v is ∧ ∀ k, v.ownBlock = some k → B ≤ k := by
  obtain ⟨_, ⟨rfl, h0⟩ | ⟨g, c, cur, rfl, hB, h, h2, h3, h1, h4⟩⟩ := h
  · exact ⟨.inl ⟨rfl, List.eq_nil_of_length_eq_zero h0⟩, fun k hk => by cases hk⟩
  · refine ⟨.inr ⟨g, c, by simp, cur, h, by simpa using h1, h2, h3, fun i hi j hj => ?_⟩, fun k hk => by cases hk; exact hB⟩
    have hi6 : i * 6 + j < is.length * 6 := by omega
    rw [show is.getD i t0 = is[i] by simp [List.getD, hi], ← flat6 is i j hi hj, ← h4, List.getElem?_take_of_lt (by simpa using hi6)]
    simp
/-- the cells of items from place k on -/
theorem Row.cells {w : World} {g c : Nat} {is : List Tm} (h : Row w g c is) (k n : Nat) (hk : k + n ≤ is.length) (j : Nat) (u : Value) (hu : (((is.drop k).take n).flatMap ic)[j]? = some u) :
    w.cell? ⟨g, k * 6 + j, none⟩ = some u := by
  have hl : ((is.drop k).take n).length = n := by simp; omega
  have hj : j < n * 6 := by
    have := (List.getElem?_eq_some_iff.1 hu).1
    rw [len6, hl] at this
    exact this
  have e : j = j / 6 * 6 + j % 6 := by omega
  have hkj : j / 6 < ((is.drop k).take n).length := by omega
  have hx : k + j / 6 < is.length := by omega
  rw [show k * 6 + j = (k + j / 6) * 6 + j % 6 by omega, h.cj hx (by omega)]
  rw [e, flat6 _ (j / 6) (j % 6) hkj (by omega)] at hu
  simp only [List.getElem_take, List.getElem_drop] at hu
  rw [show is.getD (k + j / 6) t0 = is[k + j / 6] by simp [List.getD, hx]]
  exact hu
theorem info63z : (Try.prog.info? 63).map (fun i => (i.zero, i.size)) = some (some (.agg (ic t0).toArray), 6) := by kernel_rfl
theorem bytes63 : (Try.prog.info? 63).map (fun i => decide (i.bytes ≤ 200)) = some true := by kernel_rfl
theorem info_parts63 : ∃ i, Try.prog.info? 63 = some i ∧ i.zero = some (.agg (ic t0).toArray) ∧ i.size = 6 ∧ i.bytes ≤ 200 := by
  have h := info63z
  have h2 := bytes63
  cases hq : Try.prog.info? 63 with
  | none => rw [hq] at h; cases h
  | some i =>
    rw [hq] at h h2
    have e := Option.some.inj h
    exact ⟨i, rfl, congrArg Prod.fst e, congrArg Prod.snd e, by simpa using h2⟩
theorem add_pl (b o j : Nat) : (⟨b, o, none⟩ : Addr).add j = ⟨b, o + j, none⟩ := by unfold Addr.add; split <;> simp_all
/-- a part of a row appended to a row of the call's own -/
theorem append_part {B : Nat} {w W : World} {v : Value} {is L : List Tm} {g c : Nat} (hv : W.ownsRow B 63 6 v is.length (is.flatMap ic)) (hr : Row w g c L) (hW : W.heap[g]? = w.heap[g]?) (k n m : Nat) (hk : k + n ≤ L.length) (h64 : is.length ≤ 1000) (hl : L.length ≤ 1000) (hB : B ≤ W.heap.size) (a : Addr) (ha : n = 0 ∨ a = ⟨g, k * 6, none⟩) :
    ∃ v' w', (Builtin.append_ #[26, 26] 26 #[v, .slice (some a) n m]).run Try.prog W = .ok v' w' ∧ w'.ownsRow B 63 6 v' (is ++ (L.drop k).take n).length ((is ++ (L.drop k).take n).flatMap ic) ∧ W.grownBy w' v.ownBlock := by
  obtain ⟨inf, hinf, hz, hs, hby⟩ := info_parts63
  have hl1 : (((L.drop k).take n).flatMap ic).length = n * 6 := by rw [len6]; simp; omega
  have hn : ((L.drop k).take n).length = n := by simp; omega
  obtain ⟨v', w', hrun, hw', hg, _⟩ := run_append_own_at (P := Try.prog) W B 26 26 63 inf _ 6 inf.bytes Try.underlying26 hinf hz hs rfl rfl (by decide) v is.length _ hv a n m (((L.drop k).take n).flatMap ic) hl1
    (fun j u hu => by
      rcases ha with h0 | rfl
      · subst h0
        simp at hu
      · rw [add_pl]
        have := hr.cells k n hk j u hu
        rw [World.cell?_of_block (a := ⟨g, k * 6 + j, none⟩) hW]
        exact this) (one6 _) (by unfold maxLen; omega) (by
      have : (is.length + n) * inf.bytes ≤ 100000 * 200 := Nat.mul_le_mul (by omega) hby
      omega) hB
  refine ⟨v', w', hrun, ?_, hg⟩
  rw [List.length_append, hn, List.flatMap_append]
  exact hw'
theorem step_append26 {P : Program} {ops : Array Oper} {o : Oper} {a : Act} {w : World} {K : Act → World → Prop} {Q : Exit → Act → World → Prop} {E : Prop}
    (hg : o.guard = none) (s x : Operand) (t : TypeId) (hop : o.op = Op.call { callee := Callee.builtin Builtin.append, args := #[s, x], argTypes := #[t, t] })
    (vs vx v' : Value) (w' : World) (hs : a.eval s = vs) (hx : a.eval x = vx) (hrun : (Builtin.append_ #[t, t] o.type #[vs, vx]).run P w = .ok v' w') (hK : K (a.put o.dst v') w') :
    if Region.wanted o (yielded ops a.tmps) = true then Oper.wp P o a w K Q else E := by
  have hw : Region.wanted o (yielded ops a.tmps) = true := by simp [Region.wanted, hg]
  rw [if_pos hw]
  unfold Oper.wp
  simp [execOp, hop, resolve, invoke, builtin, hs, hx, hrun, Result.andThen]
  exact hK
theorem del_erase : ∀ {L : List Tm}, L.Pairwise (fun a b => a.id < b.id) → ∀ {i : Nat} {x : Tm}, L[i]? = some x → del L x.id = L.eraseIdx i
  | [], _, _, _, h => by simp at h
  | y :: r, hp, 0, x, h => by
    obtain ⟨h1, h2⟩ := List.pairwise_cons.1 hp
    simp at h
    subst h
    show List.filter _ (y :: r) = r
    rw [List.filter_cons]
    simp only [beq_self_eq_true, Bool.not_true, Bool.false_eq_true, if_false]
    exact List.filter_eq_self.2 fun z hz => by have := h1 z hz; simp; omega
  | y :: r, hp, i + 1, x, h => by
    obtain ⟨h1, h2⟩ := List.pairwise_cons.1 hp
    simp at h
    have := h1 x (List.mem_of_getElem? h)
    show List.filter _ (y :: r) = y :: r.eraseIdx i
    rw [List.filter_cons]
    have hne : (y.id == x.id) = false := by simp; omega
    simp only [hne, Bool.not_false, if_true]
    exact congrArg _ (del_erase h2 h)
/-- the row's value stored -/
theorem DX.fresh {w w2 : World} {r : Nat} {v v2 : Value} {L L2 : List Tm} (h : DX w r v L) (hb : ∀ j, j < w.heap.size → w2.heap[j]? = w.heap[j]?) (hs : w.heap.size ≤ w2.heap.size) (ho : w2.os = w.os ∧ w2.tape = w.tape ∧ w2.output = w.output) (hI : Its w2 v2 L2) (hB : ∀ k, v2.ownBlock = some k → w.heap.size ≤ k) (ok : LOk L2) :
    DX (w2.setCell ⟨r, 0, none⟩ v2) r v2 L2 ∧ Trn (Sr r v) w (w2.setCell ⟨r, 0, none⟩ v2) := by
  have e := (hb r h.lt).trans h.ob
  have ht := trn_set1 e 0 v2
  have hne : ∀ k, v2.ownBlock = some k → k ≠ r := fun k hk e => by have := hB k hk; have := h.lt; omega
  refine ⟨⟨by rw [heap_setCell e 0 v2]; rfl, hI.keep fun k hk => ht.block k (hI.lt k hk).1 (hne k hk), ok⟩, ⟨ht.os.trans ho.1, ht.tape.trans ho.2.1, ht.output.trans ho.2.2, Nat.le_trans hs ht.size, fun k hk hS => (ht.block k (by omega) fun e => hS (.inl e)).trans (hb k hk)⟩⟩
section
variable {w : World} {r : Nat} {v : Value} {L : List Tm} {i : Nat} {x : Tm}
/-- the two appends of End -/
theorem end_runs {g c : Nat} (h : DX w r (.slice (some ⟨g, 0, none⟩) L.length c) L) (hx : L[i]? = some x) :
    ∃ v1 w1 v2 w2, (Builtin.append_ #[26, 26] 26 #[.slice (some ⟨w.heap.size, 0, none⟩) 0 0, .slice (some ⟨g, 0, none⟩) i c]).run Try.prog (w.drew.alloc (.cells #[] 63)) = .ok v1 w1 ∧
      (Builtin.append_ #[26, 26] 26 #[v1, .slice (some (if c = i + 1 then ⟨g, 0, none⟩ else ⟨g, (i + 1) * 6, none⟩)) (L.length - (i + 1)) (c - (i + 1))]).run Try.prog w1 = .ok v2 w2 ∧
      w1.heap[r]? = w.heap[r]? ∧ w2.heap[r]? = w.heap[r]? ∧ (∃ a n k, v2 = .slice a n k) ∧ DX (w2.setCell ⟨r, 0, none⟩ v2) r v2 (del L x.id) ∧ Trn (Sr r (.slice (some ⟨g, 0, none⟩) L.length c)) w (w2.setCell ⟨r, 0, none⟩ v2) ∧ ∀ k, v2.ownBlock = some k → w.heap.size ≤ k := by
  have hi := (List.getElem?_eq_some_iff.1 hx).1
  have h64 := h.ok.len
  obtain ⟨g', c', e, hrow⟩ := h.row hx
  cases e
  have hcap := hrow.cap
  have h0 : (w.drew.alloc (.cells #[] 63)).ownsRow w.heap.size 63 6 (.slice (some ⟨w.heap.size, 0, none⟩) 0 0) ([] : List Tm).length (([] : List Tm).flatMap ic) :=
    ⟨rfl, .inr ⟨w.heap.size, 0, #[], rfl, Nat.le_refl _, heap_alloc_at w.drew _, by simp, by unfold maxLen; omega, rfl, rfl⟩⟩
  have hk0 : ∀ j, j < w.heap.size → (w.drew.alloc (.cells #[] 63)).heap[j]? = w.heap[j]? := fun j hj => heap_alloc_past w.drew _ hj
  obtain ⟨v1, w1, r1, o1, g1⟩ := append_part h0 hrow (hk0 g hrow.lt) 0 i c (by omega) (by simp) (by omega) (by simp) ⟨g, 0, none⟩ (.inr (by simp))
  have hs1 : w.heap.size + 1 ≤ w1.heap.size := by have := g1.size; simp at this; omega
  have old1 : ∀ j, j < w.heap.size → w1.heap[j]? = w.heap[j]? := fun j hj => (g1.block j (by simp; omega) (fun e => by simp [Value.ownBlock] at e; omega)).trans (hk0 j hj)
  have ht : (([] : List Tm) ++ (L.drop 0).take i) = L.take i := by simp
  rw [ht] at o1
  obtain ⟨v2, w2, r2, o2, g2⟩ := append_part o1 hrow (old1 g hrow.lt) (i + 1) (L.length - (i + 1)) (c - (i + 1)) (by omega) (by simp; omega) (by omega) (by omega) (if c = i + 1 then ⟨g, 0, none⟩ else ⟨g, (i + 1) * 6, none⟩) (by
    by_cases hc : c = i + 1
    · exact .inl (by omega)
    · rw [if_neg hc]; exact .inr rfl)
  have own1 := (its_of_row o1).2
  have old2 : ∀ j, j < w.heap.size → w2.heap[j]? = w.heap[j]? := fun j hj => (g2.block j (by omega) (fun e => by have := own1 j e.symm; omega)).trans (old1 j hj)
  have ht2 : L.take i ++ (L.drop (i + 1)).take (L.length - (i + 1)) = del L x.id := by
    rw [del_erase h.ok.srt hx, List.eraseIdx_eq_take_drop_succ, List.take_of_length_le (l := L.drop (i + 1)) (by simp)]
  rw [ht2] at o2
  obtain ⟨hI, hB⟩ := its_of_row o2
  have P := h.fresh old2 (by have := g2.size; omega) ⟨g2.os.trans g1.os, g2.tape.trans g1.tape, g2.output.trans g1.output⟩ hI hB (h.ok.del x.id)
  obtain ⟨a, k, hv2⟩ := hI.form
  exact ⟨v1, w1, v2, w2, r1, r2, old1 r h.lt, old2 r h.lt, ⟨a, _, k, hv2⟩, P.1, P.2, hB⟩
end

section
variable {w : World} {r : Nat} {v : Value} {L : List Tm}
set_option maxHeartbeats 3200000 in
theorem rend_dx (h : DX w r v L) (k : Int) : Calls Try.prog 25 #[.pointer (some ⟨r, 0, none⟩), .int .i64 k] w fun e w' => e = .returned (.int .i64 (if (fnd L k).isSome then 0 else 14)) ∧ ∃ v', DX w' r v' (del L k) ∧ Trn (Sr r v) w w' ∧ ∀ j, v'.ownBlock = some j → v.ownBlock = some j ∨ w.heap.size ≤ j := by
  cases hf : fnd L k with
  | none =>
    have C' := find_no h hf
    rw [del_none hf]
    have H0 : Hid (DX w r v L) := h
    simp only [Option.isSome_none, Bool.false_eq_true, if_false]
    clear h
    go_enter Try.func25, Try.ntmps25
    go_wp2_with fail
    refine C'.mono ?_
    rintro e w1 ⟨rfl, rfl⟩
    go_wp2_with fail
    go_ret
    exact ⟨rfl, v, H0.out, Trn.refl _ _, fun j hj => .inl hj⟩
  | some x =>
    obtain ⟨i, hi, C'⟩ := find_at h hf
    obtain rfl := (fnd_mem hf).2
    have hil := (List.getElem?_eq_some_iff.1 hi).1
    have h64 := h.ok.len
    obtain ⟨g, cc, rfl, hrow⟩ := h.row hi
    have hcap := hrow.cap
    have c0 := h.c0
    have hl := h.lt
    obtain ⟨v1, w1, v2, w2, hrun1, hrun2, hb1, hb2, ⟨a2, n2, k2, hv2⟩, P1, P2, P3⟩ := end_runs h hi
    subst hv2
    have hrun1 : (Builtin.append_ #[26, 26] 26 #[.slice (some ⟨w.heap.size, 0, none⟩) 0 0, .slice (some ⟨g, 0, none⟩) i cc]).run Try.prog (w.alloc (.cells #[] 63)).drew = .ok v1 w1 := hrun1
    have hob1 := hb1.trans h.ob
    have hob2 := hb2.trans h.ob
    have x1 : w1.cell? ⟨r, 0, none⟩ = some (.slice (some ⟨g, 0, none⟩) L.length cc) := by rw [cell_at hob1]; rfl
    have y1 : w2.cell? ⟨r, 0, none⟩ = some (.slice (some ⟨g, 0, none⟩) L.length cc) := by rw [cell_at hob2]; rfl
    have yf : w2.frozen? ⟨r, 0, none⟩ = false := fz_at hob2 0
    have xl := lt_of_heap hob1
    have yl := lt_of_heap hob2
    have HF : Hid (DX (w2.setCell ⟨r, 0, none⟩ (.slice a2 n2 k2)) r (.slice a2 n2 k2) (del L x.id) ∧ Trn (Sr r (.slice (some ⟨g, 0, none⟩) L.length cc)) w (w2.setCell ⟨r, 0, none⟩ (.slice a2 n2 k2)) ∧ ∀ k, (Value.slice a2 n2 k2).ownBlock = some k → (Value.slice (some ⟨g, 0, none⟩) L.length cc).ownBlock = some k ∨ w.heap.size ≤ k) := ⟨P1, P2, fun k hk => .inr (P3 k hk)⟩
    have q1 : (i : Int) ≤ (cc : Int) := by omega
    have q2 : (i : Int) + 1 ≤ (L.length : Int) := by omega
    have q3 : ¬ ((i : Int) < 0) := by omega
    have q4 : (0 : Int) ≤ (i : Int) + 1 ∧ (i : Int) + 1 ≤ (L.length : Int) := by omega
    have q5 : ((i : Int) + 1).toNat = i + 1 := by omega
    have hwr : IntKind.i64.wrap ((i : Int) + 1) = (i : Int) + 1 := by rw [IntKind.wrap_i64]; omega
    simp only [Option.isSome_some, if_true]
    clear h hrow P1 P2 P3 hob1 hob2 hb1 hb2 hf hi
    generalize L.length = n at *
    by_cases hc : cc = i + 1
    · rw [if_pos hc] at hrun2
      have hn : n = i + 1 := by omega
      subst hc hn
      simp only [Nat.sub_self] at hrun2
      have q6 : (i : Int) ≤ (i : Int) + 1 := by omega
      have q7 : (0 : Int) ≤ (i : Int) + 1 := by omega
      go_enter Try.func25, Try.ntmps25
      go_wp2_with fail
      refine C'.mono ?_
      rintro e w0 ⟨rfl, rfl⟩
      clear C'
      go_wp2_with fail
      go_region_law (first | (refine step_append26 rfl (.tmp 12) (.tmp 18) 26 rfl _ _ _ w1 (by rfl) (by rfl) hrun1 ?_) | (refine step_append26 rfl (.tmp 19) (.tmp 26) 26 rfl _ _ _ w2 (by rfl) (by rfl) hrun2 ?_))
      all_goals
        go_wp2_with fail
        go_ret
        exact ⟨rfl, _, HF.out⟩
    · rw [if_neg hc] at hrun2
      go_enter Try.func25, Try.ntmps25
      go_wp2_with fail
      refine C'.mono ?_
      rintro e w0 ⟨rfl, rfl⟩
      clear C'
      go_wp2_with fail
      go_region_law (first | (refine step_append26 rfl (.tmp 12) (.tmp 18) 26 rfl _ _ _ w1 (by rfl) (by rfl) hrun1 ?_) | (refine step_append26 rfl (.tmp 19) (.tmp 26) 26 rfl _ _ _ w2 (by rfl) (by rfl) hrun2 ?_))
      all_goals
        go_wp2_with fail
        go_ret
        exact ⟨rfl, _, HF.out⟩
end
end Go.Proofs.Ytgiafngiledmbaa
