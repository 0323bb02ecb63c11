/-
  A queue in the heap: a slice of numbers; one more, one less, who stands where, a copy.
-/
import Derived.Test.YtgdnklmnchcmeaaPl
import Derived.Test.YtgdnklmnchcmeaaShelf
import Derived.Maps.AppendAt
import Derived.Deep.RegionLaw
namespace Go.Proofs.Ytgdnklmnchcmeaa
open Go.RowKit Go.Maps Go.Sort
set_option linter.unusedVariables false
set_option maxRecDepth 100000

theorem info3 : ∃ i, Try.prog.info? 3 = some i ∧ i.zero = some (.int .i64 0) ∧ i.size = 1 ∧ i.bytes = 8 := by
  have h : (Try.prog.info? 3).map (fun i => (i.zero, i.size, i.bytes)) = some (some (.int .i64 0), 1, 8) := by kernel_rfl
  obtain ⟨i, hi, hb⟩ := Option.map_eq_some_iff.1 h
  simp only [Prod.mk.injEq] at hb
  exact ⟨i, hi, hb.1, hb.2.1, hb.2.2⟩
theorem add_plain (b o j : Nat) : (⟨b, o, none⟩ : Addr).add j = ⟨b, o + j, none⟩ := by unfold Addr.add; split <;> simp_all
def nv (xs : List Int) : List Value := xs.map (fun k : Int => Value.int .i64 k)
/-- block g has room for c numbers; the first are xs -/
def Row (w : World) (g c : Nat) (xs : List Int) : Prop :=
  ∃ cur : Array Value, w.heap[g]? = some (.cells cur 3 (0, 0)) ∧ cur.size = c ∧ xs.length ≤ c ∧ c ≤ maxLen ∧ ∀ i, i < xs.length → cur[i]? = some (.int .i64 (xs.getD i 0))
/-- a queue -/
def Qs (w : World) (v : Value) (xs : List Int) : Prop := (v = .slice none 0 0 ∧ xs = []) ∨ ∃ g c, v = .slice (some ⟨g, 0, none⟩) xs.length c ∧ Row w g c xs
section
variable {base : Nat} {w w' : World} {v : Value} {xs : List Int} {g c : Nat}
theorem Row.lt (h : Row w g c xs) : g < w.heap.size := by
  obtain ⟨cur, h, _⟩ := h
  exact lt_of_heap h
theorem Row.keep (h : Row w g c xs) (hk : w'.heap[g]? = w.heap[g]?) : Row w' g c xs := by
  obtain ⟨cur, h, r⟩ := h
  exact ⟨cur, hk.trans h, r⟩
theorem Row.at_ (h : Row w g c xs) {i : Nat} (hi : i < xs.length) : w.cell? ⟨g, i, none⟩ = some (.int .i64 (xs.getD i 0)) := by
  obtain ⟨cur, h, h1, h2, h3, h4⟩ := h
  rw [cell_at h]
  exact h4 i hi
theorem Row.f (h : Row w g c xs) (i : Nat) : w.frozen? ⟨g, i, none⟩ = false := by
  obtain ⟨cur, h, _⟩ := h
  exact fz_at h i
theorem Row.cap (h : Row w g c xs) : xs.length ≤ c ∧ c ≤ maxLen := by
  obtain ⟨cur, h, h1, h2, h3, h4⟩ := h
  exact ⟨h2, h3⟩
theorem Qs.keep (h : Qs w v xs) (hk : ∀ k, v.ownBlock = some k → w'.heap[k]? = w.heap[k]?) : Qs w' v xs := by
  rcases h with h | ⟨g, c, rfl, hr⟩
  · exact .inl h
  · exact .inr ⟨g, c, rfl, hr.keep (hk g rfl)⟩
theorem Qs.lt (h : Qs w v xs) (k : Nat) (hk : v.ownBlock = some k) : k < w.heap.size ∧ ∃ cs, w.heap[k]? = some (.cells cs 3 (0, 0)) := by
  rcases h with ⟨rfl, _⟩ | ⟨g, c, rfl, hr⟩
  · cases hk
  · cases hk
    exact ⟨hr.lt, by obtain ⟨cur, h, _⟩ := hr; exact ⟨cur, h⟩⟩
theorem Qs.below (h : Qs w v xs) (hb : Below w.heap.size w w') : Qs w' v xs := h.keep fun k hk => hb.block k (h.lt k hk).1
theorem Qs.form (h : Qs w v xs) : ∃ a c, v = .slice a xs.length c := by
  rcases h with ⟨rfl, rfl⟩ | ⟨g, c, rfl, _⟩
  · exact ⟨_, _, rfl⟩
  · exact ⟨_, _, rfl⟩
theorem Qs.pos (h : Qs w v xs) (h0 : 0 < xs.length) : ∃ g c, v = .slice (some ⟨g, 0, none⟩) xs.length c ∧ Row w g c xs := by
  rcases h with ⟨_, rfl⟩ | h
  · simp at h0
  · exact h
theorem nv_at {i : Nat} (hi : i < xs.length) : (nv xs)[i]? = some (.int .i64 (xs.getD i 0)) := by simp [nv, hi]
theorem Qs.row (h : Qs w v xs) : w.ownsRow 0 3 1 v xs.length (nv xs) := by
  refine ⟨by simp [nv], ?_⟩
  rcases h with ⟨rfl, rfl⟩ | ⟨g, c, rfl, cur, h, h1, h2, h3, h4⟩
  · exact .inl ⟨rfl, rfl⟩
  · refine .inr ⟨g, c, cur, rfl, Nat.zero_le _, h, h2, h3, by omega, ?_⟩
    apply List.ext_getElem?
    intro i
    by_cases hi : i < xs.length
    · rw [List.getElem?_take_of_lt (by omega), nv_at hi, ← h4 i hi]
      simp
    · rw [List.getElem?_eq_none (by simp; omega), List.getElem?_eq_none (by simp [nv]; omega)]
theorem qs_of_row (h : w.ownsRow base 3 1 v xs.length (nv xs)) : Qs w v xs ∧ ∀ k, v.ownBlock = some k → base ≤ k := by
  obtain ⟨_, ⟨rfl, h0⟩ | ⟨g, c, cur, rfl, hB, h, h2, h3, h1, h4⟩⟩ := h
  · exact ⟨.inl ⟨rfl, List.eq_nil_of_length_eq_zero h0⟩, fun k hk => by cases hk⟩
  · refine ⟨.inr ⟨g, c, rfl, cur, h, by omega, h2, h3, fun i hi => ?_⟩, fun k hk => by cases hk; exact hB⟩
    rw [← nv_at hi, ← h4, List.getElem?_take_of_lt (by omega)]
    simp
/-- one more -/
theorem Qs.push (h : Qs w v xs) (x : Int) (hl : xs.length ≤ 65536) :
    ∃ v' w', (Builtin.append_ #[57, 57] 57 #[v, .slice (some ⟨w.heap.size, 0, none⟩) 1 1]).run Try.prog (w.alloc (.cells #[.int .i64 x] 3)) = .ok v' w' ∧ Qs w' v' (xs ++ [x]) ∧ w.grownBy w' v.ownBlock ∧ w.heap.size ≤ w'.heap.size ∧ (v'.ownBlock = v.ownBlock ∨ v'.ownBlock = some (w.heap.size + 1)) := by
  obtain ⟨i, hi, hz, hs, hby⟩ := info3
  have hnew : ∀ j u, [Value.int .i64 x][j]? = some u → (w.alloc (.cells #[.int .i64 x] 3)).cell? ((⟨w.heap.size, 0, none⟩ : Addr).add j) = some u := fun j u hu => by
    rw [add_plain]
    simp only [World.cell?, heap_alloc_at, Nat.zero_add]
    simpa using hu
  have hone : ∀ u ∈ [Value.int .i64 x], u.oneCell' = true := fun u hu => by simp at hu; subst hu; rfl
  have ha : w.grownBy (w.alloc (.cells #[.int .i64 x] 3)) v.ownBlock := World.grownBy_alloc w _ _
  have h0 : (w.alloc (.cells #[.int .i64 x] 3)).ownsRow 0 3 1 v xs.length (nv xs) := World.ownsRow.alloc h.row _
  obtain ⟨v', w', hrun, h1, h2, _, h4⟩ := run_append_own_at (P := Try.prog) (w.alloc (.cells #[.int .i64 x] 3)) 0 57 57 3 i _ 1 i.bytes Try.underlying57 hi hz hs rfl rfl (by decide) v xs.length (nv xs) h0 ⟨w.heap.size, 0, none⟩ 1 1 [.int .i64 x] rfl hnew hone (by unfold maxLen; omega) (by rw [hby]; omega) (by simp)
  have h1' : w'.ownsRow 0 3 1 v' (xs ++ [x]).length (nv (xs ++ [x])) := by simpa [nv] using h1
  refine ⟨v', w', hrun, (qs_of_row h1').1, ?_, ?_, by simpa using h4⟩
  · exact ⟨h2.os.trans ha.os, h2.tape.trans ha.tape, h2.output.trans ha.output, Nat.le_trans ha.size h2.size, fun k hk hr => (h2.block k (Nat.lt_of_lt_of_le hk ha.size) hr).trans (ha.block k hk hr)⟩
  · have := ha.size
    have := h2.size
    omega
theorem take_all (l : List Int) : l.take l.length = l := List.take_length
theorem idx_at : ∀ (zs : List Int) (k : Int) (o : Nat), k ∈ zs → ∃ i : Nat, Lib.idxFrom zs k o = ((o + i : Nat) : Int) ∧ i < zs.length ∧ zs.getD i 0 = k ∧ ∀ j, j < i → zs.getD j 0 ≠ k
  | [], k, o, h => by cases h
  | z :: zs, k, o, h => by
    by_cases e : z = k
    · exact ⟨0, by simp [Lib.idxFrom, e], by simp, by simpa using e, fun j hj => absurd hj (by omega)⟩
    · have hk : k ∈ zs := by
        rcases List.mem_cons.1 h with h | h
        · exact absurd h.symm e
        · exact h
      obtain ⟨i, h1, h2, h3, h4⟩ := idx_at zs k (o + 1) hk
      refine ⟨i + 1, ?_, by simpa using h2, by simpa using h3, fun j hj => ?_⟩
      · simp only [Lib.idxFrom, if_neg e]
        rw [h1, show o + 1 + i = o + (i + 1) by omega]
      · match j, hj with
        | 0, _ => simpa using e
        | j + 1, hj => simpa using h4 j (by omega)
/-- where one stands -/
theorem index_qs (h : Qs w v xs) {k : Int} (hk : k ∈ xs) : ∃ i : Nat, i < xs.length ∧ xs.getD i 0 = k ∧ Calls Try.prog 51 #[v, .int .i64 k] w fun e w' => e = .returned (.int .i64 i) ∧ w' = w := by
  obtain ⟨g, c, rfl, hr⟩ := h.pos (List.length_pos_of_mem hk)
  obtain ⟨i, h1, h2, h3, _⟩ := idx_at xs k 0 hk
  have e0 : maxLen = 9223372036854775807 := by decide
  have hm : xs.length ≤ 9223372036854775807 := by have := hr.cap; omega
  have K := Try.slices_Index_int g 0 xs.length c xs k w (Nat.le_refl _) hm (fun j hj => by rw [Nat.zero_add]; exact hr.at_ hj)
  rw [take_all] at K
  refine ⟨i, h2, h3, K.mono ?_⟩
  rintro e w' ⟨rfl, rfl⟩
  refine ⟨?_, rfl⟩
  show Ending.returned (.int .i64 (Lib.idxFrom xs k 0)) = _
  rw [h1, Nat.zero_add]
theorem setCells_heap (g : Nat) (t : TypeId) : ∀ (vs : List Value) (o : Nat) (w : World) (cur : Array Value), w.heap[g]? = some (.cells cur t (0, 0)) → o + vs.length ≤ cur.size →
    ∃ cur', (w.setCells g o vs).heap[g]? = some (.cells cur' t (0, 0)) ∧ cur'.size = cur.size ∧ (∀ i, cur'[i]? = if o ≤ i ∧ i < o + vs.length then vs[i - o]? else cur[i]?) ∧ w.grownBy (w.setCells g o vs) (some g)
  | [], o, w, cur, h, hl => ⟨cur, h, rfl, fun i => by rw [if_neg (by simp <;> omega)], ⟨rfl, rfl, rfl, Nat.le_refl _, fun k _ _ => rfl⟩⟩
  | v :: r, o, w, cur, h, hl => by
    have e := setCell_eq_setRow w g o cur t (0, 0) v h
    have h1 : (w.setRow g (cur.setIfInBounds o v)).heap[g]? = _ := setRow_heap w g cur _ t _ h
    obtain ⟨cur', q1, q2, q3, q4⟩ := setCells_heap g t r (o + 1) _ _ h1 (by simp at hl ⊢; omega)
    refine ⟨cur', ?_, ?_, fun i => ?_, ?_⟩
    · rw [World.setCells, e]
      exact q1
    · simpa using q2
    · rw [q3 i]
      simp only [List.length_cons] at hl ⊢
      by_cases h0 : i = o
      · subst h0
        rw [if_neg (by omega), if_pos (by omega)]
        simp [show i < cur.size by omega]
      · by_cases h2 : o ≤ i ∧ i < o + (r.length + 1)
        · rw [if_pos h2, if_pos (by omega)]
          obtain ⟨j, rfl⟩ : ∃ j, i = o + 1 + j := ⟨i - (o + 1), by omega⟩
          rw [show o + 1 + j - (o + 1) = j by omega, show o + 1 + j - o = j + 1 by omega]
          simp
        · rw [if_neg h2, if_neg (by omega)]
          rw [Array.getElem?_setIfInBounds_ne (Ne.symm h0)]
    · rw [World.setCells, e]
      exact ⟨q4.os, q4.tape, q4.output, by have := q4.size; simpa [World.setRow] using this, fun k hk hne => (q4.block k (by simpa [World.setRow] using hk) hne).trans (setRow_other w g k _ (fun e => hne (by rw [e])))⟩
theorem filter_at : ∀ {xs : List Int} {i : Nat} {k : Int}, xs.Nodup → i < xs.length → xs.getD i 0 = k → xs.take i ++ xs.drop (i + 1) = xs.filter fun x => !(x == k)
  | [], _, _, _, h, _ => by simp at h
  | a :: r, 0, k, hd, _, e => by
    obtain ⟨h1, h2⟩ := List.nodup_cons.1 hd
    simp at e
    subst e
    rw [List.filter_cons_of_neg (by simp)]
    simp
    symm
    refine List.filter_eq_self.2 fun y hy => ?_
    have : y ≠ a := fun e => h1 (e ▸ hy)
    simpa using this
  | a :: r, i + 1, k, hd, hi, e => by
    obtain ⟨h1, h2⟩ := List.nodup_cons.1 hd
    simp at hi
    have e' : r.getD i 0 = k := by simpa using e
    have hm : k ∈ r := by rw [← e']; simp [List.getD, hi]
    have hne : a ≠ k := fun e => h1 (e ▸ hm)
    rw [List.filter_cons_of_pos (by simpa using hne)]
    simp only [List.take_succ_cons, List.drop_succ_cons, List.cons_append]
    exact congrArg _ (filter_at h2 hi e')
/-- one less -/
theorem delete_qs (h : Qs w v xs) (hd : xs.Nodup) {i : Nat} {k : Int} (hi : i < xs.length) (hk : xs.getD i 0 = k) :
    Calls Try.prog 52 #[v, .int .i64 i, .int .i64 ((i : Int) + 1)] w fun e w' => ∃ v', e = .returned v' ∧ v'.ownBlock = v.ownBlock ∧ Qs w' v' (xs.filter fun x => !(x == k)) ∧ w.grownBy w' v.ownBlock := by
  obtain ⟨g, c, rfl, hr⟩ := h.pos (by omega)
  have hcap := hr.cap
  have e0 : maxLen = 9223372036854775807 := by decide
  have K := Try.slices_Delete_int_cells g 0 xs.length c i (i + 1) xs w (Nat.le_refl _) hcap.1 (by omega) (by omega) (by omega) (fun j hj => by rw [Nat.zero_add]; exact hr.at_ hj) (fun j _ => hr.f _)
  rw [take_all, filter_at hd hi hk, show i + 1 - i = 1 by omega] at K
  have hl : (xs.filter fun x => !(x == k)).length + 1 = xs.length := by
    rw [← filter_at hd hi hk]
    simp
    omega
  obtain ⟨ys, hy⟩ : ∃ ys, (xs.filter fun x => !(x == k)) = ys := ⟨_, rfl⟩
  rw [hy] at K hl ⊢
  have e1 : ((i : Int) + 1) = ((i + 1 : Nat) : Int) := by omega
  rw [e1]
  refine K.mono ?_
  rintro e w' ⟨rfl, q, rfl⟩
  obtain ⟨cur, h0, h1, h2, h3, h4⟩ := hr
  obtain ⟨cur', r1, r2, r3, r4⟩ := setCells_heap g 3 ((ys ++ List.replicate 1 0).map (Value.int .i64)) 0 (w.drewN q) cur h0 (by simp; omega)
  refine ⟨_, rfl, rfl, .inr ⟨g, c, by rw [show xs.length - 1 = ys.length by omega], cur', r1, by omega, by omega, h3, fun j hj => ?_⟩, ⟨r4.os, r4.tape, r4.output, r4.size, r4.block⟩⟩
  rw [r3, if_pos (by simp; omega), Nat.sub_zero, List.map_append, List.getElem?_append_left (by simpa using hj)]
  simp [hj]
/-- a copy -/
theorem clone_qs (h : Qs w v xs) (hl : xs.length ≤ 100000) : Calls Try.prog 45 #[v] w fun e w' => ∃ v', e = .returned v' ∧ Qs w' v' xs ∧ (∀ k, v'.ownBlock = some k → w.heap.size ≤ k) ∧ Below w.heap.size w w' := by
  rcases h with ⟨rfl, rfl⟩ | ⟨g, c, rfl, hr⟩
  · refine (Try.slices_Clone_int_nil 0 0 w).mono ?_
    rintro e w' ⟨rfl, rfl⟩
    exact ⟨_, rfl, .inl ⟨rfl, rfl⟩, (fun k hk => by cases hk), Below.refl _ _⟩
  · have K := Try.slices_Clone_int g 0 xs.length c xs w (Nat.le_refl _) (by omega) (fun j hj => by rw [Nat.zero_add]; exact hr.at_ hj)
    rw [take_all] at K
    refine K.mono ?_
    rintro e w' ⟨v', rfl, h1, _, h2⟩
    obtain ⟨h3, h4⟩ := qs_of_row h1
    exact ⟨v', rfl, h3, h4, h2⟩
end
section
variable {w : World} {v : Value} {xs : List Int}
/-- a function that is asked of each, and tells P -/
structure Asks (fv : Value) (f : FuncId) (pre : Array Value) (post : Array Value) (xs : List Int) (P : Int → Bool) (w : World) : Prop where
  val : fv = .func (.func f) pre post
  enter : ∀ (args : Array Value) (w : World), (callFunc f args).run Try.prog w = .ok (.enter f args) w
  call : ∀ W, Below w.heap.size w W → ∀ k ∈ xs, Calls Try.prog f (pre ++ #[.int .i64 k] ++ post) W fun e w' => e = .returned (.bool (P k)) ∧ Below W.heap.size W w'
/-- what slices.IndexFunc tells -/
def IxP (w : World) (xs : List Int) (P : Int → Bool) (e : Ending) (w' : World) : Prop :=
  Below w.heap.size w w' ∧ ((e = .returned (.int .i64 (-1)) ∧ ∀ k ∈ xs, P k = false) ∨ ∃ i : Nat, i < xs.length ∧ e = .returned (.int .i64 i) ∧ xs.find? P = some (xs.getD i 0))
set_option maxHeartbeats 800000 in
theorem indexf_qs {fv : Value} {f : FuncId} {pre post : Array Value} {P : Int → Bool} (h : Qs w v xs) (A : Asks fv f pre post xs P w) (hl : xs.length ≤ 100000) :
    Calls Try.prog 49 #[v, fv] w (IxP w xs P) := by
  have HF : Hid (∀ i, i < xs.length → P (xs.getD i 0) = true → (∀ k, k < i → P (xs.getD k 0) = false) → xs.find? P = some (xs.getD i 0)) := fun i hi h1 h2 => by
    rw [List.find?_eq_some_iff_getElem]
    refine ⟨h1, i, hi, by simp [List.getD, hi], fun j hj => ?_⟩
    have := h2 j hj
    simpa [List.getD, show j < xs.length by omega] using this
  obtain ⟨a, c, hv⟩ := h.form
  obtain rfl := A.val
  have hcf := A.enter
  subst hv
  have HQ : Hid (Qs w (.slice a xs.length c) xs) := h
  have HA : Hid (_) := A
  obtain ⟨n, hn⟩ : ∃ n, n = xs.length := ⟨_, rfl⟩
  have HN : Hid (n = xs.length) := hn
  rw [← hn] at hl ⊢
  clear h A hn
  go_enter Try.func49, Try.ntmps49
  go_wp2_with fail
  go_loopw [8] (fun i wr => ∃ j : Nat, j ≤ n ∧ i = .int .i64 j ∧ Hid (Below w.heap.size w wr ∧ ∀ k, k < j → P (xs.getD k 0) = false)) (fun i _ => n - (intOf i).toNat)
  case atStart => exact ⟨0, by omega, rfl, Below.refl _ _, fun k hk => absurd hk (by omega)⟩
  case round =>
    obtain ⟨j, hj, rfl, HJ⟩ := hrel
    by_cases hjn : j < n
    · have hjn' : (j : Int) < (n : Int) := by omega
      have hjl : j < xs.length := by have := HN.out; omega
      have HG : Hid (∃ g, a = some ⟨g, 0, none⟩ ∧ Row wr g c xs) := by
        obtain ⟨g, c', e, hr⟩ := HQ.out.pos (by omega)
        cases e
        exact ⟨g, rfl, hr.keep (HJ.out.1.block g hr.lt)⟩
      obtain ⟨g, rfl, hr⟩ := HG.out
      have c0 := hr.at_ hjl
      have gl := hr.lt
      have C := HA.out.call wr HJ.out.1 (xs.getD j 0) (by simp [List.getD, hjl])
      clear hr HG
      obtain ⟨k, hk⟩ : ∃ k, xs.getD j 0 = k := ⟨_, rfl⟩
      rw [hk] at c0 C
      have HK : Hid (xs.getD j 0 = k) := hk
      clear hk
      cases hP : P k with
      | false =>
        have H1 : Hid (∀ q, q < j + 1 → P (xs.getD q 0) = false) := fun q hq => by
          rcases Nat.lt_succ_iff_lt_or_eq.1 hq with h | rfl
          · exact HJ.out.2 q h
          · rw [HK.out]; exact hP
        rw [hP] at C
        go_wp2_with fail
        refine C.mono ?_
        rintro e y1 ⟨rfl, hb1⟩
        have HB : Hid (Below w.heap.size w y1) := HJ.out.1.trans (hb1.mono HJ.out.1.size)
        clear hb1 C HJ c0
        go_wp2_with fail
        go_roundw
        case rel => exact ⟨j + 1, by omega, by go_num, HB.out, H1.out⟩
        case measure => simp [intOf]; omega
      | true =>
        have H1 : Hid (xs.find? P = some (xs.getD j 0)) := HF.out j hjl (by rw [HK.out]; exact hP) HJ.out.2
        rw [hP] at C
        go_wp2_with fail
        refine C.mono ?_
        rintro e y1 ⟨rfl, hb1⟩
        have HB : Hid (Below w.heap.size w y1) := HJ.out.1.trans (hb1.mono HJ.out.1.size)
        clear hb1 C HJ c0
        go_wp2_with fail
        go_ret
        exact ⟨HB.out, .inr ⟨j, hjl, rfl, H1.out⟩⟩
    · obtain rfl : j = n := by omega
      have H1 : Hid (∀ k ∈ xs, P k = false) := fun k hk => by
        obtain ⟨i, hi⟩ := List.getElem?_of_mem hk
        have hi2 := (List.getElem?_eq_some_iff.1 hi).1
        have := HJ.out.2 i (by have := HN.out; omega)
        simpa [List.getD, hi] using this
      go_wp2_with fail
      go_ret
      exact ⟨HJ.out.1, .inl ⟨rfl, H1.out⟩⟩
end
end Go.Proofs.Ytgdnklmnchcmeaa
