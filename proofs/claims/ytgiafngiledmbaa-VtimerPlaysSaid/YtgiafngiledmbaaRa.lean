/-
  The document's timers in the heap: a row of structs of six cells; what capped, of and Find tell.
-/
import Derived.Test.YtgiafngiledmbaaMp
import Derived.Maps.AppendAt
import Derived.Deep.RegionLaw
namespace Go.Proofs.Ytgiafngiledmbaa
open Go.RowKit Go.Maps
set_option linter.unusedVariables false
set_option maxRecDepth 100000

/-- one's cells -/
def ic (x : Tm) : List Value := [.int .i64 x.id, .int .u64 x.base, .bool x.halted, .int .u64 x.still, .bool x.set, .int .u64 x.due]
theorem ic_len (x : Tm) : (ic x).length = 6 := rfl
/-- block g has room for c of them; the first are L -/
def Row (w : World) (g c : Nat) (L : List Tm) : Prop :=
  ∃ cur : Array Value, w.heap[g]? = some (.cells cur 63 (0, 0)) ∧ cur.size = c * 6 ∧ L.length ≤ c ∧ c ≤ maxLen ∧ ∀ i, i < L.length → ∀ j, j < 6 → cur[i * 6 + j]? = (ic (L.getD i t0))[j]?
def Its (w : World) (v : Value) (L : List Tm) : Prop := (v = .slice none 0 0 ∧ L = []) ∨ ∃ g c, v = .slice (some ⟨g, 0, none⟩) L.length c ∧ Row w g c L
section
variable {w w' : World} {g c : Nat} {L : List Tm} {v : Value}
theorem Row.lt (h : Row w g c L) : g < w.heap.size := by
  obtain ⟨cur, h, _⟩ := h
  exact lt_of_heap h
theorem Row.keep (h : Row w g c L) (hk : w'.heap[g]? = w.heap[g]?) : Row w' g c L := by
  obtain ⟨cur, h, r⟩ := h
  exact ⟨cur, hk.trans h, r⟩
theorem Row.cap (h : Row w g c L) : L.length ≤ c ∧ c ≤ maxLen := by
  obtain ⟨cur, h, h1, h2, h3, h4⟩ := h
  exact ⟨h2, h3⟩
theorem Row.cj (h : Row w g c L) {i : Nat} (hi : i < L.length) {j : Nat} (hj : j < 6) : w.cell? ⟨g, i * 6 + j, none⟩ = (ic (L.getD i t0))[j]? := by
  obtain ⟨cur, h, h1, h2, h3, h4⟩ := h
  rw [cell_at h, h4 i hi j hj]
theorem Row.all (h : Row w g c L) {i : Nat} {x : Tm} (hx : L[i]? = some x) :
    w.cell? ⟨g, i * 6, none⟩ = some (.int .i64 x.id) ∧ w.cell? ⟨g, i * 6 + 1, none⟩ = some (.int .u64 x.base) ∧ w.cell? ⟨g, i * 6 + 2, none⟩ = some (.bool x.halted) ∧
      w.cell? ⟨g, i * 6 + 3, none⟩ = some (.int .u64 x.still) ∧ w.cell? ⟨g, i * 6 + 4, none⟩ = some (.bool x.set) ∧ w.cell? ⟨g, i * 6 + 5, none⟩ = some (.int .u64 x.due) := by
  have hi : i < L.length := (List.getElem?_eq_some_iff.1 hx).1
  have e : L.getD i t0 = x := by simp [List.getD, hx]
  have q := fun j hj => h.cj hi (j := j) hj
  rw [e] at q
  exact ⟨q 0 (by decide), q 1 (by decide), q 2 (by decide), q 3 (by decide), q 4 (by decide), q 5 (by decide)⟩
theorem Row.f (h : Row w g c L) (i : Nat) : w.frozen? ⟨g, i, none⟩ = false := by
  obtain ⟨cur, h, _⟩ := h
  exact fz_at h i
/-- one of them stored -/
theorem Row.put (h : Row w g c L) {i : Nat} {x y : Tm} (hx : L[i]? = some x) (j : Nat) (hj : j < 6) (u : Value) (hu : (ic x).set j u = ic y) :
    Row (w.setCell ⟨g, i * 6 + j, none⟩ u) g c (L.set i y) := by
  have hi : i < L.length := (List.getElem?_eq_some_iff.1 hx).1
  have e : L.getD i t0 = x := by simp [List.getD, hx]
  obtain ⟨cur, h, h1, h2, h3, h4⟩ := h
  refine ⟨_, heap_setCell h _ _, by simpa using h1, by simpa using h2, h3, fun a ha b hb => ?_⟩
  have ha' : a < L.length := by simpa using ha
  rw [Array.getElem?_setIfInBounds]
  by_cases ea : a = i
  · subst ea
    have hg : (L.set a y).getD a t0 = y := by simp [List.getD, hi]
    rw [hg, ← hu]
    by_cases eb : b = j
    · subst eb
      rw [if_pos rfl, if_pos (by omega)]
      simp [ic_len, hb]
    · rw [if_neg (by omega), h4 a hi b hb, e, List.getElem?_set_ne (fun h => eb h.symm)]
  · have hg : (L.set i y).getD a t0 = L.getD a t0 := by simp only [List.getD, List.getElem?_set_ne (fun h => ea h.symm)]
    rw [hg, if_neg (by omega), h4 a ha' b hb]
theorem Its.keep (h : Its w v L) (hk : ∀ k, v.ownBlock = some k → w'.heap[k]? = w.heap[k]?) : Its w' v L := by
  rcases h with h | ⟨g, c, rfl, hr⟩
  · exact .inl h
  · exact .inr ⟨g, c, rfl, hr.keep (hk g rfl)⟩
theorem Its.lt (h : Its w v L) (k : Nat) (hk : v.ownBlock = some k) : k < w.heap.size ∧ ∃ cs, w.heap[k]? = some (.cells cs 63 (0, 0)) := by
  rcases h with ⟨rfl, _⟩ | ⟨g, c, rfl, hr⟩
  · cases hk
  · cases hk
    exact ⟨hr.lt, by obtain ⟨cur, h, _⟩ := hr; exact ⟨cur, h⟩⟩
theorem Its.form (h : Its w v L) : ∃ a c, v = .slice a L.length c := by
  rcases h with ⟨rfl, rfl⟩ | ⟨g, c, rfl, _⟩
  · exact ⟨_, _, rfl⟩
  · exact ⟨_, _, rfl⟩
theorem Its.row (h : Its w v L) (h0 : 0 < L.length) : ∃ g c, v = .slice (some ⟨g, 0, none⟩) L.length c ∧ Row w g c L := by
  rcases h with ⟨_, rfl⟩ | h
  · simp at h0
  · exact h
end
/-- the document's timers: their block r, their row v -/
structure DX (w : World) (r : Nat) (v : Value) (L : List Tm) : Prop where
  ob : w.heap[r]? = some (.cells #[v] 28 (0, 0))
  its : Its w v L
  ok : LOk L
/-- what a call may turn -/
def Sr (r : Nat) (v : Value) (k : Nat) : Prop := k = r ∨ v.ownBlock = some k
section
variable {w w' : World} {r : Nat} {v : Value} {L : List Tm}
theorem DX.lt (h : DX w r v L) : r < w.heap.size := lt_of_heap h.ob
theorem DX.ne (h : DX w r v L) : v.ownBlock ≠ some r := fun e => by
  obtain ⟨_, cs, h1⟩ := h.its.lt r e
  exact ne_typ h1 h.ob (by decide) rfl
theorem DX.keep (h : DX w r v L) (hr : w'.heap[r]? = w.heap[r]?) (hg : ∀ k, v.ownBlock = some k → w'.heap[k]? = w.heap[k]?) : DX w' r v L := ⟨hr.trans h.ob, h.its.keep hg, h.ok⟩
theorem DX.below (h : DX w r v L) (hk : Below w.heap.size w w') : DX w' r v L := h.keep (hk.block r h.lt) fun k hv => hk.block k (h.its.lt k hv).1
theorem DX.c0 (h : DX w r v L) : w.cell? ⟨r, 0, none⟩ = some v := by rw [cell_at h.ob]; rfl
theorem DX.f0 (h : DX w r v L) : w.frozen? ⟨r, 0, none⟩ = false := fz_at h.ob 0
end
theorem capped_any (n : Int) (w : World) : Calls Try.prog 30 #[.int .u64 n] w fun e w' => e = .returned (.int .u64 (cap n)) ∧ w' = w := by
  by_cases h : 4611686018427387904 < n
  · have e : cap n = 4611686018427387904 := by unfold cap; omega
    rw [e]
    go_enter Try.func30, Try.ntmps30
    go_wp2_with fail
    go_ret
    exact ⟨rfl, rfl⟩
  · have e : cap n = n := by unfold cap; omega
    rw [e]
    go_enter Try.func30, Try.ntmps30
    go_wp2_with fail
    go_ret
    exact ⟨rfl, rfl⟩
def tv (x : Tm) : Value := .agg #[.int .i64 x.id, .int .u64 x.base, .bool x.halted, .int .u64 x.still, .bool x.set, .int .u64 x.due]
theorem of_any (x : Tm) (hx : x.Ok) (c : Int) (hc : 0 ≤ c) (w : World) : Calls Try.prog 29 #[tv x, .int .u64 c] w fun e w' => e = .returned (.int .u64 (tm x c)) ∧ Below w.heap.size w w' := by
  have HB : Hid (Below w.heap.size w (w.alloc (.cells #[.int .i64 x.id, .int .u64 x.base, .bool x.halted, .int .u64 x.still, .bool x.set, .int .u64 x.due] 63))) := below_box w _
  have K := fun w' => capped_any c w'
  have hb0 := hx.b0
  have c1 := cap_le c
  have c2 := cap_0 hc
  unfold tv
  clear hx
  generalize hcc : cap c = cc at *
  cases hh : x.halted with
  | true =>
    have e : tm x c = x.still := by unfold tm; rw [hh]; rfl
    rw [e]
    rw [hh] at HB
    clear hcc e
    go_enter Try.func29, Try.ntmps29
    go_wp2_with fail
    refine (K _).mono ?_
    rintro e w1 ⟨rfl, rfl⟩
    go_wp2_with fail
    go_ret
    exact ⟨rfl, HB.out⟩
  | false =>
    by_cases hlt : cc < x.base
    · have e : tm x c = 0 := by unfold tm; rw [hh, hcc]; simp [hlt]
      rw [e]
      rw [hh] at HB
      clear hcc e
      go_enter Try.func29, Try.ntmps29
      go_wp2_with fail
      refine (K _).mono ?_
      rintro e w1 ⟨rfl, rfl⟩
      go_wp2_with fail
      go_ret
      exact ⟨rfl, HB.out⟩
    · have e : tm x c = cc - x.base := by unfold tm; rw [hh, hcc]; simp [hlt]
      rw [e]
      rw [hh] at HB
      have hw : IntKind.u64.wrap (cc - x.base) = cc - x.base := by rw [IntKind.wrap_u64]; omega
      clear hcc e
      go_enter Try.func29, Try.ntmps29
      go_wp2_with fail
      refine (K _).mono ?_
      rintro e w1 ⟨rfl, rfl⟩
      go_wp2_with fail
      go_ret
      exact ⟨rfl, HB.out⟩
section
variable {w : World} {r : Nat} {v : Value} {L : List Tm}
set_option maxHeartbeats 800000 in
theorem find_dx (h : DX w r v L) (k : Int) : Calls Try.prog 28 #[.pointer (some ⟨r, 0, none⟩), .int .i64 k] w fun e w' => w' = w ∧
      ((e = .returned (.int .i64 (-1)) ∧ fnd L k = none) ∨ ∃ i : Nat, ∃ x, e = .returned (.int .i64 i) ∧ L[i]? = some x ∧ x.id = k ∧ fnd L k = some x) := by
  have c1 := h.c0
  have hrl := h.lt
  have HO : Hid (LOk L) := h.ok
  have hn64 := h.ok.len
  have HI : Hid (Its w v L) := h.its
  obtain ⟨a, c, hv⟩ := HI.out.form
  subst hv
  clear h
  obtain ⟨n, hn⟩ : ∃ n, n = L.length := ⟨_, rfl⟩
  rw [← hn] at c1 HI hn64
  have HN : Hid (n = L.length) := hn
  clear hn
  go_enter Try.func28, Try.ntmps28
  go_wp2_with fail
  go_loopw [5] (fun q wr => wr = w ∧ ∃ j : Nat, j ≤ n ∧ q = .int .i64 j ∧ Hid (∀ i x, i < j → L[i]? = some x → x.id ≠ k)) (fun q _ => n - (intOf q).toNat)
  case atStart => exact ⟨rfl, 0, by omega, rfl, fun i x hi => absurd hi (by omega)⟩
  case round =>
    obtain ⟨rfl, j, hj, rfl, HJ⟩ := hrel
    by_cases hjn : j < n
    · have hjn' : (j : Int) < (n : Int) := by omega
      have HR : Hid (∃ g, a = some ⟨g, 0, none⟩ ∧ Row wr g c L) := by
        obtain ⟨g, c', e, hr⟩ := HI.out.row (by have := HN.out; omega)
        cases e
        exact ⟨g, rfl, hr⟩
      obtain ⟨g, rfl, hrow⟩ := HR.out
      obtain ⟨x, hx⟩ : ∃ x, L[j]? = some x := ⟨_, List.getElem?_eq_getElem (by have := HN.out; omega)⟩
      obtain ⟨d0, d1, d2, d3, d4, d5⟩ := hrow.all hx
      have hgl := hrow.lt
      clear hrow HR
      by_cases hid : x.id = k
      · have HF : Hid (fnd L k = some x) := by rw [← hid]; exact fnd_of HO.out (List.mem_of_getElem? hx)
        go_wp2_with fail
        go_ret
        exact ⟨rfl, .inr ⟨j, x, rfl, hx, hid, HF.out⟩⟩
      · have HS : Hid (∀ i y, i < j + 1 → L[i]? = some y → y.id ≠ k) := fun i y hi hy => by
          rcases Nat.lt_succ_iff_lt_or_eq.1 hi with h' | rfl
          · exact HJ.out i y h' hy
          · rw [hx] at hy; cases hy; exact hid
        go_wp2_with fail
        go_roundw
        case rel => exact ⟨by trivial, j + 1, by omega, by go_num, HS.out⟩
        case measure => simp [intOf]; omega
    · obtain rfl : j = n := by omega
      have HF : Hid (fnd L k = none) := by
        unfold fnd
        refine List.find?_eq_none.2 fun y hy => ?_
        obtain ⟨i, hi⟩ := List.getElem?_of_mem hy
        have := HJ.out i y (by have := (List.getElem?_eq_some_iff.1 hi).1; have := HN.out; omega) hi
        simpa using this
      go_wp2_with fail
      go_ret
      exact ⟨rfl, .inl ⟨rfl, HF.out⟩⟩
end
end Go.Proofs.Ytgiafngiledmbaa
