/-
  The document's Now, Set and Halt.
-/
import Derived.Test.YtgiafngiledmbaaRa
import Derived.Test.YtgiafngiledmbaaCm
import Derived.Deep.RegionWith
namespace Go.Proofs.Ytgiafngiledmbaa
open Go.RowKit Go.Maps
set_option linter.unusedVariables false
set_option maxRecDepth 100000
theorem mod_set : ∀ {L : List Tm}, L.Pairwise (fun a b => a.id < b.id) → ∀ {i : Nat} {x : Tm}, L[i]? = some x → ∀ f : Tm → Tm, mod L x.id f = L.set i (f x)
  | [], _, _, _, h, _ => by simp at h
  | y :: r, hp, 0, x, h, f => by
    obtain ⟨h1, h2⟩ := List.pairwise_cons.1 hp
    simp at h
    subst h
    show (if y.id = y.id then f y else y) :: r.map _ = f y :: r
    rw [if_pos rfl]
    refine congrArg _ ((List.map_congr_left fun z hz => ?_).trans (List.map_id r))
    have := h1 z hz
    rw [if_neg (by omega)]
    rfl
  | y :: r, hp, i + 1, x, h, f => by
    obtain ⟨h1, h2⟩ := List.pairwise_cons.1 hp
    simp at h
    have := h1 x (List.mem_of_getElem? h)
    show (if y.id = x.id then f y else y) :: r.map _ = y :: r.set i (f x)
    rw [if_neg (by omega)]
    exact congrArg _ (mod_set h2 h f)
theorem LOk.set {L : List Tm} (h : LOk L) {i : Nat} {x y : Tm} (hx : L[i]? = some x) (hid : y.id = x.id) (hy : y.Ok) : LOk (L.set i y) := by
  have hm := mod_set h.srt hx (fun z => ⟨z.id, y.base, y.halted, y.still, y.set, y.due⟩)
  have he : (⟨x.id, y.base, y.halted, y.still, y.set, y.due⟩ : Tm) = y := by rw [← hid]
  rw [he] at hm
  rw [← hm]
  exact h.mod x.id (fun _ => rfl) fun z hz => by
    rw [fnd_of h (List.mem_of_getElem? hx)] at hz
    cases hz
    rw [he]
    exact hy
section
variable {w : World} {r g c n : Nat} {v : Value} {L : List Tm} {i : Nat} {x y : Tm}
theorem DX.put (h : DX w r (.slice (some ⟨g, 0, none⟩) n c) L) (hx : L[i]? = some x) (hid : y.id = x.id) (hy : y.Ok) (j : Nat) (hj : j < 6) (u : Value) (hu : (ic x).set j u = ic y) :
    DX (w.setCell ⟨g, i * 6 + j, none⟩ u) r (.slice (some ⟨g, 0, none⟩) n c) (L.set i y) ∧ Trn (Sr r (.slice (some ⟨g, 0, none⟩) n c)) w (w.setCell ⟨g, i * 6 + j, none⟩ u) := by
  obtain ⟨g', c', e, hr⟩ := h.its.row (by have := (List.getElem?_eq_some_iff.1 hx).1; omega)
  cases e
  obtain ⟨cur, h1, _⟩ := id hr
  have ht : Trn (fun k => k = g) w (w.setCell ⟨g, i * 6 + j, none⟩ u) := trn_set1 h1 _ _
  refine ⟨⟨(ht.block r h.lt (fun e => h.ne (by rw [e]; rfl))).trans h.ob, .inr ⟨g, c, by simp, hr.put hx j hj u hu⟩, h.ok.set hx hid hy⟩, ht.mono fun k _ e => .inr (by rw [e]; rfl)⟩
theorem DX.row (h : DX w r v L) (hx : L[i]? = some x) : ∃ g c, v = .slice (some ⟨g, 0, none⟩) L.length c ∧ Row w g c L := h.its.row (by have := (List.getElem?_eq_some_iff.1 hx).1; omega)
theorem DX.drew (h : DX w r v L) : DX w.drew r v L := h.keep rfl fun _ _ => rfl
theorem ix_one {i j : Nat} {x' : Tm} (h : LOk L) (hx : L[i]? = some x) (hy : L[j]? = some x') (he : x.id = x'.id) : i = j := by
  obtain ⟨hi1, e1⟩ := List.getElem?_eq_some_iff.1 hx
  obtain ⟨hi2, e2⟩ := List.getElem?_eq_some_iff.1 hy
  have hp := List.pairwise_iff_getElem.1 h.srt
  rcases Nat.lt_trichotomy i j with hlt | heq | hgt
  · have := hp i j hi1 hi2 hlt; rw [e1, e2] at this; omega
  · exact heq
  · have := hp j i hi2 hi1 hgt; rw [e1, e2] at this; omega
theorem find_no (h : DX w r v L) {k : Int} (hf : fnd L k = none) : Calls Try.prog 28 #[.pointer (some ⟨r, 0, none⟩), .int .i64 k] w fun e w' => e = .returned (.int .i64 (-1)) ∧ w' = w :=
  (find_dx h k).mono fun e w' ⟨h1, h2⟩ => by
    rcases h2 with ⟨h2, _⟩ | ⟨i, x, _, _, _, h3⟩
    · exact ⟨h2, h1⟩
    · rw [hf] at h3; cases h3
theorem find_at (h : DX w r v L) {k : Int} (hf : fnd L k = some x) : ∃ i : Nat, L[i]? = some x ∧ Calls Try.prog 28 #[.pointer (some ⟨r, 0, none⟩), .int .i64 k] w fun e w' => e = .returned (.int .i64 i) ∧ w' = w := by
  obtain ⟨i, hi⟩ := List.getElem?_of_mem (fnd_mem hf).1
  refine ⟨i, hi, (find_dx h k).mono fun e w' ⟨h1, h2⟩ => ?_⟩
  rcases h2 with ⟨_, h2⟩ | ⟨i', x', h2, h4, _, h3⟩
  · rw [hf] at h2; cases h2
  · rw [hf] at h3
    cases h3
    have := ix_one h.ok hi h4 rfl
    subst this
    exact ⟨h2, h1⟩
set_option maxHeartbeats 800000 in
theorem rnow_dx (h : DX w r v L) (k cl : Int) (hc : 0 ≤ cl) : Calls Try.prog 11 #[.pointer (some ⟨r, 0, none⟩), .int .i64 k, .int .u64 cl] w fun e w' => e = .returned (.tuple #[.int .u64 (nowR L k cl), .bool (fnd L k).isSome]) ∧ Below w.heap.size w w' := by
  unfold nowR
  cases hf : fnd L k with
  | none =>
    have C' := find_no h hf
    clear h
    go_enter Try.func11, Try.ntmps11
    go_wp2_with fail
    refine C'.mono ?_
    rintro e w1 ⟨rfl, rfl⟩
    go_wp2_with fail
    go_ret2
    exact ⟨rfl, Below.refl _ _⟩
  | some x =>
    have hox := h.ok.ok x (fnd_mem hf).1
    obtain ⟨i, hi, C'⟩ := find_at h hf
    have K := fun w' => of_any x hox cl hc w'
    have hil := (List.getElem?_eq_some_iff.1 hi).1
    have h64 := h.ok.len
    obtain ⟨g, c, rfl, hrow⟩ := h.row hi
    have c0 := h.c0
    have hl := h.lt
    obtain ⟨d0, d1, d2, d3, d4, d5⟩ := hrow.all hi
    have hgl := hrow.lt
    unfold tv at K
    simp only [Option.isSome_some]
    generalize tm x cl = rr at *
    generalize L.length = n at *
    have hin : (i : Int) < (n : Int) := by omega
    clear h hrow hf hox hi
    go_enter Try.func11, Try.ntmps11
    go_wp2_with fail
    refine C'.mono ?_
    rintro e w1 ⟨rfl, rfl⟩
    go_wp2_with fail
    refine (K _).mono ?_
    rintro e w1 ⟨rfl, hb⟩
    go_wp2_with fail
    go_ret2
    exact ⟨rfl, hb⟩
/-- its cells, to be read and written -/
theorem DX.cs (h : DX w r (.slice (some ⟨g, 0, none⟩) n c) L) (hi : L[i]? = some x) : (w.cell? ⟨r, 0, none⟩ = some (.slice (some ⟨g, 0, none⟩) n c) ∧ r < w.heap.size ∧ g < w.heap.size) ∧ (∀ o, w.frozen? ⟨g, o, none⟩ = false) ∧ w.cell? ⟨g, i * 6, none⟩ = some (.int .i64 x.id) ∧ w.cell? ⟨g, i * 6 + 1, none⟩ = some (.int .u64 x.base) ∧ w.cell? ⟨g, i * 6 + 2, none⟩ = some (.bool x.halted) ∧
      w.cell? ⟨g, i * 6 + 3, none⟩ = some (.int .u64 x.still) ∧ w.cell? ⟨g, i * 6 + 4, none⟩ = some (.bool x.set) ∧ w.cell? ⟨g, i * 6 + 5, none⟩ = some (.int .u64 x.due) := by
  obtain ⟨g', c', e, hr⟩ := h.row hi
  cases e
  exact ⟨⟨h.c0, h.lt, hr.lt⟩, hr.f, hr.all hi⟩
set_option maxHeartbeats 800000 in
theorem rset_dx (h : DX w r v L) (k nn : Int) (hn : 0 ≤ nn) (is : Bool) : Calls Try.prog 22 #[.pointer (some ⟨r, 0, none⟩), .int .i64 k, .int .u64 nn, .bool is] w fun e w' => e = .returned (.int .i64 (if (fnd L k).isSome then 0 else 14)) ∧ DX w' r v (mod L k (stD nn is)) ∧ Trn (Sr r v) w w' := by
  cases hf : fnd L k with
  | none =>
    have C' := find_no h hf
    rw [mod_none hf]
    have H0 : Hid (DX w r v L) := h
    simp only [Option.isSome_none, Bool.false_eq_true, if_false]
    clear h
    go_enter Try.func22, Try.ntmps22
    go_wp2_with fail
    refine C'.mono ?_
    rintro e w1 ⟨rfl, rfl⟩
    go_wp2_with fail
    go_ret
    exact ⟨rfl, H0.out, Trn.refl _ _⟩
  | some x =>
    have hox := h.ok.ok x (fnd_mem hf).1
    obtain ⟨i, hi, C'⟩ := find_at h hf
    have hid := (fnd_mem hf).2
    have K := fun w' => capped_any nn w'
    have hil := (List.getElem?_eq_some_iff.1 hi).1
    have h64 := h.ok.len
    obtain ⟨g, c, rfl, hrow⟩ := h.row hi
    have hin : (i : Int) < (L.length : Int) := by omega
    obtain ⟨⟨c0, hl, hgl⟩, hfz, d0, d1, d2, d3, d4, d5⟩ := h.cs hi
    have f4 := hfz (i * 6 + 4)
    have P1 := h.put hi (y := ⟨x.id, x.base, x.halted, x.still, is, x.due⟩) rfl ⟨hox.id, hox.b0, hox.b1, hox.s0, hox.s1, hox.d0, hox.d1⟩ 4 (by decide) (.bool is) rfl
    have P2 : DX (w.setCell ⟨g, i * 6 + 4, none⟩ (.bool is)).drew r (.slice (some ⟨g, 0, none⟩) L.length c) (L.set i ⟨x.id, x.base, x.halted, x.still, is, x.due⟩) := P1.1.drew
    have hi2 : (L.set i ⟨x.id, x.base, x.halted, x.still, is, x.due⟩)[i]? = some ⟨x.id, x.base, x.halted, x.still, is, x.due⟩ := by simp [hil]
    obtain ⟨⟨e0, el, egl⟩, efz, x0, x1, x2, x3, x4, x5⟩ := P2.cs hi2
    have f5 := efz (i * 6 + 5)
    have P3 := P2.put hi2 (y := stD nn is x) rfl (stD_ok hox nn hn is) 5 (by decide) (.int .u64 (cap nn)) rfl
    rw [List.set_set] at P3
    have HF : Hid (DX ((w.setCell ⟨g, i * 6 + 4, none⟩ (.bool is)).drew.setCell ⟨g, i * 6 + 5, none⟩ (.int .u64 (cap nn))) r (.slice (some ⟨g, 0, none⟩) L.length c) (mod L k (stD nn is)) ∧ Trn (Sr r (.slice (some ⟨g, 0, none⟩) L.length c)) w ((w.setCell ⟨g, i * 6 + 4, none⟩ (.bool is)).drew.setCell ⟨g, i * 6 + 5, none⟩ (.int .u64 (cap nn)))) := by
      rw [← hid, mod_set h.ok.srt hi]
      exact ⟨P3.1, P1.2.drew.trans P3.2⟩
    simp only [Option.isSome_some, if_true]
    generalize cap nn = cc at *
    clear h hrow hf hox hi P1 P2 P3 hi2 hfz efz hid
    generalize L.length = n at *
    go_enter Try.func22, Try.ntmps22
    go_wp2_with fail
    refine C'.mono ?_
    rintro e w1 ⟨rfl, rfl⟩
    go_wp2_with fail
    go_region_with ((refine (K _).mono ?_; rintro e w2 ⟨rfl, rfl⟩))
    all_goals
      go_wp2_with fail
      go_ret
      exact ⟨rfl, HF.out⟩
end
end Go.Proofs.Ytgiafngiledmbaa
