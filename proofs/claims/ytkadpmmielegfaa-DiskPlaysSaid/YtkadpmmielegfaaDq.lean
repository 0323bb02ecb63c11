/-
  What Put, forget, transfer and Complete of a disk do.
-/
import Derived.Test.YtkadpmmielegfaaDp
namespace Go.Proofs.Ytkadpmmielegfaa
open Go.RowKit Go.Maps
set_option linter.unusedVariables false
set_option maxRecDepth 20000

/-- P12.4: the error of Put, and the bytes behind it -/
def putE (B : Nat) (n : Int) (len : Nat) : Int := if ¬ (0 ≤ n ∧ n < B) then 12 else if len ≠ 256 then 2 else 0
def putZ (B : Nat) (zs : List Int) (n : Int) (ys : List Int) : List Int := if putE B n ys.length = 0 then splice zs (n.toNat * 256) ys else zs
theorem put_un (p : Value) (n : Int) (x : Value) (w : World) (h : UD w p) : Calls Try.prog 16 #[p, .int .i64 n, x] w fun e w' => e = .returned (.int .i64 1) ∧ w' = w := by
  go_enter Try.func16, Try.ntmps16
  go_wp2_with fail
  refine (has_un _ _ _ h).mono ?_
  rintro e w1 ⟨rfl, rfl⟩
  go_wp2_with fail
  go_ret
  exact ⟨rfl, rfl⟩
theorem put_safe (N0 D m B : Nat) (v : Value) (ps : List Rq) (zs ys : List Int) (n : Int) (a : Option Addr) (len c : Nat) (w : World) (h : DK N0 w D m B v ps zs) (hs : SL w a len ys) (hN : N0 ≤ w.heap.size) :
    Calls Try.prog 16 #[.pointer (some ⟨D, 0, none⟩), .int .i64 n, .slice a len c] w fun e w' => e = .returned (.int .i64 (putE B n ys.length)) ∧ DK N0 w' D m B v ps (putZ B zs n ys) ∧ w.grownBy w' (some m) ∧ ∀ X, X < w.heap.size → Safe w m B X → Safe w' m B X := by
  have C := has_dk N0 D m B v ps zs n w h
  have hsl := hs.1
  by_cases hn : 0 ≤ n ∧ n < B
  · rw [show hasE B n = 0 by simp [hasE, hn]] at C
    by_cases hl : len = 256
    · obtain ⟨k, rfl⟩ := Int.eq_ofNat_of_zero_le hn.1
      subst hl
      rw [show putE B k ys.length = 0 by simp [putE]; omega, show putZ B zs k ys = splice zs (k * 256) ys by simp [putZ, putE, hsl]; omega]
      have L := lay_safe N0 D m B v ps zs ys k a c w h (by omega) hs hN
      clear h hs
      go_enter Try.func16, Try.ntmps16
      go_wp2_with fail
      refine C.mono ?_
      rintro e w ⟨rfl, rfl⟩
      go_wp2_with fail
      refine L.mono ?_
      rintro e w1 ⟨rfl, h1, h2, h3⟩
      go_wp2_with fail
      go_ret
      exact ⟨rfl, h1, h2, h3⟩
    · have hl' : ((len : Int) != 256) = true := by rw [bne_iff_ne]; omega
      rw [show putE B n ys.length = 2 by simp [putE, hn]; omega, show putZ B zs n ys = zs by simp [putZ, putE, hn]; omega]
      go_enter Try.func16, Try.ntmps16
      go_wp2_with fail
      refine C.mono ?_
      rintro e w ⟨rfl, rfl⟩
      go_wp2_with fail
      go_ret
      exact ⟨rfl, h, grown_refl _ _, fun _ _ h => h⟩
  · rw [show hasE B n = 12 by simp [hasE, hn]] at C
    rw [show putE B n ys.length = 12 by simp [putE, hn], show putZ B zs n ys = zs by simp [putZ, putE, hn]]
    go_enter Try.func16, Try.ntmps16
    go_wp2_with fail
    refine C.mono ?_
    rintro e w ⟨rfl, rfl⟩
    go_wp2_with fail
    go_ret
    exact ⟨rfl, h, grown_refl _ _, fun _ _ h => h⟩
theorem put_dk (N0 D m B : Nat) (v : Value) (ps : List Rq) (zs ys : List Int) (n : Int) (a : Option Addr) (len c : Nat) (w : World) (h : DK N0 w D m B v ps zs) (hs : SL w a len ys) (hN : N0 ≤ w.heap.size) :
    Calls Try.prog 16 #[.pointer (some ⟨D, 0, none⟩), .int .i64 n, .slice a len c] w fun e w' => e = .returned (.int .i64 (putE B n ys.length)) ∧ DK N0 w' D m B v ps (putZ B zs n ys) ∧ w.grownBy w' (some m) :=
  (put_safe N0 D m B v ps zs ys n a len c w h hs hN).mono fun e w' ⟨h1, h2, h3, _⟩ => ⟨h1, h2, h3⟩

/-- who is done goes, and nobody else: no two share an Id -/
theorem filter_erase : ∀ (ps : List Rq) (k : Nat) (hk : k < ps.length), ps.Pairwise (fun a b => a.i ≠ b.i) → ps.filter (fun r => !decide (r = ps[k])) = ps.eraseIdx k
  | p :: r, 0, hk, hp => by
    rw [List.pairwise_cons] at hp
    simp only [List.getElem_cons_zero, List.eraseIdx_cons_zero, List.filter_cons]
    rw [if_neg (by simp)]
    apply List.filter_eq_self.2
    intro a ha
    have := hp.1 a ha
    simp
    rintro rfl
    exact this rfl
  | p :: r, k + 1, hk, hp => by
    rw [List.pairwise_cons] at hp
    have hk' : k < r.length := by simpa using hk
    have hne : p ≠ r[k] := fun e => hp.1 _ (List.getElem_mem hk') (by rw [← e])
    simp only [List.getElem_cons_succ, List.eraseIdx_cons_succ, List.filter_cons]
    rw [if_pos (by simpa using hne), filter_erase r k hk' hp.2]

theorem forget_dk (N0 D m B : Nat) (v : Value) (ps : List Rq) (zs : List Int) (k : Nat) (hk : k < ps.length) (w : World) (h : DK N0 w D m B v ps zs) :
    Calls Try.prog 31 #[.pointer (some ⟨D, 0, none⟩), rv ps[k]] w fun e w' => e = .returned (.tuple #[]) ∧ ∃ v', DK N0 w' D m B v' (ps.eraseIdx k) zs ∧ Trn (SD D v) w w' ∧ v'.ownBlock = v.ownBlock := by
  have hmf : ∀ (fn : Fn) (first cap : Array Value) (w : World), (Instr.makeFunc fn first cap).run Try.prog w = .ok (.func fn first cap) w := fun _ _ _ _ => rfl
  have b1 : Below w.heap.size w (w.alloc (.cells (rc ps[k]).toArray 38)) := (Below.refl _ _).alloc (Nat.le_refl _) _
  have h1 := h.below b1
  have hne : v.ownBlock ≠ some w.heap.size := fun e => by have := (h.ord.lt _ e).2; omega
  have C := delete_ord 41 w.heap.size N0 v _ ps _ _ (asks_same w.heap.size ps[k]) h1.ord (heap_alloc_at _ _) hne
  have hfe := filter_erase ps k hk h.ids
  simp only [hfe] at C
  have c2 := h.c2
  have ql := h.lt
  have H1 : Hid (∃ w1, w1 = w.alloc (.cells (rc ps[k]).toArray 38) ∧ DK N0 w1 D m B v ps zs ∧ Below w.heap.size w w1) := ⟨_, rfl, h1, b1⟩
  obtain ⟨a, c, hv, hc1, hc2⟩ := h.ord.form
  rw [hv] at c2
  clear h h1 b1 hne hfe
  rw [hv] at C
  simp only [rc, rv] at *
  generalize ps[k] = r at *
  generalize ps.length = pl at *
  go_enter Try.func31, Try.ntmps31
  go_wp2_with fail
  refine C.mono ?_
  rintro e w2 ⟨v', rfl, ho, hord, hgr⟩
  obtain ⟨w1, hw1, h1, b1⟩ := H1.out
  rw [← hw1] at hgr
  have nD : v.ownBlock ≠ some D := fun e => by
    obtain ⟨cur, hh⟩ := h1.ord.typ D e
    exact ne_typ hh h1.cell (by decide) rfl
  rw [← hv] at hgr
  have oD : w2.heap[D]? = w1.heap[D]? := hgr.block D h1.lt (fun e => nD e.symm)
  have t2 : Trn (SD D v) w1 w2 := ⟨hgr.os, hgr.tape, hgr.output, hgr.size, fun k hk hn => hgr.block k hk (fun e => hn (.inr e.symm))⟩
  obtain ⟨f1, f2⟩ := h1.stored t2 oD hord (by have := List.length_eraseIdx_le ps k; have := h1.pn; omega) (h1.ids.eraseIdx k) (fun r hr => h1.bs r (List.mem_of_mem_eraseIdx hr))
  rw [← hv] at ho
  have HF : Hid (DK N0 (w2.setCell ⟨D, 2, none⟩ v') D m B v' (ps.eraseIdx k) zs ∧ Trn (SD D v) w (w2.setCell ⟨D, 2, none⟩ v') ∧ v'.ownBlock = v.ownBlock) := ⟨f1, (Trn.of_below b1).trans f2, ho⟩
  have y2 : w2.cell? ⟨D, 2, none⟩ = some v := by simp [World.cell?, oD, h1.cell]
  have yf : w2.frozen? ⟨D, 2, none⟩ = false := by simp [World.frozen?, oD, h1.cell]
  have yl : D < w2.heap.size := by have := hgr.size; have := h1.lt; omega
  obtain ⟨a', c', hv', _, _⟩ := hord.form
  rw [hv] at y2
  rw [hv'] at HF
  subst hv'
  clear f1 f2 t2 oD nD h1 b1 hord hgr ho H1 C
  go_wp2_with fail
  exact bodyPost_end (v := .tuple #[]) (by simp [results, Try.results31]) rfl ⟨rfl, _, HF.out⟩
end Go.Proofs.Ytkadpmmielegfaa
