/-
  leave, queueUp, in the raw scheduler.
-/
import Derived.Test.YtgdnklmnchcmeaaLo
import Derived.BigQuiet
import Derived.Deep.RegionWith
import Derived.Lib.AppendZeros
namespace Go.Proofs.Ytgdnklmnchcmeaa
open Go.RowKit Go.Maps
set_option linter.unusedVariables false
set_option maxRecDepth 100000
def qset (v : Value) (x : Pv) : Pv := ⟨v, x.t, x.i, x.c⟩
def off0 (x : Pv) : Pv := ⟨x.q, false, 0, 0⟩
def qput (Qf : Nat → List Int) (i : Nat) (l : List Int) (j : Nat) : List Int := if j = i then l else Qf j
theorem below_drewN {B : Nat} {W w : World} (h : Below B W w) : ∀ n, Below B W (w.drewN n) := fun n => ⟨h.os, h.tape, h.output, h.size, h.block⟩
theorem fset_fset (F : Nat → Pv) (i : Nat) (f g : Pv → Pv) : fset (fset F i f) i g = fset F i (fun x => g (f x)) := by
  funext j
  unfold fset
  split <;> rfl
theorem boxq (w : World) (cs : Array Value) (q : Nat) : ((w.alloc (.cells cs 36)).drewN q).cell? ⟨w.heap.size, 0, none⟩ = cs[0]? ∧ w.heap.size < ((w.alloc (.cells cs 36)).drewN q).heap.size := by
  have h : ((w.alloc (.cells cs 36)).drewN q).heap = (w.alloc (.cells cs 36)).heap := rfl
  have g := heap_alloc_at w (.cells cs 36)
  rw [← h] at g
  exact ⟨cell_at g 0, lt_of_heap g⟩
section
variable {w w' : World} {c m p n N : Nat} {per : Int} {M : Int → Option Value} {F : Nat → Pv} {Qf : Nat → List Int}
theorem leave_blocked (h : VR w c m p n per N M F Qf) (k : Int) (i : Nat) (hi : i < n) (a b : Int) : Calls Try.prog 41 #[.pointer (some ⟨c, 0, none⟩), .int .i64 k, .agg #[.int .i64 3, .int .i64 i, .int .i64 a, .int .i64 b]] w fun e w' => e = .returned (.tuple #[]) ∧ Below w.heap.size w w' := by
  have B1 : Hid (Below w.heap.size w (w.alloc (.cells #[.int .i64 3, .int .i64 i, .int .i64 a, .int .i64 b] 36))) := below_box w _
  have h1 := h.below B1.out
  have c1 := h1.c1
  have hl := h1.lt
  have nn := h.nn
  clear h h1
  go_enter Try.func41, Try.ntmps41
  go_wp2_with fail
  go_quiet (fail)
  go_wp2_with fail
  exact bodyPost_end (v := .tuple #[]) (by simp [results, Try.results41]) rfl ⟨rfl, below_drewN B1.out _⟩
theorem leave_running (h : VR w c m p n per N M F Qf) (k : Int) (i : Nat) (hi : i < n) (a b : Int) : Calls Try.prog 41 #[.pointer (some ⟨c, 0, none⟩), .int .i64 k, .agg #[.int .i64 2, .int .i64 i, .int .i64 a, .int .i64 b]] w fun e w' => e = .returned (.tuple #[]) ∧ VR w' c m p n per N M (fset F i off0) Qf ∧ Trn (Sp m p n F) w w' ∧ Nw w n F (fset F i off0) := by
  have B1 : Hid (Below w.heap.size w (w.alloc (.cells #[.int .i64 2, .int .i64 i, .int .i64 a, .int .i64 b] 36))) := below_box w _
  have h1 := h.below B1.out
  have HD : Hid (∀ q, VR ((w.alloc (.cells #[.int .i64 2, .int .i64 i, .int .i64 a, .int .i64 b] 36)).drewN q) c m p n per N M F Qf ∧ Below w.heap.size w ((w.alloc (.cells #[.int .i64 2, .int .i64 i, .int .i64 a, .int .i64 b] 36)).drewN q) ∧ ((w.alloc (.cells #[.int .i64 2, .int .i64 i, .int .i64 a, .int .i64 b] 36)).drewN q).cell? ⟨w.heap.size, 0, none⟩ = some (.int .i64 2) ∧ w.heap.size < ((w.alloc (.cells #[.int .i64 2, .int .i64 i, .int .i64 a, .int .i64 b] 36)).drewN q).heap.size) := fun q => ⟨h.below (below_drewN B1.out q), below_drewN B1.out q, boxq _ _ q⟩
  have c1 := h1.c1
  have hl := h1.lt
  have nn := h.nn
  clear h h1
  go_enter Try.func41, Try.ntmps41
  go_wp2_with fail
  go_quiet (fail)
  obtain ⟨h2, b2, s0, sl⟩ := HD.out nq
  clear HD c1 hl B1
  generalize World.drewN _ nq = y at *
  obtain ⟨p1, t1, n1⟩ := h2.put hi 1 (by decide) (.bool false) (f := fun x => ⟨x.q, false, x.i, x.c⟩) rfl rfl
  obtain ⟨p2, t2, n2⟩ := p1.put hi 2 (by decide) (.int .i64 0) (f := fun x => ⟨x.q, x.t, 0, x.c⟩) rfl rfl
  obtain ⟨p3, t3, n3⟩ := p2.put hi 3 (by decide) (.int .i64 0) (f := fun x => ⟨x.q, x.t, x.i, 0⟩) rfl rfl
  have f1 := h2.pr.f (i * 4 + 1)
  have f2 := p1.pr.f (i * 4 + 2)
  have f3 := p2.pr.f (i * 4 + 3)
  have l1 := h2.pr.lt
  have d1 := (h2.pr.all hi).2.1
  obtain ⟨u2, d2⟩ : ∃ u, (y.setCell ⟨p, i * 4 + 1, none⟩ (.bool false)).cell? ⟨p, i * 4 + 2, none⟩ = some u := ⟨_, (p1.pr.all hi).2.2.1⟩
  obtain ⟨u3, d3⟩ : ∃ u, ((y.setCell ⟨p, i * 4 + 1, none⟩ (.bool false)).setCell ⟨p, i * 4 + 2, none⟩ (.int .i64 0)).cell? ⟨p, i * 4 + 3, none⟩ = some u := ⟨_, (p2.pr.all hi).2.2.2⟩
  have HF : Hid (VR (((y.setCell ⟨p, i * 4 + 1, none⟩ (.bool false)).setCell ⟨p, i * 4 + 2, none⟩ (.int .i64 0)).setCell ⟨p, i * 4 + 3, none⟩ (.int .i64 0)) c m p n per N M (fset F i off0) Qf ∧ Trn (Sp m p n F) w (((y.setCell ⟨p, i * 4 + 1, none⟩ (.bool false)).setCell ⟨p, i * 4 + 2, none⟩ (.int .i64 0)).setCell ⟨p, i * 4 + 3, none⟩ (.int .i64 0)) ∧ Nw w n F (fset F i off0)) := by
    rw [fset_fset, fset_fset] at p3
    refine ⟨p3, (Trn.of_below b2).trans (Sp.trans t1 (Sp.trans t2 t3 n2) n1), fun a ha k hk => .inl ?_⟩
    by_cases e : a = i
    · subst e; rw [fset_same] at hk; exact hk
    · rw [fset_other e] at hk; exact hk
  clear h2 b2 p1 t1 n1 p2 t2 n2 p3 t3 n3
  go_wp2_with fail
  exact bodyPost_end (v := .tuple #[]) (by simp [results, Try.results41]) rfl ⟨rfl, HF.out⟩
theorem leave_ready (h : VR w c m p n per N M F Qf) (k : Int) (i : Nat) (hi : i < n) (hk : k ∈ Qf i) (hd : (Qf i).Nodup) (a b : Int) : Calls Try.prog 41 #[.pointer (some ⟨c, 0, none⟩), .int .i64 k, .agg #[.int .i64 1, .int .i64 i, .int .i64 a, .int .i64 b]] w fun e w' => e = .returned (.tuple #[]) ∧ ∃ v, VR w' c m p n per N M (fset F i (qset v)) (qput Qf i ((Qf i).filter fun x => !(x == k))) ∧ Trn (Sp m p n F) w w' ∧ Nw w n F (fset F i (qset v)) := by
  have B1 : Hid (Below w.heap.size w (w.alloc (.cells #[.int .i64 1, .int .i64 i, .int .i64 a, .int .i64 b] 36))) := below_box w _
  have h1 := h.below B1.out
  have HD : Hid (∀ q, VR ((w.alloc (.cells #[.int .i64 1, .int .i64 i, .int .i64 a, .int .i64 b] 36)).drewN q) c m p n per N M F Qf ∧ Below w.heap.size w ((w.alloc (.cells #[.int .i64 1, .int .i64 i, .int .i64 a, .int .i64 b] 36)).drewN q) ∧ ((w.alloc (.cells #[.int .i64 1, .int .i64 i, .int .i64 a, .int .i64 b] 36)).drewN q).cell? ⟨w.heap.size, 0, none⟩ = some (.int .i64 1) ∧ w.heap.size < ((w.alloc (.cells #[.int .i64 1, .int .i64 i, .int .i64 a, .int .i64 b] 36)).drewN q).heap.size) := fun q => ⟨h.below (below_drewN B1.out q), below_drewN B1.out q, boxq _ _ q⟩
  have c1 := h1.c1
  have hl := h1.lt
  have nn := h.nn
  clear h h1
  go_enter Try.func41, Try.ntmps41
  go_wp2_with fail
  go_quiet (fail)
  obtain ⟨h2, b2, s0, sl⟩ := HD.out nq
  clear HD c1 hl B1
  generalize World.drewN _ nq = y at *
  obtain ⟨d0, _⟩ := h2.pr.all hi
  have l1 := h2.pr.lt
  have hq := h2.qs i hi
  obtain ⟨at_, ha, hat, K1⟩ := index_qs hq hk
  have K2 := delete_qs hq hd ha hat
  have ha64 : at_ < 9223372036854775807 := by
    obtain ⟨g, cc, _, hr⟩ := hq.pos (by omega)
    have := hr.cap
    have e0 : maxLen = 9223372036854775807 := by decide
    omega
  have HV : Hid (VR y c m p n per N M F Qf ∧ Below w.heap.size w y) := ⟨h2, b2⟩
  clear h2 b2
  go_wp2_with fail
  refine K1.mono ?_
  rintro e y1 ⟨rfl, rfl⟩
  go_wp2_with fail
  refine K2.mono ?_
  rintro e y2 ⟨v', rfl, hv', hq', hg⟩
  obtain ⟨q1, q2, q3, q4, q5, q6, q7⟩ := HV.out.1.queue hi hq' hg (fun k hk => .inl (hv' ▸ hk))
  have d0' := (q5 (i * 4)).trans d0
  have HF : Hid (VR (y2.setCell ⟨p, i * 4, none⟩ v') c m p n per N M (fset F i (qset v')) (qput Qf i ((Qf i).filter fun x => !(x == k))) ∧ Trn (Sp m p n F) w (y2.setCell ⟨p, i * 4, none⟩ v') ∧ Nw w n F (fset F i (qset v'))) := ⟨q1, (Trn.of_below HV.out.2).trans q2, fun a ha k hk => (q3 a ha k hk).imp_right fun e => Nat.le_trans HV.out.2.size e⟩
  obtain ⟨ad, cc, hve⟩ := hq'.form
  generalize (List.filter (fun x => !(x == k)) (Qf i)).length = ln at hve
  subst hve
  clear q1 q2 q3 q4 q5 hq' hg HV K1 K2 hq hv'
  go_wp2_with fail
  exact bodyPost_end (v := .tuple #[]) (by simp [results, Try.results41]) rfl ⟨rfl, _, HF.out⟩
end
end Go.Proofs.Ytgdnklmnchcmeaa
