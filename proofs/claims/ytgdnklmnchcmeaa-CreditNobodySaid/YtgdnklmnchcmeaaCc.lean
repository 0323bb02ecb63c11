/-
  The program's New, Look, Runs, Queue, Yield.
-/
import Derived.Test.YtgdnklmnchcmeaaCb
namespace Go.Proofs.Ytgdnklmnchcmeaa
open Go.RowKit Go.Maps
set_option linter.unusedVariables false
set_option maxRecDepth 100000
section
variable {w w' : World} {c m p n N : Nat} {per : Int} {M : Int → Option Value} {F : Nat → Pv} {S : St} {k : Int} {x : On}
theorem look_none (h : VX w c m p n per F S) (hk : KW k) (hx : fnd S.L k = none) : Calls Try.prog 14 #[.pointer (some ⟨c, 0, none⟩), .int .i64 k] w fun e w' => e = .returned (.tuple #[.agg z4, .bool false]) ∧ Below w.heap.size w w' := by
  have B1 : Hid (Below w.heap.size w (w.alloc (.cells #[.int .i64 0, .int .i64 0, .int .i64 0, .int .i64 0] 36))) := below_box w _
  have C := of_none (h.below B1.out) k hk hx
  have g0 := heap_alloc_at w (.cells #[.int .i64 0, .int .i64 0, .int .i64 0, .int .i64 0] 36)
  have hl0 : w.heap.size < (w.alloc (.cells #[.int .i64 0, .int .i64 0, .int .i64 0, .int .i64 0] 36)).heap.size := by simp
  have hi36 := info36
  have hone : (#[.int .i64 0, .int .i64 0, .int .i64 0, .int .i64 0] : Array Value).all (·.oneCell') = true := by simp [Value.oneCell']
  unfold z4 at *
  clear h
  go_enter Try.func14, Try.ntmps14
  go_wp2_with fail
  refine C.mono ?_
  rintro e w1 ⟨rfl, hb⟩
  have HB : Hid (Below w.heap.size w (w1.alloc (.cells #[.int .i64 0, .int .i64 0, .int .i64 0, .int .i64 0] 36))) := (B1.out.trans (hb.mono B1.out.size)).alloc (Nat.le_trans B1.out.size hb.size) _
  have g1 : (w1.alloc (.cells #[.int .i64 0, .int .i64 0, .int .i64 0, .int .i64 0] 36)).heap[w.heap.size]? = some (.cells #[.int .i64 0, .int .i64 0, .int .i64 0, .int .i64 0] 36) := (heap_alloc_past _ _ (Nat.lt_of_lt_of_le hl0 hb.size)).trans ((hb.block _ hl0).trans g0)
  have H2 : Hid (Below w.heap.size w ((w1.alloc (.cells #[.int .i64 0, .int .i64 0, .int .i64 0, .int .i64 0] 36)).setRow w.heap.size #[.int .i64 0, .int .i64 0, .int .i64 0, .int .i64 0]) ∧ ((w1.alloc (.cells #[.int .i64 0, .int .i64 0, .int .i64 0, .int .i64 0] 36)).setRow w.heap.size #[.int .i64 0, .int .i64 0, .int .i64 0, .int .i64 0]).heap[w.heap.size]? = some (.cells #[.int .i64 0, .int .i64 0, .int .i64 0, .int .i64 0] 36)) :=
    ⟨HB.out.trans (below_setRow' _ _ (Nat.le_refl _) _), setRow_heap _ _ _ _ 36 _ g1⟩
  clear C hb HB B1 g0
  go_wp2_with (refine wpList_store_row rfl 36 _ _ rfl w.heap.size #[.int .i64 0, .int .i64 0, .int .i64 0, .int .i64 0] rfl rfl 36 _ g1 hi36 rfl hone ?_)
  have q0 := cell_at H2.out.2 0
  have q1 := cell_at H2.out.2 1
  have q2 := cell_at H2.out.2 2
  have q4 := cell_at H2.out.2 3
  have q3 := lt_of_heap H2.out.2
  simp at q0 q1 q2 q4
  refine bodyPost_ret (v := .tuple #[.agg #[.int .i64 0, .int .i64 0, .int .i64 0, .int .i64 0], .bool false]) ?h1 rfl ⟨rfl, H2.out.1⟩
  case h1 => simp [results, Try.results14, go_sem, q0, q1, q2, q4]
theorem look_some (h : VX w c m p n per F S) (hk : KW k) (hx : fnd S.L k = some x) : Calls Try.prog 14 #[.pointer (some ⟨c, 0, none⟩), .int .i64 k] w fun e w' => e = .returned (.tuple #[lv x, .bool true]) ∧ Below w.heap.size w w' := by
  have B1 : Hid (Below w.heap.size w (w.alloc (.cells #[.int .i64 0, .int .i64 0, .int .i64 0, .int .i64 0] 36))) := below_box w _
  have C := of_some (h.below B1.out) k hk hx
  have g0 := heap_alloc_at w (.cells #[.int .i64 0, .int .i64 0, .int .i64 0, .int .i64 0] 36)
  have hl0 : w.heap.size < (w.alloc (.cells #[.int .i64 0, .int .i64 0, .int .i64 0, .int .i64 0] 36)).heap.size := by simp
  have hi36 := info36
  unfold lv at *
  clear h hx
  generalize x.st = a at *
  generalize (x.co : Int) = b at *
  generalize x.w = d at *
  generalize x.cr = f at *
  have hone : (#[.int .i64 a, .int .i64 b, .int .i64 d, .int .i64 f] : Array Value).all (·.oneCell') = true := by simp [Value.oneCell']
  go_enter Try.func14, Try.ntmps14
  go_wp2_with fail
  refine C.mono ?_
  rintro e w1 ⟨rfl, hb⟩
  have HB : Hid (Below w.heap.size w (w1.alloc (.cells #[.int .i64 a, .int .i64 b, .int .i64 d, .int .i64 f] 36))) := (B1.out.trans (hb.mono B1.out.size)).alloc (Nat.le_trans B1.out.size hb.size) _
  have g1 : (w1.alloc (.cells #[.int .i64 a, .int .i64 b, .int .i64 d, .int .i64 f] 36)).heap[w.heap.size]? = some (.cells #[.int .i64 0, .int .i64 0, .int .i64 0, .int .i64 0] 36) := (heap_alloc_past _ _ (Nat.lt_of_lt_of_le hl0 hb.size)).trans ((hb.block _ hl0).trans g0)
  have H2 : Hid (Below w.heap.size w ((w1.alloc (.cells #[.int .i64 a, .int .i64 b, .int .i64 d, .int .i64 f] 36)).setRow w.heap.size #[.int .i64 a, .int .i64 b, .int .i64 d, .int .i64 f]) ∧ ((w1.alloc (.cells #[.int .i64 a, .int .i64 b, .int .i64 d, .int .i64 f] 36)).setRow w.heap.size #[.int .i64 a, .int .i64 b, .int .i64 d, .int .i64 f]).heap[w.heap.size]? = some (.cells #[.int .i64 a, .int .i64 b, .int .i64 d, .int .i64 f] 36)) :=
    ⟨HB.out.trans (below_setRow' _ _ (Nat.le_refl _) _), setRow_heap _ _ _ _ 36 _ g1⟩
  clear C hb HB B1 g0
  go_wp2_with (refine wpList_store_row rfl 36 _ _ rfl w.heap.size #[.int .i64 a, .int .i64 b, .int .i64 d, .int .i64 f] rfl rfl 36 _ g1 hi36 rfl hone ?_)
  have q0 := cell_at H2.out.2 0
  have q1 := cell_at H2.out.2 1
  have q2 := cell_at H2.out.2 2
  have q4 := cell_at H2.out.2 3
  have q3 := lt_of_heap H2.out.2
  simp at q0 q1 q2 q4
  refine bodyPost_ret (v := .tuple #[.agg #[.int .i64 a, .int .i64 b, .int .i64 d, .int .i64 f], .bool true]) ?h1 rfl ⟨rfl, H2.out.1⟩
  case h1 => simp [results, Try.results14, go_sem, q0, q1, q2, q4]
/-- Runs -/
theorem runs_no (h : VX w c m p n per F S) (i : Int) (hi : i < 0 ∨ (n : Int) ≤ i) : Calls Try.prog 18 #[.pointer (some ⟨c, 0, none⟩), .int .i64 i] w fun e w' => e = .returned (.tuple #[.int .i64 0, .bool false]) ∧ Below w.heap.size w w' := by
  have C := place_no h.vr i hi
  clear h
  go_enter Try.func18, Try.ntmps18
  go_wp2_with fail
  refine C.mono ?_
  rintro e w1 ⟨rfl, rfl⟩
  go_wp2_with fail
  go_ret2
  exact ⟨rfl, Below.refl _ _⟩
theorem runs_at (h : VX w c m p n per F S) (i : Nat) (hi : i < n) : Calls Try.prog 18 #[.pointer (some ⟨c, 0, none⟩), .int .i64 i] w fun e w' => e = .returned (.tuple #[.int .i64 (riI S.L i), .bool (tkB S.L i)]) ∧ Below w.heap.size w w' := by
  have C := place_at h.vr i hi
  obtain ⟨_, d1, d2, _⟩ := h.vr.pr.all hi
  obtain ⟨e1, e2, _⟩ := h.pv i hi
  rw [e1] at d1
  rw [e2] at d2
  have pl := h.vr.pr.lt
  clear h e1 e2
  go_enter Try.func18, Try.ntmps18
  go_wp2_with fail
  refine C.mono ?_
  rintro e w1 ⟨rfl, rfl⟩
  go_wp2_with fail
  go_quiet (fail)
  go_wp2_with fail
  go_ret2
  exact ⟨rfl, below_drewN (Below.refl _ _) _⟩
/-- Queue -/
theorem queue_no (h : VX w c m p n per F S) (i : Int) (hi : i < 0 ∨ (n : Int) ≤ i) : Calls Try.prog 26 #[.pointer (some ⟨c, 0, none⟩), .int .i64 i] w fun e w' => e = .returned (.slice none 0 0) ∧ w' = w := by
  have C := place_no h.vr i hi
  clear h
  go_enter Try.func26, Try.ntmps26
  go_wp2_with fail
  refine C.mono ?_
  rintro e w1 ⟨rfl, rfl⟩
  go_wp2_with fail
  go_ret
  exact ⟨rfl, rfl⟩
theorem queue_at (h : VX w c m p n per F S) (i : Nat) (hi : i < n) : Calls Try.prog 26 #[.pointer (some ⟨c, 0, none⟩), .int .i64 i] w fun e w' => ∃ v', e = .returned v' ∧ Qs w' v' (S.Q i) ∧ (∀ k, v'.ownBlock = some k → w.heap.size ≤ k) ∧ Below w.heap.size w w' := by
  have C := place_at h.vr i hi
  obtain ⟨d0, _⟩ := h.vr.pr.all hi
  have pl := h.vr.pr.lt
  have K := clone_qs (h.vr.qs i hi) (by have := h.ok.qlen hi; omega)
  clear h
  go_enter Try.func26, Try.ntmps26
  go_wp2_with fail
  refine C.mono ?_
  rintro e w1 ⟨rfl, rfl⟩
  go_wp2_with fail
  refine K.mono ?_
  rintro e w2 ⟨v', rfl, hq⟩
  have HQ : Hid (_) := hq
  clear hq K
  go_wp2_with fail
  go_ret
  exact ⟨v', rfl, HQ.out⟩
def yldE (S : St) (n : Nat) (i : Int) : Int := if i < 0 ∨ (n : Int) ≤ i then 2 else if tkB S.L i.toNat then 0 else 14
def yldI (S : St) (n : Nat) (i : Int) : Int := if yldE S n i = 0 then riI S.L i.toNat else 0
def yldT (S : St) (n : Nat) (i : Int) : St := if yldE S n i = 0 then rdyS S (riI S.L i.toNat) i.toNat else S
/-- Yield -/
theorem yield_vx (h : VX w c m p n per F S) (i : Int) : Calls Try.prog 17 #[.pointer (some ⟨c, 0, none⟩), .int .i64 i] w fun e w' => e = .returned (.tuple #[.int .i64 (yldI S n i), .int .i64 (yldE S n i)]) ∧ Tu w w' c m p n per F (yldT S n i) := by
  have HV : Hid (VX w c m p n per F S) := h
  by_cases hi : i < 0 ∨ (n : Int) ≤ i
  · have e1 : yldE S n i = 2 := by unfold yldE; rw [if_pos hi]
    have e2 : yldT S n i = S := by unfold yldT; rw [e1, if_neg (by decide)]
    have e3 : yldI S n i = 0 := by unfold yldI; rw [e1, if_neg (by decide)]
    rw [e1, e2, e3]
    have C := place_no h.vr i hi
    clear h e1 e2 e3
    go_enter Try.func17, Try.ntmps17
    go_wp2_with fail
    refine C.mono ?_
    rintro e w1 ⟨rfl, rfl⟩
    go_wp2_with fail
    go_ret2
    exact ⟨rfl, HV.out.tu0⟩
  · obtain ⟨j, rfl⟩ : ∃ j : Nat, i = j := ⟨i.toNat, by omega⟩
    have hj : j < n := by omega
    have C := place_at h.vr j hj
    obtain ⟨d0, d1, d2, d3⟩ := h.vr.pr.all hj
    obtain ⟨q1, q2, q3⟩ := h.pv j hj
    have pl := h.vr.pr.lt
    cases hr : rn S.L j with
    | none =>
      have et : tkB S.L j = false := by unfold tkB; rw [hr]; rfl
      have e1 : yldE S n j = 14 := by unfold yldE; rw [if_neg hi, Int.toNat_natCast, et, if_neg (by decide)]
      have e2 : yldT S n j = S := by unfold yldT; rw [e1, if_neg (by decide)]
      have e3 : yldI S n j = 0 := by unfold yldI; rw [e1, if_neg (by decide)]
      rw [e1, e2, e3]
      rw [q1, et] at d1
      clear h e1 e2 e3 hi q1 q2 q3 hr et
      go_enter Try.func17, Try.ntmps17
      go_wp2_with fail
      refine C.mono ?_
      rintro e w1 ⟨rfl, rfl⟩
      go_wp2_with fail
      go_ret2
      exact ⟨rfl, HV.out.tu0⟩
    | some x =>
      obtain ⟨hm, hs, hc⟩ := rn_mem hr
      have hx := fnd_of h.ok.nd hm
      have et : tkB S.L j = true := by unfold tkB; rw [hr]; rfl
      have ei : riI S.L j = x.id := by unfold riI; rw [hr]
      have e1 : yldE S n j = 0 := by unfold yldE; rw [if_neg hi, Int.toNat_natCast, et, if_pos rfl]
      have e2 : yldT S n j = rdyS S x.id j := by unfold yldT; rw [e1, if_pos rfl, Int.toNat_natCast, ei]
      have e3 : yldI S n j = x.id := by unfold yldI; rw [e1, if_pos rfl, Int.toNat_natCast, ei]
      rw [e1, e2, e3]
      rw [q1, et] at d1
      rw [q2, ei] at d2
      have ho := h.ok.ok x hm
      have hk := ho.id
      have c0 := h.vr.c0
      have cl := h.vr.lt
      have hlu := look_run Try.underlying41 (zeroL w) h.vr.mp x.id hk
      have esm : SM S.L x.id = some (lv x) := by unfold SM; rw [hx]; rfl
      rw [esm] at hlu
      simp only [Option.getD_some] at hlu
      have hql := h.ok.qlen hj
      have h64 := h.ok.len
      have hok := h.ok.rdyS hx (by rw [hs]; decide)
      rw [hc] at hok
      have B0 : Hid (VB w (w.alloc (.cells #[.int .i64 x.st, .int .i64 x.co, .int .i64 x.w, .int .i64 x.cr] 36)) c m p n per S.L.length (SM S.L) F S.Q F #[.int .i64 x.st, .int .i64 x.co, .int .i64 x.w, .int .i64 x.cr]) := VB.start h.vr _
      have K1 := leave_vx B0.out.vr h.ok h.pv hx
      have HG : Hid (∀ w2, Lf (w.alloc (.cells #[.int .i64 x.st, .int .i64 x.co, .int .i64 x.w, .int .i64 x.cr] 36)) w2 c m p n per S.L.length (SM S.L) F S x.id x →
          (w2.cell? ⟨w.heap.size, 0, none⟩ = some (.int .i64 x.st) ∧ w2.cell? ⟨w.heap.size, 1, none⟩ = some (.int .i64 x.co) ∧ w2.cell? ⟨w.heap.size, 2, none⟩ = some (.int .i64 x.w) ∧ w2.cell? ⟨w.heap.size, 3, none⟩ = some (.int .i64 x.cr)) ∧ w.heap.size < w2.heap.size ∧
          Calls Try.prog 42 #[.pointer (some ⟨c, 0, none⟩), .int .i64 x.id, .agg #[.int .i64 x.st, .int .i64 x.co, .int .i64 x.w, .int .i64 x.cr]] w2 fun e w' => e = .returned (.tuple #[]) ∧ Tu w w' c m p n per F (rdyS S x.id j)) := fun w2 ⟨G, h1, h2, h3, h4⟩ => by
        have B1 := B0.out.step h1 h2 h3
        refine ⟨⟨B1.b 0, B1.b 1, B1.b 2, B1.b 3⟩, B1.bl, ?_⟩
        have hol : (outQ S.Q x.id x.co).length ≤ 65536 := by
          have := List.length_filter_le (fun y => !(y == x.id)) (S.Q x.co)
          rw [hc] at this ⊢
          unfold outQ
          omega
        have e0 : (x.co : Int) = (x.co : Nat) := rfl
        refine (queueUp_vr h1 x.id hk x.co ho.co x.st x.w x.cr hol (by have := maxLen_big; omega)).mono ?_
        rintro e w3 ⟨rfl, v, g1, g2, g3⟩
        have B2 := B1.step g1 g2 g3
        refine ⟨rfl, _, ⟨g1.congr (by rw [cnt_some hx]; simp [rdyS, len_mod]) (fun q => (SM_mod (f := stF 1) hx (fun _ => rfl) q).symm) (fun a ha => ?_), PvOk.q (S := rdyS S x.id j) (h4 (rdyS S x.id j) (fun a _ => ?_) (fun _ => rfl)) x.co v, hok⟩, B2.tr, B2.nw⟩
        · show _ = addQ S.Q j x.id a
          rw [add_qput]
          unfold addQ
          rw [hc, out_same h.ok hx (by rw [hs]; decide) ha]
        · show rn (mod S.L x.id (stF 1)) a = _
          rw [rn_turn (f := stF 1) h.ok hx hok (fun _ => rfl), if_neg (fun e => absurd (show (1 : Int) = 2 from e.1) (by decide))]
      unfold lv at K1 hlu
      clear h e1 e2 e3 hi q1 q2 q3 hr et ei hm hx ho esm hql h64 hok B0 hs hc d3 d0
      generalize x.st = sa at *
      generalize (x.co : Int) = sb at *
      generalize x.w = sd at *
      generalize x.cr = sf at *
      generalize x.id = id at *
      go_enter Try.func17, Try.ntmps17
      go_wp2_with fail
      refine C.mono ?_
      rintro e w1 ⟨rfl, rfl⟩
      clear C
      go_wp2_with fail
      refine K1.mono ?_
      rintro e w2 ⟨rfl, q⟩
      obtain ⟨⟨y0, y1, y2, y3⟩, yl, K2⟩ := HG.out _ q
      clear q K1 HG hlu c0 cl d1 d2 pl
      go_wp2_with fail
      refine K2.mono ?_
      rintro e w3 ⟨rfl, ht⟩
      have HT : Hid (_) := ht
      clear ht K2
      go_wp2_with fail
      go_ret2
      exact ⟨rfl, HT.out⟩
end
end Go.Proofs.Ytgdnklmnchcmeaa
