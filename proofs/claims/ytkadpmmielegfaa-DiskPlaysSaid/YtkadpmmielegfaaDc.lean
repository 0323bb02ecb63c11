/-
  What Complete of a disk does.
-/
import Derived.Test.YtkadpmmielegfaaDt
namespace Go.Proofs.Ytkadpmmielegfaa
open Go.RowKit Go.Maps
set_option linter.unusedVariables false
set_option maxRecDepth 20000

theorem complete_un (p x : Value) (k : Int) (w : World) (h : UD w p) : Calls Try.prog 14 #[p, x, .int .i64 k] w fun e w' => e = .returned (.tuple #[rv q0, .int .i64 1]) ∧ Below w.heap.size w w' := by
  have b1 : Below w.heap.size w (w.alloc (.cells #[.int .i64 0, .bool false, .int .i64 0, .int .i64 0] 38)) := (Below.refl _ _).alloc (Nat.le_refl _) _
  have h1 := h.below b1
  go_enter Try.func14, Try.ntmps14
  go_wp2_with fail
  refine (dmade_un _ _ h1).mono ?_
  rintro e w1 ⟨rfl, rfl⟩
  go_wp2_with fail
  exact bodyPost_ret (v := .tuple #[rv q0, .int .i64 1]) (by simp [results, Try.results14, go_sem, rv, q0]) rfl ⟨rfl, b1⟩
theorem complete_nil (N0 D m B : Nat) (v : Value) (ps : List Rq) (zs : List Int) (x : Value) (k : Int) (w : World) (h : DK N0 w D m B v ps zs) (hx : HV w x (.slice none 0 0)) :
    Calls Try.prog 14 #[.pointer (some ⟨D, 0, none⟩), x, .int .i64 k] w fun e w' => e = .returned (.tuple #[rv q0, .int .i64 1]) ∧ Below w.heap.size w w' := by
  have b1 : Below w.heap.size w (w.alloc (.cells #[.int .i64 0, .bool false, .int .i64 0, .int .i64 0] 38)) := (Below.refl _ _).alloc (Nat.le_refl _) _
  have C := dmade_dk N0 D m B v ps zs _ (h.below b1)
  have F := frames_any x none 0 0 _ (by omega) (hx.below b1)
  rw [show (((0 : Nat) : Int) / 256) = 0 from rfl] at F
  clear h hx
  go_enter Try.func14, Try.ntmps14
  go_wp2_with fail
  refine C.mono ?_
  rintro e w1 ⟨rfl, rfl⟩
  clear C
  go_wp2_with fail
  refine F.mono ?_
  rintro e w1 ⟨rfl, rfl⟩
  clear F
  go_wp2_with fail
  exact bodyPost_ret (v := .tuple #[rv q0, .int .i64 1]) (by simp [results, Try.results14, go_sem, rv, q0]) rfl ⟨rfl, b1⟩
theorem complete_none (N0 D m B b g : Nat) (v : Value) (ps : List Rq) (zs ms : List Int) (k : Int) (w : World) (h : DK N0 w D m B v ps zs) (hm : MM w b g ms) (h256 : 256 ≤ ms.length) (hk : ¬ (0 ≤ k ∧ k < ps.length)) :
    Calls Try.prog 14 #[.pointer (some ⟨D, 0, none⟩), .pointer (some ⟨b, 0, none⟩), .int .i64 k] w fun e w' => e = .returned (.tuple #[rv q0, .int .i64 14]) ∧ Below w.heap.size w w' := by
  have b1 : Below w.heap.size w (w.alloc (.cells #[.int .i64 0, .bool false, .int .i64 0, .int .i64 0] 38)) := (Below.refl _ _).alloc (Nat.le_refl _) _
  have C := dmade_dk N0 D m B v ps zs _ (h.below b1)
  have F := frames_any _ _ _ _ _ hm.len (hm.below b1).hv
  have hf : (((ms.length : Int) / 256) == 0) = false := beq_false_of_ne (by omega)
  have hl := h.lt
  have c2 := h.c2
  have pn := h.pn
  obtain ⟨a, c, hv, hc1, hc2⟩ := h.ord.form
  rw [hv] at c2
  clear h hm hc1
  generalize (ms.length : Int) / 256 = FF at *
  generalize ps.length = n at *
  by_cases h0 : k < 0
  · go_enter Try.func14, Try.ntmps14
    go_wp2_with fail
    refine C.mono ?_
    rintro e w1 ⟨rfl, rfl⟩
    clear C
    go_wp2_with fail
    refine F.mono ?_
    rintro e w1 ⟨rfl, rfl⟩
    clear F
    go_wp2_with fail
    exact bodyPost_ret (v := .tuple #[rv q0, .int .i64 14]) (by simp [results, Try.results14, go_sem, rv, q0]) rfl ⟨rfl, b1⟩
  · have h1 : (n : Int) ≤ k := by omega
    go_enter Try.func14, Try.ntmps14
    go_wp2_with fail
    refine C.mono ?_
    rintro e w1 ⟨rfl, rfl⟩
    clear C
    go_wp2_with fail
    refine F.mono ?_
    rintro e w1 ⟨rfl, rfl⟩
    clear F
    go_wp2_with fail
    exact bodyPost_ret (v := .tuple #[rv q0, .int .i64 14]) (by simp [results, Try.results14, go_sem, rv, q0]) rfl ⟨rfl, b1⟩

theorem MM.trn {w w' : World} {b g : Nat} {zs : List Int} (h : MM w b g zs) {S : Nat → Prop} (t : Trn S w w') (hb : ¬ S b) (hg : ¬ S g) : MM w' b g zs :=
  ⟨(t.block b h.blt hb).trans h.cell, (t.block g h.glt hg).trans h.row, h.ne, h.bytes, h.pos, h.len⟩
theorem not_sd {N0 : Nat} {w : World} {D m B : Nat} {v : Value} {ps : List Rq} {zs : List Int} (h : DK N0 w D m B v ps zs) {k : Nat} {x : Array Value} {t : TypeId} {f : Nat × Nat} (hk : w.heap[k]? = some (.cells x t f)) (h1 : t ≠ 66) (h2 : t ≠ 38) : ¬ SD D v k := by
  rintro (e | e)
  · exact ne_typ hk h.cell h1 e
  · obtain ⟨cur, hh⟩ := h.ord.typ k e
    exact ne_typ hk hh h2 rfl
theorem at_next (w : World) (o p : Obj) : ((w.alloc o).alloc p).heap[w.heap.size + 1]? = some p := by
  have s1 : (w.alloc o).heap.size = w.heap.size + 1 := by simp
  rw [← s1]
  exact heap_alloc_at _ _
def SC (D m g : Nat) (v : Value) : Nat → Prop := fun k => k = D ∨ v.ownBlock = some k ∨ k = m ∨ k = g
theorem Ord.at {T : TypeId} {B : Nat} {w : World} {v : Value} {os : List Rq} (h : Ord T B w v os) {k : Nat} (hk : k < os.length) : ∃ g c, v = .slice (some ⟨g, 0, none⟩) os.length c ∧ Row T w g c os.length (fun i => os.getD i q0) := by
  rcases h with ⟨rfl, rfl⟩ | ⟨g, c, rfl, hB, hr⟩
  · simp at hk
  · exact ⟨g, c, rfl, hr⟩
theorem complete_fin {N0 D m B b g : Nat} {v v' : Value} {qs : List Rq} {zs ms : List Int} {r : Rq} {w w2 w3 : World} (h3 : DK N0 w3 D m B v' qs zs) (m3 : MM w3 b g ms) (t2 : Trn (SD D v) w w2) (t3 : Trn (SM m g) w2.drew w3)
    {x : Array Value} (c6 : w3.heap[w.heap.size]? = some (.cells x 38 (0, 0))) (hv : v'.ownBlock ≠ some w.heap.size) (hg : g < N0) (hN : N0 ≤ w.heap.size) (hml : m < w.heap.size) (hx : x.size = 4) :
    DK N0 (w3.setCells w.heap.size 0 (rc r)) D m B v' qs zs ∧ MM (w3.setCells w.heap.size 0 (rc r)) b g ms ∧ Trn (SC D m g v) w (w3.setCells w.heap.size 0 (rc r)) := by
  obtain ⟨cur', r1, r2, r3, r4⟩ := setCells_heap w.heap.size 38 (rc r) 0 w3 x c6 (by simp [rc]; omega)
  have hd : D ≠ w.heap.size := ne_typ h3.cell c6 (by decide)
  refine ⟨h3.keep (S := fun k => k = w.heap.size) (Trn.of_grown r4 rfl) hd (by omega) (fun k hk e => hv (by rw [← e]; exact hk)) (fun k ys hk hy e => ?_), m3.kept r4 (fun e => ?_) (fun e => ?_), ?_⟩
  · exact ne_typ hy c6 (by decide) e
  · exact ne_typ m3.cell c6 (by decide) (Option.some.inj e)
  · exact ne_typ m3.row c6 (by decide) (Option.some.inj e)
  · refine ⟨r4.os.trans (t3.os.trans t2.os), r4.tape.trans (t3.tape.trans t2.tape), r4.output.trans (t3.output.trans t2.output), ?_, fun k hk hs => ?_⟩
    · have a1 := t2.size
      have a2 := t3.size
      have a3 := r4.size
      simp at a2
      omega
    · have hw2 := t2.size
      have hw3 := t3.size
      simp at hw3
      rw [gr_keep r4 (by omega) (by omega), t3.block k (by simp; omega) (fun e => hs (by rcases e with e | e; exact .inr (.inr (.inl e)); exact .inr (.inr (.inr e))))]
      exact t2.block k hk (fun e => hs (by rcases e with e | e; exact .inl e; exact .inr (.inl e)))
set_option maxHeartbeats 1600000 in
theorem complete_yes (N0 D m B b g : Nat) (v : Value) (ps : List Rq) (zs ms : List Int) (k : Nat) (hk : k < ps.length) (w : World) (h : DK N0 w D m B v ps zs) (hm : MM w b g ms) (h256 : 256 ≤ ms.length) (hN : N0 ≤ w.heap.size) (hg : g < N0) :
    Calls Try.prog 14 #[.pointer (some ⟨D, 0, none⟩), .pointer (some ⟨b, 0, none⟩), .int .i64 k] w fun e w' => e = .returned (.tuple #[rv ps[k], .int .i64 (trE (ms.length / 256) ps[k])]) ∧
      ∃ v', DK N0 w' D m B v' (ps.eraseIdx k) (trZ zs ms ps[k]) ∧ MM w' b g (trM zs ms ps[k]) ∧ Trn (SC D m g v) w w' := by
  have b1 : Below w.heap.size w (w.alloc (.cells #[.int .i64 0, .bool false, .int .i64 0, .int .i64 0] 38)) := (Below.refl _ _).alloc (Nat.le_refl _) _
  have C := dmade_dk N0 D m B v ps zs _ (h.below b1)
  have F := frames_any _ _ _ _ _ hm.len (hm.below b1).hv
  have hf : (((ms.length : Int) / 256) == 0) = false := beq_false_of_ne (by omega)
  have hl := h.lt
  have c2 := h.c2
  have pn := h.pn
  obtain ⟨gg, c, hv, hr⟩ := h.ord.at hk
  have hcap := hr.cap
  have hgl := hr.lt
  obtain ⟨r0, r1, r2, r3⟩ := hr.c k hk
  have er : ps.getD k q0 = ps[k] := by simp [List.getD, List.getElem?_eq_getElem hk]
  rw [er] at r0 r1 r2 r3
  have b2 : Below w.heap.size w ((w.alloc (.cells #[.int .i64 0, .bool false, .int .i64 0, .int .i64 0] 38)).alloc (.cells (rc ps[k]).toArray 38)) := b1.alloc b1.size _
  have FG := forget_dk N0 D m B v ps zs k hk _ (h.below b2)
  have HH : Hid (DK N0 w D m B v ps zs ∧ MM w b g ms ∧ Below w.heap.size w ((w.alloc (.cells #[.int .i64 0, .bool false, .int .i64 0, .int .i64 0] 38)).alloc (.cells (rc ps[k]).toArray 38))) := ⟨h, hm, b2⟩
  have hbs := h.bs ps[k] (List.getElem_mem hk)
  rw [hv] at c2
  have hkk : (k : Int) < (ps.length : Int) := by omega
  clear h hm hr b2 er
  unfold rv rc at *
  generalize ps[k] = r at *
  generalize (ms.length : Int) / 256 = FF at *
  generalize ps.length = n at *
  go_enter Try.func14, Try.ntmps14
  go_wp2_with fail
  refine C.mono ?_
  rintro e w1 ⟨rfl, rfl⟩
  clear C
  go_wp2_with fail
  refine F.mono ?_
  rintro e w1 ⟨rfl, rfl⟩
  clear F
  go_wp2_with fail
  refine FG.mono ?_
  rintro e w2 ⟨rfl, v', h2, t2, ov⟩
  clear FG
  obtain ⟨h, hm, b2⟩ := HH.out
  have hx := h.below b2
  have mx := hm.below b2
  have m2 := mx.trn t2 (not_sd hx mx.cell (by decide) (by decide)) (not_sd hx mx.row (by decide) (by decide))
  have n6 : ∀ j, w.heap.size ≤ j → ¬ SD D v j := fun j hj e => by
    rcases e with e | e
    · omega
    · rw [hv] at e; simp [Value.ownBlock] at e; omega
  have e6 := (t2.block w.heap.size (by simp; omega) (n6 _ (Nat.le_refl _))).trans ((heap_alloc_past _ _ (by simp)).trans (heap_alloc_at w _))
  have e8 := (t2.block (w.heap.size + 1) (by simp) (n6 _ (by omega))).trans (at_next w _ _)
  have z2 : w.heap.size + 1 < w2.heap.size := lt_of_heap e8
  have TR := transfer_dk N0 D m B b g v' (ps.eraseIdx k) zs ms r w2.drew h2.drew (m2.below (Below.refl _ _).drew) hbs (by simp; omega) hg
  have mlt := h.mlt
  have p0 : w2.cell? ⟨w.heap.size + 1, 0, none⟩ = some (.int .i64 r.i) := by simp [World.cell?, e8]
  have p1 : w2.cell? ⟨w.heap.size + 1, 1, none⟩ = some (.bool r.w) := by simp [World.cell?, e8]
  have p2 : w2.cell? ⟨w.heap.size + 1, 2, none⟩ = some (.int .i64 r.b) := by simp [World.cell?, e8]
  have p3 : w2.cell? ⟨w.heap.size + 1, 3, none⟩ = some (.int .i64 r.f) := by simp [World.cell?, e8]
  have HT : Hid (Trn (SD D v) w w2) := (Trn.of_below b2).trans t2
  have H6 : Hid (w2.heap[w.heap.size]? = some (.cells #[.int .i64 0, .bool false, .int .i64 0, .int .i64 0] 38 (0, 0)) ∧ w2.heap[w.heap.size + 1]? = some (.cells #[.int .i64 r.i, .bool r.w, .int .i64 r.b, .int .i64 r.f] 38 (0, 0))) := ⟨e6, e8⟩
  have HO : Hid (v'.ownBlock ≠ some w.heap.size) := fun e => by
    rw [ov, hv] at e; simp [Value.ownBlock] at e; omega
  have gne : ∀ j, w.heap.size ≤ j → ¬ SM m g j := fun j hj e => by
    rcases e with e | e <;> omega
  clear ov h hm b2 hx mx m2 h2 t2 n6 e6 e8 HH hv c2 r0 r1 r2 r3 hf
  unfold rv at TR
  go_wp2_with fail
  go_region_with (go_at_call 32; refine TR.mono ?_; rintro e w3 ⟨rfl, h3, m3, t3⟩; (have c6 := (t3.block w.heap.size (by simp; omega) (gne _ (Nat.le_refl _))).trans H6.out.1); (have c8 := (t3.block (w.heap.size + 1) (by simp; omega) (gne _ (by omega))).trans H6.out.2); (have z3 : w.heap.size + 1 < w3.heap.size := lt_of_heap c8); (have q0 : w3.cell? ⟨w.heap.size + 1, 0, none⟩ = some (.int .i64 r.i) := by simp [World.cell?, c8]); (have q1 : w3.cell? ⟨w.heap.size + 1, 1, none⟩ = some (.bool r.w) := by simp [World.cell?, c8]); (have q2 : w3.cell? ⟨w.heap.size + 1, 2, none⟩ = some (.int .i64 r.b) := by simp [World.cell?, c8]); (have q3 : w3.cell? ⟨w.heap.size + 1, 3, none⟩ = some (.int .i64 r.f) := by simp [World.cell?, c8]); (have s0 : w3.cell? ⟨w.heap.size, 0, none⟩ = some (.int .i64 0) := by simp [World.cell?, c6]); (have s1 : w3.cell? ⟨w.heap.size, 1, none⟩ = some (.bool false) := by simp [World.cell?, c6]); (have s2 : w3.cell? ⟨w.heap.size, 2, none⟩ = some (.int .i64 0) := by simp [World.cell?, c6]); (have s3 : w3.cell? ⟨w.heap.size, 3, none⟩ = some (.int .i64 0) := by simp [World.cell?, c6]); (have sf : ∀ j, w3.frozen? ⟨w.heap.size, j, none⟩ = false := fun j => by simp [World.frozen?, c6]))
  all_goals
    go_wp2_with fail
    refine bodyPost_ret (v := .tuple #[.agg #[.int .i64 r.i, .bool r.w, .int .i64 r.b, .int .i64 r.f], .int .i64 (trE (ms.length / 256) r)]) ?hv rfl ⟨rfl, v', complete_fin (r := r) h3 m3 HT.out t3 c6 HO.out hg hN mlt rfl⟩
    case hv => simp [results, Try.results14, go_sem, s0, s1, s2, s3]
end Go.Proofs.Ytkadpmmielegfaa
