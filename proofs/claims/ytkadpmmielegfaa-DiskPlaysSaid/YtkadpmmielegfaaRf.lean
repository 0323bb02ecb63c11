/-
  What Complete of the document's disk does: the bytes.
-/
import Derived.Test.YtkadpmmielegfaaRe
import Derived.Deep.DeepCutAuto
namespace Go.Proofs.Ytkadpmmielegfaa
open Go.RowKit Go.Maps
set_option linter.unusedVariables false
set_option maxRecDepth 20000

theorem piece_at (xs : List Int) (k i : Nat) (hi : i < 256) : (piece xs k).getD i 0 = xs.getD (k * 256 + i) 0 := by
  simp [piece, List.getD, List.getElem?_take_of_lt hi, List.getElem?_drop]
/-- one byte more -/
theorem splice_more (zs ys : List Int) (o k : Nat) (hk : k < ys.length) (ho : o + ys.length ≤ zs.length) : (splice zs o (ys.take k)).set (o + k) (ys.getD k 0) = splice zs o (ys.take (k + 1)) := by
  have htl : (ys.take k).length = k := by simp; omega
  have e0 : ys.take (k + 1) = ys.take k ++ [ys.getD k 0] := by
    rw [List.take_add_one, List.getElem?_eq_getElem hk]
    simp [List.getD, List.getElem?_eq_getElem hk]
  rw [e0, splice_snoc zs _ _ o (by omega), htl]
/-- what the cells of the request, the result and the two objects are behind a write into block z -/
theorem RE.after {N0 : Nat} {w x x' : World} {R rb B b g q6 q8 z : Nat} {v v2 : Value} {ps : List Rq} {zs ms : List Int} {r : Rq} (h : RE N0 w x R rb B b g q6 q8 v v2 ps zs ms r) (k : x.grownBy x' (some z)) (hz : ∃ y, x.heap[z]? = some (.cells y 5 (0, 0))) :
    x'.heap[q6]? = some (.cells #[.int .i64 0, .bool false, .int .i64 0, .int .i64 0] 44 (0, 0)) ∧ x'.heap[q8]? = some (.cells #[.int .i64 r.i, .bool r.w, .int .i64 r.b, .int .i64 r.f] 44 (0, 0)) := by
  obtain ⟨y, hz⟩ := hz
  exact ⟨(gr_keep k (lt_of_heap h.c6) (ne_typ h.c6 hz (by decide))).trans h.c6, (gr_keep k (lt_of_heap h.c8) (ne_typ h.c8 hz (by decide))).trans h.c8⟩

set_option maxHeartbeats 3200000 in
theorem rdcomplete_yes (N0 R rb B b g : Nat) (v : Value) (ps : List Rq) (zs ms : List Int) (k : Nat) (hk : k < ps.length) (w : World) (h : RD N0 w R rb B v ps zs) (hm : RM w b g ms) (hN : N0 ≤ w.heap.size) (hgb : rb ≠ g) (hMl : ms.length % 256 = 0) :
    Calls Try.prog 15 #[.pointer (some ⟨R, 0, none⟩), .pointer (some ⟨b, 0, none⟩), .int .i64 k] w fun e w' => e = .returned (.tuple #[rv ps[k], .int .i64 (trE (ms.length / 256) ps[k])]) ∧
      ∃ v', RD N0 w' R rb B v' (ps.eraseIdx k) (trZ zs ms ps[k]) ∧ RM w' b g (trM zs ms ps[k]) ∧ Trn (SC R rb g v) w w' := by
  have hbb := h.bs ps[k] (List.getElem_mem hk)
  obtain ⟨gg, c, rfl, hr⟩ := h.ord.at hk
  have b1 : Below w.heap.size w ((w.alloc (.cells #[.int .i64 0, .bool false, .int .i64 0, .int .i64 0] 44)).alloc (.cells (rc ps[k]).toArray 44)) := ((Below.refl _ _).alloc (Nat.le_refl _) _).alloc (by simp) _
  have e6 : ((w.alloc (.cells #[.int .i64 0, .bool false, .int .i64 0, .int .i64 0] 44)).alloc (.cells (rc ps[k]).toArray 44)).heap[w.heap.size]? = some (.cells #[.int .i64 0, .bool false, .int .i64 0, .int .i64 0] 44 (0, 0)) := by rw [heap_alloc_past _ _ (by simp)]; exact heap_alloc_at _ _
  have e8 := at_next w (.cells #[.int .i64 0, .bool false, .int .i64 0, .int .i64 0] 44) (.cells (rc ps[k]).toArray 44)
  have hxz : ((w.alloc (.cells #[.int .i64 0, .bool false, .int .i64 0, .int .i64 0] 44)).alloc (.cells (rc ps[k]).toArray 44)).heap.size = w.heap.size + 1 + 1 := by simp
  obtain ⟨x, hx⟩ : ∃ x, x = (w.alloc (.cells #[.int .i64 0, .bool false, .int .i64 0, .int .i64 0] 44)).alloc (.cells (rc ps[k]).toArray 44) := ⟨_, rfl⟩
  rw [← hx] at b1 e6 e8 hxz
  have h1 := h.below b1
  have m1 := hm.below b1
  have hr1 := hr.keep (b1.block gg hr.lt)
  obtain ⟨v1, w1, v2, w2, hrun1, hrun2, hb1, hb2, hI, hgr, hz1, hz2⟩ := erase_runs h1 hk hr1
  obtain ⟨a2, c2, hv2, _, _⟩ := hI.form
  have hI0 : Ord 44 N0 w2 v2 (ps.eraseIdx k) := by
    rcases hI with h' | ⟨g', c', e, hB', hr'⟩
    · exact .inl h'
    · exact .inr ⟨g', c', e, by have := b1.size; omega, hr'⟩
  have t2 : Trn (SD R (.slice (some ⟨gg, 0, none⟩) ps.length c)) x w2 := ⟨hgr.os, hgr.tape, hgr.output, hgr.size, fun k hk _ => hgr.block k hk (by simp)⟩
  obtain ⟨f1, f2⟩ := h1.stored t2 hb2 hI0 (by have := List.length_eraseIdx_le ps k; have := h1.pn; omega) (fun r hr => h1.bs r (List.mem_of_mem_eraseIdx hr))
  have nsd : ∀ {q : Nat}, w.heap.size ≤ q → q < x.heap.size → ¬ SD R (.slice (some ⟨gg, 0, none⟩) ps.length c) q := fun hq _ e => by
    rcases e with e | e
    · have := h.lt; omega
    · simp [Value.ownBlock] at e; have := hr.lt; omega
  have HE : Hid (RE N0 w (w2.setCell ⟨R, 1, none⟩ v2) R rb B b g w.heap.size (w.heap.size + 1) (.slice (some ⟨gg, 0, none⟩) ps.length c) v2 (ps.eraseIdx k) zs ms ps[k]) := by
    refine ⟨f1, ?_, ?_, ?_, (Trn.of_below b1).trans f2, Nat.le_refl _, by omega, fun e => by have := (hI.lt _ e).1; omega⟩
    · have nb : ∀ {q : Nat} {y : Array Value} {t : TypeId} {f : Nat × Nat}, x.heap[q]? = some (.cells y t f) → t ≠ 80 → t ≠ 44 → ¬ SD R (.slice (some ⟨gg, 0, none⟩) ps.length c) q := fun hq h80 h44 e => by
        rcases e with e | e
        · exact ne_typ hq h1.cell h80 e
        · obtain ⟨cur, hh⟩ := h1.ord.typ _ e
          exact ne_typ hq hh h44 rfl
      exact ⟨(f2.block b m1.blt (nb m1.cell (by decide) (by decide))).trans m1.cell, (f2.block g m1.glt (nb m1.row (by decide) (by decide))).trans m1.row, m1.ne, m1.bytes, m1.pos, m1.len⟩
    · exact (f2.block _ (lt_of_heap e6) (nsd (Nat.le_refl _) (lt_of_heap e6))).trans e6
    · exact (f2.block _ (lt_of_heap e8) (nsd (by omega) (lt_of_heap e8))).trans e8
  have c1 := h.c1
  have hl := h.lt
  have pn := h.pn
  have hcap := hr.cap
  have hgl := hr.lt
  obtain ⟨q0', q1', q2', q3'⟩ := hr.c k hk
  have er : ps.getD k q0 = ps[k] := by simp [List.getD, List.getElem?_eq_getElem hk]
  rw [er] at q0' q1' q2' q3'
  have x1 : x.cell? ⟨R, 1, none⟩ = some (.slice (some ⟨gg, 0, none⟩) ps.length c) := h1.c1
  have xl : R < x.heap.size := h1.lt
  have y1 : w1.cell? ⟨R, 1, none⟩ = some (.slice (some ⟨gg, 0, none⟩) ps.length c) := (World.cell?_of_block (a := ⟨R, 1, none⟩) hb1).trans x1
  have yl : R < w1.heap.size := by omega
  have z1 : w2.cell? ⟨R, 1, none⟩ = some (.slice (some ⟨gg, 0, none⟩) ps.length c) := (World.cell?_of_block (a := ⟨R, 1, none⟩) hb2).trans x1
  have zl : R < w2.heap.size := by omega
  have zf : w2.frozen? ⟨R, 1, none⟩ = false := by simp [World.frozen?, hb2, h1.cell]
  have hml := hm.len
  subst hv2

  have q1 : (k : Int) ≤ (c : Int) := by omega
  have q2 : (k : Int) + 1 ≤ (ps.length : Int) := by omega
  have q3 : ¬ ((k : Int) < 0) := by omega
  have q4 : (0 : Int) ≤ (k : Int) + 1 ∧ (k : Int) + 1 ≤ (ps.length : Int) := by omega
  have q5 : ((k : Int) + 1).toNat = k + 1 := by omega
  have hwr : IntKind.i64.wrap ((k : Int) + 1) = (k : Int) + 1 := by rw [IntKind.wrap_i64]; omega
  have hx' : (w.alloc (.cells #[.int .i64 0, .bool false, .int .i64 0, .int .i64 0] 44)).alloc (.cells #[.int .i64 ps[k].i, .bool ps[k].w, .int .i64 ps[k].b, .int .i64 ps[k].f] 44) = x := hx.symm
  clear h hm hr h1 m1 hr1 hI hI0 hgr hb1 hb2 f1 f2 t2 b1 e6 e8 er nsd hx hxz
  generalize (ps.eraseIdx k).length = n2 at *
  generalize ps.eraseIdx k = qs at *
  generalize ps[k] = r at *
  generalize ps.length = n at *
  simp only [rv]
  go_enter Try.func15, Try.ntmps15
  go_wp2_with fail
  go_cut [9] (fun u wx => u = undef ∧ Hid (RE N0 w wx R rb B b g w.heap.size (w.heap.size + 1) (.slice (some ⟨gg, 0, none⟩) n c) (.slice a2 n2 c2) qs zs ms r))
  case first =>
    by_cases hc : c = k + 1
    · rw [if_pos hc] at hrun2
      have hn : n = k + 1 := by omega
      subst hc hn
      simp only [Nat.sub_self] at hrun2
      have q6 : (k : Int) ≤ (k : Int) + 1 := by omega
      have q7 : (0 : Int) ≤ (k : Int) + 1 := by omega
      go_region_law (first | (refine step_append_run rfl (.tmp 30) (.tmp 36) 78 rfl _ _ _ w1 (by rfl) (by rfl) hrun1 ?_) | (refine step_append_run rfl (.tmp 37) (.tmp 44) 78 rfl _ _ _ w2 (by rfl) (by rfl) hrun2 ?_))
      all_goals
        go_wp2_with fail
        go_meet
        exact ⟨rfl, HE⟩
    · rw [if_neg hc] at hrun2
      go_region_law (first | (refine step_append_run rfl (.tmp 30) (.tmp 36) 78 rfl _ _ _ w1 (by rfl) (by rfl) hrun1 ?_) | (refine step_append_run rfl (.tmp 37) (.tmp 44) 78 rfl _ _ _ w2 (by rfl) (by rfl) hrun2 ?_))
      all_goals
        go_wp2_with fail
        go_meet
        exact ⟨rfl, HE⟩
  case rest =>
    obtain ⟨rfl, HR⟩ := hcut
    clear hrun1 hrun2 y1 yl z1 zl zf q0' q1' q2' q3' hx' HE x1 xl hz1 hz2
    obtain ⟨p0, p1, p2, p3, pl⟩ := HR.out.cells
    have hrm := HR.out.rm.cell0
    have hrl := HR.out.rm.blt
    by_cases hf : 0 ≤ r.f ∧ r.f < (ms.length / 256 : Nat)
    · obtain ⟨ri, rw', rk, rf⟩ := r
      dsimp only at *
      obtain ⟨f, rfl⟩ := Int.eq_ofNat_of_zero_le hf.1
      obtain ⟨nb, rfl⟩ := Int.eq_ofNat_of_zero_le hbb.1
      have hf' : f < ms.length / 256 := by omega
      have hfl : f * 256 + 256 ≤ ms.length := by omega
      have hnb : nb < B := by omega
      have hzl := HR.out.rd.len
      have hb2 := HR.out.rd.b2
      have hb1 := HR.out.rd.b1
      have hd : decide ((f : Int) < 0) = false := decide_eq_false (by omega)
      have hd2 : decide (((ms.length : Int) / 256) ≤ (f : Int)) = false := decide_eq_false (by omega)
      cases rw'
      · have HT : Hid (trE (ms.length / 256) ⟨ri, false, nb, f⟩ = 0 ∧ trZ zs ms ⟨ri, false, nb, f⟩ = zs ∧ trM zs ms ⟨ri, false, nb, f⟩ = splice ms (f * 256) (piece zs nb)) := ⟨by rw [trE, if_pos hf], by rw [trZ, if_neg (by simp)], by rw [trM, if_pos ⟨hf.1, hf.2, rfl⟩]; rfl⟩
        have hpl := piece_len hzl hnb
        go_wp2_with fail
        go_quiet (fail)
        have HY := HR.out.drew nq
        obtain ⟨y, hy⟩ : ∃ y, y = wc.drewN nq := ⟨_, rfl⟩
        rw [← hy] at HY ⊢
        have HY' : Hid (_) := HY
        obtain ⟨p0, p1, p2, p3, pl⟩ := HY.cells
        clear hrm hrl HR hy HY
        go_wp2_with fail
        go_loopw [9] (fun i wr => ∃ k2 : Nat, k2 ≤ 256 ∧ i = .int .i64 k2 ∧ RM wr b g (splice ms (f * 256) ((piece zs nb).take k2)) ∧ y.grownBy wr (some g)) (fun i _ => 256 - (intOf i).toNat)
        case atStart => exact ⟨0, by omega, rfl, by rw [List.take_zero, splice_nil]; exact HY'.out.rm, grown_refl _ _⟩
        case round =>
          obtain ⟨k2, hk2, rfl, hm2, hgr⟩ := hrel
          have AF := HY'.out.after hgr ⟨_, HY'.out.rm.row⟩
          have rd2 : RD N0 wr R rb B (.slice a2 n2 c2) qs zs := HY'.out.rd.keep (S := fun k => k = g) (Trn.of_grown hgr rfl) (ne_typ HY'.out.rd.cell HY'.out.rm.row (by decide)) hgb (fun q hq e => by
            obtain ⟨cur, hh⟩ := HY'.out.rd.ord.typ q hq
            exact ne_typ hh HY'.out.rm.row (by decide) e)
          have u0 : wr.cell? ⟨w.heap.size + 1, 0, none⟩ = some (.int .i64 ri) := cell_of AF.2 rfl
          have u1 : wr.cell? ⟨w.heap.size + 1, 1, none⟩ = some (.bool false) := cell_of AF.2 rfl
          have u2 : wr.cell? ⟨w.heap.size + 1, 2, none⟩ = some (.int .i64 nb) := cell_of AF.2 rfl
          have u3 : wr.cell? ⟨w.heap.size + 1, 3, none⟩ = some (.int .i64 f) := cell_of AF.2 rfl
          have ul := lt_of_heap AF.2
          clear p0 p1 p2 p3 pl
          by_cases hlt : k2 < 256
          · have hlen := length_splice ms (f * 256) ((piece zs nb).take k2) (by simp; omega)
            have hc := hm2.cell0
            rw [hlen] at hc
            have hbl := hm2.blt
            have hgl := hm2.glt
            have dc := rd2.c0
            rw [hzl] at dc
            have dl := rd2.lt
            have sl2 := rd2.rlt
            have src := rd2.rowAt (nb * 256 + k2) (by omega)
            have htk := hm2.rowAt (f * 256 + k2) (by omega)
            have hfz : wr.frozen? ⟨g, f * 256 + k2, none⟩ = false := by simp [World.frozen?, hm2.row]
            have hb := rd2.bytes (nb * 256 + k2)
            have ST := hm2.set (f * 256 + k2) (zs.getD (nb * 256 + k2) 0) (by omega) hb.1 hb.2
            have e1 := splice_more ms (piece zs nb) (f * 256) k2 (by omega) (by omega)
            rw [piece_at zs nb k2 hlt] at e1
            rw [e1] at ST
            have HST : Hid (_) := ST
            have HG : Hid (_) := hgr
            clear ST e1 hm2 hgr hlen rd2 AF HT
            generalize zs.getD (nb * 256 + k2) 0 = z at *
            generalize (splice ms (f * 256) ((piece zs nb).take k2)).getD (f * 256 + k2) 0 = yy at *
            have i1 : (0 : Int) ≤ (f : Int) * 256 + (k2 : Int) ∧ (f : Int) * 256 + (k2 : Int) < (ms.length : Int) := by omega
            have i2 : (0 : Int) ≤ (nb : Int) * 256 + (k2 : Int) ∧ (nb : Int) * 256 + (k2 : Int) < ((B * 256 : Nat) : Int) := by omega
            go_wp2_with fail
            go_region
            all_goals go_wp2_with fail
            all_goals exact ⟨⟨k2 + 1, by omega, by go_num, HST.out.1.drew, grown_drew (grown_trans HG.out HST.out.2)⟩, by simp [intOf]; omega⟩
          · have hk9 : (256 : Int) ≤ (k2 : Int) := by omega
            rw [List.take_of_length_le (by omega)] at hm2
            have s0 : wr.cell? ⟨w.heap.size, 0, none⟩ = some (.int .i64 0) := cell_of AF.1 rfl
            have s1 : wr.cell? ⟨w.heap.size, 1, none⟩ = some (.bool false) := cell_of AF.1 rfl
            have s2 : wr.cell? ⟨w.heap.size, 2, none⟩ = some (.int .i64 0) := cell_of AF.1 rfl
            have s3 : wr.cell? ⟨w.heap.size, 3, none⟩ = some (.int .i64 0) := cell_of AF.1 rfl
            have sf : ∀ j, wr.frozen? ⟨w.heap.size, j, none⟩ = false := fun j => by simp [World.frozen?, AF.1]
            have sl := lt_of_heap AF.1
            have HF : Hid (RD N0 (wr.setCells w.heap.size 0 (rc ⟨ri, false, nb, f⟩)) R rb B (.slice a2 n2 c2) qs zs ∧ RM (wr.setCells w.heap.size 0 (rc ⟨ri, false, nb, f⟩)) b g (splice ms (f * 256) (piece zs nb)) ∧ Trn (SC R rb g (.slice (some ⟨gg, 0, none⟩) n c)) w (wr.setCells w.heap.size 0 (rc ⟨ri, false, nb, f⟩))) :=
              HY'.out.fin rd2 hm2 (Trn.of_grown hgr (.inr rfl))
            clear AF rd2 hm2 hgr
            go_wp2_with fail
            refine bodyPost_ret (v := .tuple #[.agg #[.int .i64 ri, .bool false, .int .i64 nb, .int .i64 f], .int .i64 0]) ?hv rfl ⟨by rw [HT.out.1], ⟨.slice a2 n2 c2, by rw [HT.out.2.1]; exact HF.out.1⟩, by rw [HT.out.2.2]; exact HF.out.2⟩
            case hv => simp [results, Try.results15, go_sem, s0, s1, s2, s3]
      · have HT : Hid (trE (ms.length / 256) ⟨ri, true, nb, f⟩ = 0 ∧ trZ zs ms ⟨ri, true, nb, f⟩ = splice zs (nb * 256) (piece ms f) ∧ trM zs ms ⟨ri, true, nb, f⟩ = ms) := ⟨by rw [trE, if_pos hf], by rw [trZ, if_pos ⟨hf.1, hf.2, rfl⟩]; rfl, by rw [trM, if_neg (by simp)]⟩
        have hpl : (piece ms f).length = 256 := piece_len (B := ms.length / 256) (by omega) hf'
        go_wp2_with fail
        go_quiet (fail)
        have HY := HR.out.drew nq
        obtain ⟨y, hy⟩ : ∃ y, y = wc.drewN nq := ⟨_, rfl⟩
        rw [← hy] at HY ⊢
        have HY' : Hid (_) := HY
        obtain ⟨p0, p1, p2, p3, pl⟩ := HY.cells
        clear hrm hrl HR hy HY
        go_wp2_with fail
        go_loopw [9] (fun i wr => ∃ k2 : Nat, k2 ≤ 256 ∧ i = .int .i64 k2 ∧ RD N0 wr R rb B (.slice a2 n2 c2) qs (splice zs (nb * 256) ((piece ms f).take k2)) ∧ y.grownBy wr (some rb)) (fun i _ => 256 - (intOf i).toNat)
        case atStart => exact ⟨0, by omega, rfl, by rw [List.take_zero, splice_nil]; exact HY'.out.rd, grown_refl _ _⟩
        case round =>
          obtain ⟨k2, hk2, rfl, hm2, hgr⟩ := hrel
          have AF := HY'.out.after hgr ⟨_, HY'.out.rd.row⟩
          have rm2 : RM wr b g ms := HY'.out.rm.kept hgr (fun e => ne_typ HY'.out.rm.cell HY'.out.rd.row (by decide) (Option.some.inj e)) (fun e => hgb (Option.some.inj e).symm)
          have u0 : wr.cell? ⟨w.heap.size + 1, 0, none⟩ = some (.int .i64 ri) := cell_of AF.2 rfl
          have u1 : wr.cell? ⟨w.heap.size + 1, 1, none⟩ = some (.bool true) := cell_of AF.2 rfl
          have u2 : wr.cell? ⟨w.heap.size + 1, 2, none⟩ = some (.int .i64 nb) := cell_of AF.2 rfl
          have u3 : wr.cell? ⟨w.heap.size + 1, 3, none⟩ = some (.int .i64 f) := cell_of AF.2 rfl
          have ul := lt_of_heap AF.2
          clear p0 p1 p2 p3 pl
          by_cases hlt : k2 < 256
          · have hlen := length_splice zs (nb * 256) ((piece ms f).take k2) (by simp; omega)
            have dc := hm2.c0
            rw [hlen, hzl] at dc
            have dl := hm2.lt
            have sl2 := hm2.rlt
            have hc := rm2.cell0
            have hbl := rm2.blt
            have hgl := rm2.glt
            have src := rm2.rowAt (f * 256 + k2) (by omega)
            have htk := hm2.rowAt (nb * 256 + k2) (by omega)
            have hfz : wr.frozen? ⟨rb, nb * 256 + k2, none⟩ = false := by simp [World.frozen?, hm2.row]
            have hb := rm2.bytes (f * 256 + k2)
            have ST := hm2.set (nb * 256 + k2) (ms.getD (f * 256 + k2) 0) (by omega) hb.1 hb.2
            have e1 := splice_more zs (piece ms f) (nb * 256) k2 (by omega) (by omega)
            rw [piece_at ms f k2 hlt] at e1
            rw [e1] at ST
            have HST : Hid (_) := ST
            have HG : Hid (_) := hgr
            clear ST e1 hm2 hgr hlen rm2 AF HT
            generalize ms.getD (f * 256 + k2) 0 = z at *
            generalize (splice zs (nb * 256) ((piece ms f).take k2)).getD (nb * 256 + k2) 0 = yy at *
            have i1 : (0 : Int) ≤ (f : Int) * 256 + (k2 : Int) ∧ (f : Int) * 256 + (k2 : Int) < (ms.length : Int) := by omega
            have i2 : (0 : Int) ≤ (nb : Int) * 256 + (k2 : Int) ∧ (nb : Int) * 256 + (k2 : Int) < ((B * 256 : Nat) : Int) := by omega
            go_wp2_with fail
            go_region
            all_goals go_wp2_with fail
            all_goals exact ⟨⟨k2 + 1, by omega, by go_num, HST.out.1.drew, grown_drew (grown_trans HG.out HST.out.2)⟩, by simp [intOf]; omega⟩
          · have hk9 : (256 : Int) ≤ (k2 : Int) := by omega
            rw [List.take_of_length_le (by omega)] at hm2
            have s0 : wr.cell? ⟨w.heap.size, 0, none⟩ = some (.int .i64 0) := cell_of AF.1 rfl
            have s1 : wr.cell? ⟨w.heap.size, 1, none⟩ = some (.bool false) := cell_of AF.1 rfl
            have s2 : wr.cell? ⟨w.heap.size, 2, none⟩ = some (.int .i64 0) := cell_of AF.1 rfl
            have s3 : wr.cell? ⟨w.heap.size, 3, none⟩ = some (.int .i64 0) := cell_of AF.1 rfl
            have sf : ∀ j, wr.frozen? ⟨w.heap.size, j, none⟩ = false := fun j => by simp [World.frozen?, AF.1]
            have sl := lt_of_heap AF.1
            have HF : Hid (RD N0 (wr.setCells w.heap.size 0 (rc ⟨ri, true, nb, f⟩)) R rb B (.slice a2 n2 c2) qs (splice zs (nb * 256) (piece ms f)) ∧ RM (wr.setCells w.heap.size 0 (rc ⟨ri, true, nb, f⟩)) b g ms ∧ Trn (SC R rb g (.slice (some ⟨gg, 0, none⟩) n c)) w (wr.setCells w.heap.size 0 (rc ⟨ri, true, nb, f⟩))) :=
              HY'.out.fin hm2 rm2 (Trn.of_grown hgr (.inl rfl))
            clear AF rm2 hm2 hgr
            go_wp2_with fail
            refine bodyPost_ret (v := .tuple #[.agg #[.int .i64 ri, .bool true, .int .i64 nb, .int .i64 f], .int .i64 0]) ?hv rfl ⟨by rw [HT.out.1], ⟨.slice a2 n2 c2, by rw [HT.out.2.1]; exact HF.out.1⟩, by rw [HT.out.2.2]; exact HF.out.2⟩
            case hv => simp [results, Try.results15, go_sem, s0, s1, s2, s3]
    · have HT : Hid (trE (ms.length / 256) r = 12 ∧ trZ zs ms r = zs ∧ trM zs ms r = ms) := ⟨by rw [trE, if_neg hf], by rw [trZ, if_neg (fun e => hf ⟨e.1, e.2.1⟩)], by rw [trM, if_neg (fun e => hf ⟨e.1, e.2.1⟩)]⟩
      obtain ⟨s0, s1, s2, s3, sl, sf⟩ := HR.out.result
      by_cases h0 : r.f < 0
      case' pos => have hd : decide (r.f < 0) = true := decide_eq_true h0
      case' neg =>
        have hd : decide (r.f < 0) = false := decide_eq_false h0
        have hd2 : decide (((ms.length : Int) / 256) ≤ r.f) = true := decide_eq_true (by omega)
      all_goals
        go_wp2_with fail
        go_quiet (fail)
        go_wp2_with fail
        refine bodyPost_ret (v := .tuple #[.agg #[.int .i64 r.i, .bool r.w, .int .i64 r.b, .int .i64 r.f], .int .i64 12]) ?hv rfl ⟨by rw [HT.out.1], .slice a2 n2 c2, ?_⟩
        case hv => simp [results, Try.results15, go_sem, s0, s1, s2, s3]
        rw [HT.out.2.1, HT.out.2.2]
        have hb := below_drewN (Below.refl wc.heap.size wc) nq
        exact HR.out.fin (HR.out.rd.below hb) (HR.out.rm.below hb) (Trn.of_below hb)
end Go.Proofs.Ytkadpmmielegfaa
