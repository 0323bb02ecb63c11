/-
  The document's Due.
-/
import Derived.Test.YtgiafngiledmbaaRd
import Derived.Test.YtgiafngiledmbaaQt
import Derived.Test.YtgiafngiledmbaaDv
namespace Go.Proofs.Ytgiafngiledmbaa
open Go.RowKit Go.Maps
set_option linter.unusedVariables false
set_option maxRecDepth 100000
/-- the first j seen -/
def upto (L : List Tm) (c : Int) (j : Nat) : List Tm := aft (L.take j) c ++ L.drop j
theorem upto_0 (L : List Tm) (c : Int) : upto L c 0 = L := rfl
theorem upto_all (L : List Tm) (c : Int) : upto L c L.length = aft L c := by unfold upto; simp
theorem upto_at {L : List Tm} {c : Int} {j : Nat} (h : j < L.length) : (upto L c j)[j]? = L[j]? := by
  unfold upto
  rw [List.getElem?_append_right (by simp [aft]; omega)]
  simp [aft, Nat.min_eq_left (Nat.le_of_lt h)]
theorem upto_len (L : List Tm) (c : Int) (j : Nat) : (upto L c j).length = L.length := by unfold upto; simp [aft]; omega
theorem upto_succ {L : List Tm} {c : Int} {j : Nat} {x : Tm} (hx : L[j]? = some x) : upto L c (j + 1) = (upto L c j).set j (if isd c x then off x else x) := by
  have hj := (List.getElem?_eq_some_iff.1 hx).1
  unfold upto
  have hl : (aft (L.take j) c).length = j := by simp [aft]; omega
  rw [take_one hx, List.set_append_right _ _ (by omega), hl, Nat.sub_self]
  have hd : L.drop j = x :: L.drop (j + 1) := by
    rw [List.drop_eq_getElem_cons hj, (List.getElem?_eq_some_iff.1 hx).2]
  rw [hd]
  simp [aft]
theorem dueL_succ {L : List Tm} {c : Int} {j : Nat} {x : Tm} (hx : L[j]? = some x) : dueL (L.take (j + 1)) c = dueL (L.take j) c ++ if isd c x then [x.id] else [] := by
  rw [take_one hx]
  unfold dueL
  rw [List.filter_append, List.map_append]
  cases h : isd c x <;> simp [h]
theorem dueL_le (L : List Tm) (c : Int) (j : Nat) : (dueL (L.take j) c).length ≤ L.length := by
  unfold dueL
  rw [List.length_map]
  have := List.length_filter_le (isd c) (L.take j)
  simp at this
  omega
/-- what stands in a round -/
structure ER (W wr : World) (r g n cc : Nat) (L : List Tm) (c : Int) (j : Nat) (o : Value) : Prop where
  dx : DX wr r (.slice (some ⟨g, 0, none⟩) n cc) (upto L c j)
  lr : LR W.heap.size wr o (dueL (L.take j) c)
  tr : Trn (Sr r (.slice (some ⟨g, 0, none⟩) n cc)) W wr
  rl : r < W.heap.size
  gl : g < W.heap.size
section
variable {W wr w' : World} {r g n cc : Nat} {L : List Tm} {c : Int} {j : Nat} {o : Value} {x : Tm}
theorem ER.below (h : ER W wr r g n cc L c j o) (hb : Below wr.heap.size wr w') : ER W w' r g n cc L c j o := ⟨h.dx.below hb, h.lr.below hb, h.tr.trans (Trn.of_below hb), h.rl, h.gl⟩
/-- one that is not due -/
theorem ER.pass (h : ER W wr r g n cc L c j o) (hx : L[j]? = some x) (hd : isd c x = false) : ER W wr r g n cc L c (j + 1) o := by
  have e1 : upto L c (j + 1) = upto L c j := by
    rw [upto_succ hx, hd]
    simp only [Bool.false_eq_true, if_false]
    have h1 := upto_at (c := c) (List.getElem?_eq_some_iff.1 hx).1
    rw [hx] at h1
    obtain ⟨hj, e⟩ := List.getElem?_eq_some_iff.1 h1
    rw [← e]
    exact List.set_getElem_self hj
  have e2 : dueL (L.take (j + 1)) c = dueL (L.take j) c := by rw [dueL_succ hx, hd]; simp
  exact ⟨e1 ▸ h.dx, e2 ▸ h.lr, h.tr, h.rl, h.gl⟩
/-- one that is due -/
theorem ER.take (h : ER W wr r g n cc L c j o) (hx : L[j]? = some x) (hd : isd c x = true) (ho : x.Ok) :
    ∃ o' w5, (Builtin.append_ #[46, 46] 46 #[o, .slice (some ⟨wr.heap.size, 0, none⟩) 1 1]).run Try.prog (wr.alloc (.cells #[.int .i64 x.id] 3)) = .ok o' w5 ∧ (w5.cell? ⟨r, 0, none⟩ = some (.slice (some ⟨g, 0, none⟩) n cc) ∧ r < w5.heap.size ∧ g < w5.heap.size) ∧
      w5.cell? ⟨g, j * 6 + 4, none⟩ = some (.bool x.set) ∧ w5.frozen? ⟨g, j * 6 + 4, none⟩ = false ∧ ER W (w5.setCell ⟨g, j * 6 + 4, none⟩ (.bool false)) r g n cc L c (j + 1) o' := by
  have hx1 : (upto L c j)[j]? = some x := by rw [upto_at (List.getElem?_eq_some_iff.1 hx).1]; exact hx
  have h64 := h.dx.ok.len
  rw [upto_len] at h64
  have hws := h.tr.size
  obtain ⟨o', w5, hrun, hlr, hg, hsz⟩ := h.lr.push x.id (by have := dueL_le L c j; omega) hws
  have old : ∀ k, k < W.heap.size → w5.heap[k]? = wr.heap[k]? := fun k hk => hg.block k (by omega) (fun e => by have := (h.lr.own k e.symm).1; omega)
  have d5 : DX w5 r (.slice (some ⟨g, 0, none⟩) n cc) (upto L c j) := h.dx.keep (old r h.rl) fun k hk => by cases hk; exact old g h.gl
  obtain ⟨a1, a2, a3, a4, a5, a6, a7, a8⟩ := d5.cs hx1
  have P := d5.put hx1 (y := off x) rfl ⟨ho.id, ho.b0, ho.b1, ho.s0, ho.s1, ho.d0, ho.d1⟩ 4 (by decide) (.bool false) rfl
  have e1 : (upto L c j).set j (off x) = upto L c (j + 1) := by rw [upto_succ hx, hd]; rfl
  have e2 : dueL (L.take j) c ++ [x.id] = dueL (L.take (j + 1)) c := by rw [dueL_succ hx, hd]; rfl
  rw [e1] at P
  rw [e2] at hlr
  refine ⟨o', w5, hrun, a1, a7, a2 _, P.1, hlr.keep fun k hk => P.2.block k (hlr.own k hk).2 fun e => ?_, ⟨P.2.os.trans (hg.os.trans h.tr.os), P.2.tape.trans (hg.tape.trans h.tr.tape), P.2.output.trans (hg.output.trans h.tr.output), by have := P.2.size; omega, fun k hk hs => (P.2.block k (by omega) hs).trans ((old k hk).trans (h.tr.block k hk hs))⟩, h.rl, h.gl⟩
  have := (hlr.own k hk).1
  rcases e with e | e
  · have := h.rl; omega
  · have e2 : g = k := by cases e; rfl
    have := h.gl
    omega
end

theorem below_drewN {B : Nat} {W w : World} (h : Below B W w) : ∀ n, Below B W (w.drewN n) := fun n => ⟨h.os, h.tape, h.output, h.size, h.block⟩
theorem inf63 : (Try.prog.info? 63).map (·.size) = some 6 := by kernel_rfl
section
variable {w : World} {r : Nat} {v : Value} {L : List Tm} {c : Int}
theorem rdue_none (h : DX w r v L) (h0 : L.length = 0) : Calls Try.prog 24 #[.pointer (some ⟨r, 0, none⟩), .int .u64 c] w fun e w' => (∃ o, e = .returned o ∧ Li w.heap.size w' o (dueL L c)) ∧ DX w' r v (aft L c) ∧ Trn (Sr r v) w w' := by
  obtain rfl := List.eq_nil_of_length_eq_zero h0
  obtain ⟨a, cc, hv⟩ := h.its.form
  subst hv
  have H0 : Hid (DX w r (.slice a 0 cc) []) := h
  have c0 := h.c0
  have hl := h.lt
  simp only [List.length_nil] at c0
  clear h
  go_enter Try.func24, Try.ntmps24
  go_wp2_with fail
  go_loopw [5, 6] (fun q5 q6 wr => q5 = .slice none 0 0 ∧ q6 = .int .i64 0 ∧ wr = w) (fun _ _ _ => 0)
  case atStart => exact ⟨rfl, rfl, rfl⟩
  case round =>
    obtain ⟨rfl, rfl, rfl⟩ := hrel
    go_wp2_with fail
    go_ret
    exact ⟨⟨_, rfl, none, 0, rfl, fun i hi => by simp [dueL] at hi⟩, H0.out, Trn.refl _ _⟩
set_option maxHeartbeats 3200000 in
theorem rdue_some (h : DX w r v L) (hc : 0 ≤ c) (h0 : 0 < L.length) : Calls Try.prog 24 #[.pointer (some ⟨r, 0, none⟩), .int .u64 c] w fun e w' => (∃ o, e = .returned o ∧ Li w.heap.size w' o (dueL L c)) ∧ DX w' r v (aft L c) ∧ Trn (Sr r v) w w' := by
  have hn64 := h.ok.len
  obtain ⟨g, cc, hv, hrow⟩ := h.its.row h0
  subst hv
  obtain ⟨n, hn⟩ : ∃ n, n = L.length := ⟨_, rfl⟩
  have HN : Hid (n = L.length) := hn
  rw [← hn] at h hn64
  have H0 : Hid (ER w w r g n cc L c 0 (.slice none 0 0)) := ⟨h, ⟨rfl, .inl ⟨rfl, rfl⟩⟩, Trn.refl _ _, h.lt, hrow.lt⟩
  have HL : Hid (LOk L) := h.ok
  have c0 := h.c0
  have hl := h.lt
  have hnn : ¬ n = 0 := by omega
  clear h hn hrow
  rw [show L.length = n from HN.out.symm]
  clear h0
  go_enter Try.func24, Try.ntmps24
  go_wp2_with fail
  go_loopw [5, 6] (fun q5 q6 wr => ∃ (j : Nat) (o : Value), j ≤ n ∧ o = q5 ∧ q6 = .int .i64 j ∧ Hid (ER w wr r g n cc L c j o)) (fun _ q6 _ => n - (intOf q6).toNat)
  case atStart => exact ⟨0, _, by omega, rfl, rfl, H0⟩
  case round =>
    obtain ⟨j, o, hj, rfl, rfl, HJ⟩ := hrel
    clear c0 hl H0
    by_cases hjn : j < n
    · have hjn' : (j : Int) < (n : Int) := by omega
      obtain ⟨x, hx⟩ : ∃ x, L[j]? = some x := ⟨_, List.getElem?_eq_getElem (by have := HN.out; omega)⟩
      have hox := HL.out.ok x (List.mem_of_getElem? hx)
      have hx1 : (upto L c j)[j]? = some x := by rw [upto_at (List.getElem?_eq_some_iff.1 hx).1]; exact hx
      obtain ⟨⟨c0, rl, gl⟩, hfz, d0, d1, d2, d3, d4, d5⟩ := HJ.out.dx.cs hx1
      clear hfz
      by_cases he : x.set = true ∧ x.halted = false
      · have K := fun w' => of_any x hox c hc w'
        unfold tv at K
        rw [he.1] at d4 K
        rw [he.2] at d2 K
        have hde : isd c x = decide (x.due ≤ tm x c) := by unfold isd; rw [he.1, he.2]; rfl
        have hd0 := hox.d0
        have hd1 := hox.d1
        have HX : Hid (L[j]? = some x ∧ x.Ok) := ⟨hx, hox⟩
        obtain ⟨q, hq⟩ : ∃ q, tm x c = q := ⟨_, rfl⟩
        rw [hq] at K hde
        have hne := above_here wr
        have HRR : Hid (∀ (s : Above wr), s.wld.rangeAt g (j * 6) [.int .i64 x.id, .int .u64 x.base, .bool false, .int .u64 x.still, .bool true, .int .u64 x.due]) := fun s i u hu => by
          have e0 : ∀ o, s.wld.cell? ⟨g, o, none⟩ = wr.cell? ⟨g, o, none⟩ := fun o => s.bel.cell (p := ⟨g, o, none⟩) gl
          rw [e0]
          match i, hu with
          | 0, hu => simp at hu; subst hu; exact d0
          | 1, hu => simp at hu; subst hu; exact d1
          | 2, hu => simp at hu; subst hu; exact d2
          | 3, hu => simp at hu; subst hu; exact d3
          | 4, hu => simp at hu; subst hu; exact d4
          | 5, hu => simp at hu; subst hu; exact d5
          | i + 6, hu => simp at hu
        have hab : ∀ (s : Above wr) b o, b < wr.heap.size → s.wld.cell? ⟨b, o, none⟩ = wr.cell? ⟨b, o, none⟩ := fun s b o h => s.bel.cell (p := ⟨b, o, none⟩) h
        clear hx hx1 hox he hq
        have i63 := inf63
        go_wp2_with fail
        refine wp_region_above (by kernel_rfl) (by kernel_rfl) ?_
        repeat (first
          | go_big_quiet_skip
          | (go_big_quiet_want; refine quiet_load 63 _ rfl g (j * 6) rfl [.int .i64 x.id, .int .u64 x.base, .bool false, .int .u64 x.still, .bool true, .int .u64 x.due] _ (fun w' ⟨s, hs⟩ => by rw [hs]; exact HRR.out s) Try.underlying63 rfl i63 ?_; simp only [Act.put, List.setIfInBounds_toArray, List.set_cons_zero, List.set_cons_succ]; go_big_quiet_on)
          | (go_big_quiet_want; go_big_quiet_op; go_big_quiet_on)
          | (go_big_quiet_want; go_big_quiet_op; apply Exists.intro; refine ⟨fun s => ?_, ?_⟩; (first | exact above_call s (K _)); go_big_quiet_on))
        refine wpQuiet_nil ?_
        rintro _ ⟨s, rfl⟩
        have HE : Hid (ER w s.wld r g n cc L c j o) := HJ.out.below s.bel
        clear HRR hab hne K HJ c0 rl gl d0 d1 d2 d3 d4 d5
        generalize s.wld = d at *
        by_cases hlt : x.due ≤ q
        · have hd : isd c x = true := by rw [hde, decide_eq_true hlt]
          obtain ⟨o', w5, hrun, ⟨e0, el, eg⟩, e1, e2, HT⟩ := HE.out.take HX.out.1 hd HX.out.2
          have HF : Hid (ER w (w5.setCell ⟨g, j * 6 + 4, none⟩ (.bool false)) r g n cc L c (j + 1) o') := HT
          have H0 := HE.out.dx.c0
          have hr0 := HE.out.dx.lt
          obtain ⟨g', c', e, hrow⟩ := HE.out.dx.its.row (by rw [upto_len, ← HN.out]; omega)
          cases e
          obtain ⟨z0, z1, z2, z3, z4, z5⟩ := hrow.all (i := j) (x := x) (by rw [upto_at (by rw [← HN.out]; exact hjn)]; exact HX.out.1)
          have hgl := hrow.lt
          clear hd hde HT HE hrow
          go_wp2_with (refine step_append_run rfl _ _ 46 rfl _ _ o' w5 rfl rfl hrun ?_)
          go_roundw
          case rel => exact ⟨j + 1, _, by omega, rfl, by go_num, HF⟩
          case measure => simp [intOf]; omega
        · have hd : isd c x = false := by rw [hde, decide_eq_false hlt]
          have HF : Hid (ER w d r g n cc L c (j + 1) o) := HE.out.pass HX.out.1 hd
          clear hd hde HE
          go_wp2_with fail
          go_roundw
          case rel => exact ⟨j + 1, _, by omega, rfl, by go_num, HF⟩
          case measure => simp [intOf]; omega
      · cases hs : x.set with
        | false =>
          have hd : isd c x = false := by unfold isd; rw [hs]; rfl
          have H1 : Hid (ER w wr r g n cc L c (j + 1) o) := HJ.out.pass hx hd
          rw [hs] at d4
          clear HJ hx hx1 hox hd he
          go_wp2_with fail
          go_quiet (fail)
          go_wp2_with fail
          go_roundw
          case rel => exact ⟨j + 1, _, by omega, rfl, by go_num, H1.out.below (below_drewN (Below.refl _ _) _)⟩
          case measure => simp [intOf]; omega
        | true =>
          have hh : x.halted = true := by cases hh : x.halted with
            | true => rfl
            | false => exact absurd ⟨hs, hh⟩ he
          have hd : isd c x = false := by unfold isd; rw [hh]; simp
          have H1 : Hid (ER w wr r g n cc L c (j + 1) o) := HJ.out.pass hx hd
          rw [hs] at d4
          rw [hh] at d2
          clear HJ hx hx1 hox hd he
          go_wp2_with fail
          go_quiet (fail)
          go_wp2_with fail
          go_roundw
          case rel => exact ⟨j + 1, _, by omega, rfl, by go_num, H1.out.below (below_drewN (Below.refl _ _) _)⟩
          case measure => simp [intOf]; omega
    · obtain rfl : j = n := by omega
      obtain ⟨c0, rl⟩ : wr.cell? ⟨r, 0, none⟩ = some (.slice (some ⟨g, 0, none⟩) j cc) ∧ r < wr.heap.size := ⟨HJ.out.dx.c0, HJ.out.dx.lt⟩
      have HF : Hid (Li w.heap.size wr o (dueL L c) ∧ DX wr r (.slice (some ⟨g, 0, none⟩) j cc) (aft L c) ∧ Trn (Sr r (.slice (some ⟨g, 0, none⟩) j cc)) w wr) := by
        have h1 := HJ.out.lr.li
        have h2 := HJ.out.dx
        rw [HN.out, List.take_length] at h1
        rw [HN.out, upto_all, ← HN.out] at h2
        exact ⟨h1, h2, HJ.out.tr⟩
      clear HJ
      go_wp2_with fail
      go_ret
      exact ⟨⟨_, rfl, HF.out.1⟩, HF.out.2⟩
end
end Go.Proofs.Ytgiafngiledmbaa
