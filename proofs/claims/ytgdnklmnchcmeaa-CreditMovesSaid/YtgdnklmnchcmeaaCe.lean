/-
  The program's Refill.
-/
import Derived.Test.YtgdnklmnchcmeaaRf
namespace Go.Proofs.Ytgdnklmnchcmeaa
open Go.RowKit Go.Maps
set_option linter.unusedVariables false
set_option maxRecDepth 100000
section
variable {w w' : World} {c m p n : Nat} {per : Int} {F : Nat → Pv} {S : St}
theorem RX.c0 {W : World} {r cnt : Nat} {left : Int → Bool} {M : Int → Option Value} {Qf : Nat → List Int} (h : RX W w c m p n per F Qf r M left cnt) : w.cell? ⟨c, 0, none⟩ = some (.map (some m)) := h.vs.c0
set_option maxHeartbeats 3200000 in
theorem refill_vx (h : VX w c m p n per F S) : Calls Try.prog 25 #[.pointer (some ⟨c, 0, none⟩)] w fun e w' => e = .returned (.int .i64 0) ∧ Tu w w' c m p n per F (refS per S) := by
  have c0 := h.vr.c0
  have cl := h.vr.lt
  have hn := map_nil41 m
  obtain ⟨w0, hrr, H0⟩ := RX.start h.vr
  have HO : Hid (VX w c m p n per F S) := h
  have HR : Hid (RX w w0 c m p n per F S.Q w.heap.size (SM S.L) (fun k => (SM S.L k).isSome) S.L.length) := H0
  have hst : Hid (sumL S.L (fun k => (SM S.L k).isSome) = 0) := sumL_none fun x hx => by
    show (SM S.L x.id).isSome = true
    unfold SM
    rw [fnd_of h.ok.nd hx]; rfl
  have hww : Hid (∀ x ∈ S.L, 1 ≤ x.w ∧ x.w ≤ 256) := fun x hx => ⟨(h.ok.ok x hx).w0, (h.ok.ok x hx).w1⟩
  have h64 := h.ok.len
  have hp := h.ok.hp
  clear h H0
  go_enter Try.func25, Try.ntmps25
  go_wp2_with fail
  go_loopw [3] (fun q3 wr => ∃ left cnt t, q3 = .int .i64 t ∧ Hid (RX w wr c m p n per F S.Q w.heap.size (SM S.L) left cnt ∧ t = sumL S.L left)) (fun _ wr => wr.rangeLeft m w.heap.size)
  case atStart => exact ⟨_, _, _, rfl, HR.out, hst.out.symm⟩
  case round =>
    obtain ⟨left, cnt, t, rfl, HJ⟩ := hrel
    clear HR hrr hst c0
    rcases next_run HJ.out.1.rg 0 with ⟨hc0, hl0, hnr⟩ | ⟨k, v, w1, cnt1, hk, hlk, hM, hnr, hrg1, hlt1, hg1, hs1, hen⟩
    · have ht : t = sumW S.L := by rw [HJ.out.2]; exact sumL_all fun x hx => hl0 _ (HO.out.ok.ok x hx).id
      obtain ⟨w2, cnt2, hrr2, H2⟩ := HJ.out.1.again
      have hrl := HJ.out.1.tr.size
      have d0 := HJ.out.1.c0
      have dl := HJ.out.1.vs.lt
      have HT : Hid (t = sumW S.L) := ht
      clear HJ hl0 ht hc0
      obtain ⟨r2, hr2⟩ : ∃ r2, wr.heap.size = r2 := ⟨_, rfl⟩
      rw [hr2] at hrr2 H2
      clear hr2
      have HK : Hid (RX w w2 c m p n per F S.Q r2 (RM S.L (rfF per (sumW S.L)) (fun k => (SM S.L k).isSome)) (fun k => (SM S.L k).isSome) cnt2) := ⟨H2.vs, H2.rg.congr (fun k _ => (RM_start k).symm) (fun _ _ => rfl), H2.tr, H2.lo, H2.nm, H2.mr, H2.wr⟩
      clear H2
      go_wp2_with fail
      go_loopw [6] (fun q6 wr2 => ∃ left cnt, Hid (RX w wr2 c m p n per F S.Q r2 (RM S.L (rfF per (sumW S.L)) left) left cnt)) (fun _ wr2 => wr2.rangeLeft m r2)
      case atStart => exact ⟨_, _, HK⟩
      case round =>
        obtain ⟨left, cnt, HJ⟩ := hrel
        clear HK hrr2 d0 dl hnr
        rcases next_run HJ.out.rg 0 with ⟨hc0, hl0, hnr⟩ | ⟨k, v, w1, cnt1, hk, hlk, hM, hnr, hrg1, hlt1, hg1, hs1, hen⟩
        · have HF : Hid (Tu w wr c m p n per F (refS per S)) := by
            obtain ⟨N, hN⟩ := HJ.out.rg.map
            have hN2 : MapIs wr m N (SM (S.L.map (rfF per (sumW S.L)))) := hN.congr rfl fun k => RM_done (g := rfF per (sumW S.L)) (fun _ => rfl) k fun x hx => by
              rw [← (fnd_mem hx).2]
              exact hl0 _ (HO.out.ok.ok x (fnd_mem hx).1).id
            have hok := HO.out.ok.ref
            have e1 : N ≤ S.L.length := by
              have := hN2.le ((S.L.map (rfF per (sumW S.L))).map (·.id)) fun k _ hs => by
                unfold SM at hs
                cases hf : fnd (S.L.map (rfF per (sumW S.L))) k with
                | none => rw [hf] at hs; cases hs
                | some y => exact List.mem_map.2 ⟨y, (fnd_mem hf).1, (fnd_mem hf).2⟩
              simpa using this
            have e2 : S.L.length ≤ N := by
              have := hN2.ge ((S.L.map (rfF per (sumW S.L))).map (·.id)) hok.nd fun k hk => by
                obtain ⟨y, hy, rfl⟩ := List.mem_map.1 hk
                refine ⟨(hok.ok y hy).id, ?_⟩
                unfold SM
                have hf := fnd_of hok.nd hy
                have hf2 : fnd (S.L.map (rfF per (sumW S.L))) y.id = some y := hf
                rw [hf2]; rfl
              simpa using this
            exact ⟨F, ⟨(HJ.out.vs.vr hN2).congr (by show N = (S.L.map _).length; rw [List.length_map]; omega) (fun _ => rfl) (fun _ _ => rfl), PvOk.ref HO.out.pv, hok⟩, HJ.out.tr.mono fun k _ e => .inl e, Nw.refl _ _ _⟩
          clear HJ hl0
          go_wp2_with fail
          go_ret
          exact ⟨rfl, HF.out⟩
        · obtain ⟨x, hx, rfl⟩ : ∃ x, fnd S.L k = some x ∧ v = lv x := by
            unfold RM at hM
            cases hx : fnd S.L k with
            | none => rw [hx] at hM; cases hM
            | some x => rw [hx] at hM; simp [hlk] at hM; exact ⟨x, rfl, hM.symm⟩
          obtain ⟨hxm, rfl⟩ := fnd_mem hx
          have hm0 : wr.rangeLeft m r2 = cnt := HJ.out.rg.left_eq
          have H1 := HJ.out.step hg1 hrg1
          have hwx := hww.out x hxm
          have ho := HO.out.ok.ok x hxm
          have hco0 := ho.c0
          have hco1 := ho.c1
          have hsm := sumW_pos hww.out hxm
          rw [← HT.out] at hsm
          have hgn := gain_le hp.1 hwx hsm.1
          have hmul : per * x.w ≤ 1048576 * 256 ∧ 0 ≤ per * x.w := ⟨Int.le_trans (Int.mul_le_mul_of_nonneg_left hwx.2 (by omega)) (by omega), Int.mul_nonneg (by omega) (by omega)⟩
          have hwm : IntKind.i64.wrap (per * x.w) = per * x.w := by rw [IntKind.wrap_i64]; omega
          have hwq : IntKind.i64.wrap (Int.tdiv (per * x.w) t) = Int.tdiv (per * x.w) t := by rw [IntKind.wrap_i64]; omega
          have hwa : IntKind.i64.wrap (x.cr + max (Int.tdiv (per * x.w) t) 1) = x.cr + max (Int.tdiv (per * x.w) t) 1 := by unfold gain at hgn; rw [IntKind.wrap_i64]; omega
          have htn : ¬ t = 0 := by omega
          have htn2 : (t == 0) = false := by simpa using htn
          have hr1 := H1.rg.lt.1
          rw [hs1] at hr1
          have HB : Hid (∃ y, w1.alloc (.cells #[.int .i64 x.st, .int .i64 x.co, .int .i64 x.w, .int .i64 x.cr] 36) = y ∧ RX w y c m p n per F S.Q r2 (RM S.L (rfF per (sumW S.L)) left) (fun z => left z && !(z == x.id)) cnt1 ∧ y.heap[wr.heap.size]? = some (.cells #[.int .i64 x.st, .int .i64 x.co, .int .i64 x.w, .int .i64 x.cr] 36)) := ⟨_, rfl, H1.below (below_box _ _), by rw [← hs1]; exact heap_alloc_at _ _⟩
          unfold lv at hen hnr
          clear hg1 hrg1 hM HJ H1
          go_wp2_with fail
          obtain ⟨y, hy, HY, g0⟩ := HB.out
          rw [hy]
          have b0 := cell_at g0 0
          have b1 := cell_at g0 1
          have b2 := cell_at g0 2
          have b3 := cell_at g0 3
          have bf := fz_at g0 3
          have bl := lt_of_heap g0
          have c2 := HY.vs.c2
          have cl := HY.vs.lt
          simp at b0 b1 b2 b3
          have HY1 : Hid (RX w y c m p n per F S.Q r2 (RM S.L (rfF per (sumW S.L)) left) (fun z => left z && !(z == x.id)) cnt1 ∧ y.heap[wr.heap.size]? = some (.cells #[.int .i64 x.st, .int .i64 x.co, .int .i64 x.w, .int .i64 x.cr] 36)) := ⟨HY, g0⟩
          clear HB hy HY g0 hnr hen
          go_wp2_with fail
          go_region
          have HZ : Hid (∃ z, (y.setCell ⟨wr.heap.size, 3, none⟩ (.int .i64 (min (x.cr + max (Int.tdiv (per * x.w) t) 1) per))).drew = z ∧ RX w z c m p n per F S.Q r2 (RM S.L (rfF per (sumW S.L)) left) (fun z => left z && !(z == x.id)) cnt1 ∧
              z.heap[wr.heap.size]? = some (.cells #[.int .i64 x.st, .int .i64 x.co, .int .i64 x.w, .int .i64 (min (x.cr + max (Int.tdiv (per * x.w) t) 1) per)] 36)) := ⟨_, rfl, (HY1.out.1.box HY1.out.2 hr1 3 _).drew, heap_setCell HY1.out.2 3 _⟩
          obtain ⟨z, hz, HZ1, gz⟩ := HZ.out
          rw [hz]
          obtain ⟨v0, v1, v2, v3⟩ : z.cell? ⟨wr.heap.size, 0, none⟩ = some (.int .i64 x.st) ∧ z.cell? ⟨wr.heap.size, 1, none⟩ = some (.int .i64 x.co) ∧ z.cell? ⟨wr.heap.size, 2, none⟩ = some (.int .i64 x.w) ∧ z.cell? ⟨wr.heap.size, 3, none⟩ = some (.int .i64 (min (x.cr + max (Int.tdiv (per * x.w) t) 1) per)) := ⟨cell_at gz 0, cell_at gz 1, cell_at gz 2, cell_at gz 3⟩
          have vl := lt_of_heap gz
          have e0 := HZ1.vs.c0
          have el := HZ1.vs.lt
          obtain ⟨w5, hrun5, H5, hs5⟩ := HZ1.drew.put x.id hk (.agg #[.int .i64 x.st, .int .i64 x.co, .int .i64 x.w, .int .i64 (min (x.cr + max (Int.tdiv (per * x.w) t) 1) per)]) (by unfold RM; rw [hx]; rfl) (S.L.map (·.id)) (fun k _ hs => by
            unfold RM at hs
            cases hf : fnd S.L k with
            | none => rw [hf] at hs; cases hs
            | some y => exact List.mem_map.2 ⟨y, (fnd_mem hf).1, (fnd_mem hf).2⟩) (by rw [List.length_map]; have := maxLen_big; omega)
          have hsame : (.agg #[.int .i64 x.st, .int .i64 x.co, .int .i64 x.w, .int .i64 (min (x.cr + max (Int.tdiv (per * x.w) t) 1) per)] : Value) = lv (rfF per (sumW S.L) x) := by rw [← HT.out]; rfl
          have H6 : Hid (RX w w5 c m p n per F S.Q r2 (RM S.L (rfF per (sumW S.L)) (fun z => left z && !(z == x.id))) (fun z => left z && !(z == x.id)) cnt1) :=
            ⟨H5.vs, H5.rg.congr (fun q _ => by rw [hsame]; exact RM_step (x := x) hx q) (fun _ _ => rfl), H5.tr, H5.lo, H5.nm, H5.mr, H5.wr⟩
          clear HZ hz HZ1 gz H5 hsame b0 b1 b2 b3 bf bl c2 cl HY1
          go_wp2_with fail
          go_region
          go_wp2_with fail
          go_roundw
          case rel => exact ⟨_, _, H6.out⟩
          case measure => rw [H6.out.rg.left_eq, hm0]; exact hlt1
    · obtain ⟨x, hx, rfl⟩ : ∃ x, fnd S.L k = some x ∧ v = lv x := by
        unfold SM at hM
        cases hx : fnd S.L k with
        | none => rw [hx] at hM; cases hM
        | some x => rw [hx] at hM; exact ⟨x, rfl, (Option.some.inj hM).symm⟩
      obtain ⟨hxm, rfl⟩ := fnd_mem hx
      have hm0 : wr.rangeLeft m w.heap.size = cnt := HJ.out.1.rg.left_eq
      have H1 := HJ.out.1.step hg1 hrg1
      have hwx := hww.out x hxm
      have hsl := sumL_le (l := left) hww.out
      rw [← HJ.out.2] at hsl
      have hwr : IntKind.i64.wrap (t + x.w) = t + x.w := by rw [IntKind.wrap_i64]; omega
      have HB : Hid (RX w (w1.alloc (.cells #[.int .i64 x.st, .int .i64 x.co, .int .i64 x.w, .int .i64 x.cr] 36)) c m p n per F S.Q w.heap.size (SM S.L) (fun z => left z && !(z == x.id)) cnt1 ∧ t + x.w = sumL S.L (fun z => left z && !(z == x.id))) :=
        ⟨H1.below (below_box _ _), by rw [sumL_step HO.out.ok.nd hxm hlk, HJ.out.2]⟩
      unfold lv at hen hnr
      clear hg1 hrg1 hM HJ H1
      generalize x.st = sa at *
      generalize (x.co : Int) = sb at *
      generalize x.cr = sf at *
      go_wp2_with fail
      go_roundw
      case rel => exact ⟨_, _, _, rfl, HB.out.1, HB.out.2⟩
      case measure => rw [HB.out.1.rg.left_eq, hm0]; exact hlt1
end
end Go.Proofs.Ytgdnklmnchcmeaa
