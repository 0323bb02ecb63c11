/-
  leave, of one that is there; the program's Remove and Block.
-/
import Derived.Test.YtgdnklmnchcmeaaCa
namespace Go.Proofs.Ytgdnklmnchcmeaa
open Go.RowKit Go.Maps
set_option linter.unusedVariables false
set_option maxRecDepth 100000
section
variable {w w' : World} {c m p n N : Nat} {per : Int} {M : Int → Option Value} {F : Nat → Pv} {S : St} {k : Int} {x : On}
/-- what leave leaves -/
def Lf (w w' : World) (c m p n : Nat) (per : Int) (N : Nat) (M : Int → Option Value) (F : Nat → Pv) (S : St) (k : Int) (x : On) : Prop :=
  ∃ G, VR w' c m p n per N M G (outQ S.Q k) ∧ Trn (Sp m p n F) w w' ∧ Nw w n F G ∧ ∀ S' : St, (∀ i, i < n → rn S'.L i = if x.st = 2 ∧ x.co = i then none else rn S.L i) → (∀ i, S'.R i = S.R i) → PvOk G n per S'
theorem leave_vx (h : VR w c m p n per N M F S.Q) (ok : SOk n per S) (pv : PvOk F n per S) (hx : fnd S.L k = some x) :
    Calls Try.prog 41 #[.pointer (some ⟨c, 0, none⟩), .int .i64 k, lv x] w fun e w' => e = .returned (.tuple #[]) ∧ Lf w w' c m p n per N M F S k x := by
  have ho := ok.ok x (fnd_mem hx).1
  have same : x.st ≠ 2 → ∀ {G : Nat → Pv}, PvOk G n per S → ∀ S' : St, (∀ i, i < n → rn S'.L i = if x.st = 2 ∧ x.co = i then none else rn S.L i) → (∀ i, S'.R i = S.R i) → PvOk G n per S' := fun hs G hG S' h1 h2 i hi => by
    have e := h1 i hi
    rw [if_neg (fun e => hs e.1)] at e
    have := hG i hi
    unfold tkB riI chI tkB at *
    rw [e, h2 i]
    exact this
  unfold lv
  rcases ho.st with hs | hs | hs
  · rw [hs]
    have hk : k ∈ S.Q x.co := (ok.q1 x.co ho.co k).2 ⟨x, (fnd_mem hx).1, (fnd_mem hx).2, hs, rfl⟩
    refine (leave_ready h k x.co ho.co hk (ok.qn x.co ho.co) x.w x.cr).mono ?_
    rintro e w' ⟨rfl, v, h1, h2, h3⟩
    exact ⟨rfl, _, h1.congr rfl (fun _ => rfl) (fun j hj => out_qput ok hx hj), h2, h3, same (by rw [hs]; decide) (pv.q _ _)⟩
  · rw [hs]
    refine (leave_running h k x.co ho.co x.w x.cr).mono ?_
    rintro e w' ⟨rfl, h1, h2, h3⟩
    refine ⟨rfl, _, h1.congr rfl (fun _ => rfl) (fun j hj => (out_same ok hx (by rw [hs]; decide) hj).symm), h2, h3, fun S' e1 e2 i hi => ?_⟩
    have a := e1 i hi
    have b := pv i hi
    unfold fset
    by_cases e : i = x.co
    · rw [if_pos ⟨hs, e.symm⟩] at a
      rw [if_pos e]
      unfold tkB riI chI tkB
      rw [a]
      exact ⟨rfl, rfl, rfl⟩
    · rw [if_neg (fun e3 => e e3.2.symm)] at a
      rw [if_neg e]
      unfold tkB riI chI tkB at *
      rw [a, e2 i]
      exact b
  · rw [hs]
    refine (leave_blocked h k x.co ho.co x.w x.cr).mono ?_
    rintro e w' ⟨rfl, hb⟩
    exact ⟨rfl, F, (h.below hb).congr rfl (fun _ => rfl) (fun j hj => (out_same ok hx (by rw [hs]; decide) hj).symm), Trn.of_below hb, Nw.refl _ _ _, same (by rw [hs]; decide) pv⟩
/-- one taken out of the map -/
theorem VR.drop {Qf : Nat → List Int} (h : VR w c m p n per N M F Qf) (k : Int) (hk : KW k) (ty : TypeId) :
    ∃ w1, (Builtin.delete_ #[41, 3] ty #[.map (some m), .int .i64 k]).run Try.prog w = .ok (.tuple #[]) w1 ∧ VR w1 c m p n per (if (M k).isSome then N - 1 else N) (upd M k none) F Qf ∧ Trn (Sp m p n F) w w1 := by
  obtain ⟨w1, h1, h2, h3⟩ := drop_run Try.underlying41 h.mp k hk ty
  obtain ⟨h4, h5⟩ := h.mapped h2 h3
  exact ⟨w1, h1, h4, h5⟩
/-- Remove -/
theorem remove_vx (h : VX w c m p n per F S) (hk : KW k) : Calls Try.prog 20 #[.pointer (some ⟨c, 0, none⟩), .int .i64 k] w fun e w' => e = .returned (.int .i64 (remE S k)) ∧ Tu w w' c m p n per F (remT S k) := by
  have HV : Hid (VX w c m p n per F S) := h
  cases hx : fnd S.L k with
  | none =>
    have e1 : remE S k = 14 := by unfold remE; rw [hx]
    have e2 : remT S k = S := by unfold remT; rw [e1, if_neg (by decide)]
    rw [e1, e2]
    have C := of_none h k hk hx
    unfold z4 at C
    clear h hx e1 e2
    go_enter Try.func20, Try.ntmps20
    go_wp2_with fail
    refine C.mono ?_
    rintro e w1 ⟨rfl, hb⟩
    have HB : Hid (Below w.heap.size w (w1.alloc (.cells #[.int .i64 0, .int .i64 0, .int .i64 0, .int .i64 0] 36))) := hb.alloc hb.size _
    clear C hb
    go_wp2_with fail
    go_ret
    exact ⟨rfl, HV.out.tu HB.out⟩
  | some x =>
    have C := of_some h k hk hx
    by_cases hs : x.st = 2
    · have e1 : remE S k = 21 := by unfold remE; rw [hx]; exact if_pos hs
      have e2 : remT S k = S := by unfold remT; rw [e1, if_neg (by decide)]
      rw [e1, e2]
      unfold lv at C
      rw [hs] at C
      clear h e1 e2 hx hs
      generalize (x.co : Int) = sb at *
      generalize x.w = sd at *
      generalize x.cr = sf at *
      go_enter Try.func20, Try.ntmps20
      go_wp2_with fail
      refine C.mono ?_
      rintro e w1 ⟨rfl, hb⟩
      have HB : Hid (Below w.heap.size w (w1.alloc (.cells #[.int .i64 2, .int .i64 sb, .int .i64 sd, .int .i64 sf] 36))) := hb.alloc hb.size _
      clear C hb
      go_wp2_with fail
      go_ret
      exact ⟨rfl, HV.out.tu HB.out⟩
    · have e1 : remE S k = 0 := by unfold remE; rw [hx]; exact if_neg hs
      have e2 : remT S k = remS S k := by unfold remT; rw [e1, if_pos rfl]
      rw [e1, e2]
      have hok := h.ok.remS hx
      have HK : Hid (∀ w1, Below w.heap.size w w1 → Calls Try.prog 41 #[.pointer (some ⟨c, 0, none⟩), .int .i64 k, lv x] w1 fun e w' => e = .returned (.tuple #[]) ∧ Lf w1 w' c m p n per S.L.length (SM S.L) F S k x) := fun w1 hb => leave_vx (h.vr.below hb) h.ok h.pv hx
      have HG : Hid (∀ w1 w2, Below w.heap.size w w1 → Lf w1 w2 c m p n per S.L.length (SM S.L) F S k x → w2.cell? ⟨c, 0, none⟩ = some (.map (some m)) ∧ c < w2.heap.size ∧ ∃ w3, (∀ ty, (Builtin.delete_ #[41, 3] ty #[.map (some m), .int .i64 k]).run Try.prog w2 = .ok (.tuple #[]) w3) ∧ Tu w w3 c m p n per F (remS S k)) := fun w1 w2 hb ⟨G, h1, h2, h3, h4⟩ => by
        obtain ⟨w3, q1, q2, q3⟩ := h1.drop k hk 0
        refine ⟨h1.c0, h1.lt, w3, fun ty => q1, Tu.from_below hb ⟨G, ⟨q2.congr ?_ (fun q => (SM_del q).symm) (fun _ _ => rfl), h4 (remS S k) (fun i _ => ?_) (fun _ => rfl), hok⟩, Sp.trans h2 q3 h3, h3⟩⟩
        · have : (SM S.L k).isSome = true := by unfold SM; rw [hx]; rfl
          rw [if_pos this]
          have := len_del hx h.ok.nd
          show _ = (del S.L k).length
          omega
        · rw [if_neg (fun e => hs e.1)]
          exact rn_del h.ok hx hs i
      have hs2 : (x.st == 2) = false := by simpa using hs
      unfold lv at C HK
      clear h e1 e2 hx hok
      generalize x.st = sa at *
      generalize (x.co : Int) = sb at *
      generalize x.w = sd at *
      generalize x.cr = sf at *
      go_enter Try.func20, Try.ntmps20
      go_wp2_with fail
      refine C.mono ?_
      rintro e w1 ⟨rfl, hb⟩
      have HB : Hid (Below w.heap.size w (w1.alloc (.cells #[.int .i64 sa, .int .i64 sb, .int .i64 sd, .int .i64 sf] 36))) := hb.alloc hb.size _
      have K := HK.out _ HB.out
      clear C hb
      go_wp2_with fail
      refine K.mono ?_
      rintro e w2 ⟨rfl, q⟩
      obtain ⟨d0, d1, w3, hrun, ht⟩ := HG.out _ _ HB.out q
      have HT : Hid (Tu w w3 c m p n per F (remS S k)) := ht
      clear ht q K HG HK
      go_wp2_with fail
      go_ret
      exact ⟨rfl, HT.out⟩
/-- Block -/
theorem block_vx (h : VX w c m p n per F S) (hk : KW k) : Calls Try.prog 22 #[.pointer (some ⟨c, 0, none⟩), .int .i64 k] w fun e w' => e = .returned (.int .i64 (blkE S k)) ∧ Tu w w' c m p n per F (blkT S k) := by
  have HV : Hid (VX w c m p n per F S) := h
  cases hx : fnd S.L k with
  | none =>
    have e1 : blkE S k = 14 := by unfold blkE; rw [hx]
    have e2 : blkT S k = S := by unfold blkT; rw [e1, if_neg (by decide)]
    rw [e1, e2]
    have C := of_none h k hk hx
    unfold z4 at C
    clear h hx e1 e2
    go_enter Try.func22, Try.ntmps22
    go_wp2_with fail
    refine C.mono ?_
    rintro e w1 ⟨rfl, hb⟩
    have HB : Hid (Below w.heap.size w (w1.alloc (.cells #[.int .i64 0, .int .i64 0, .int .i64 0, .int .i64 0] 36))) := hb.alloc hb.size _
    clear C hb
    go_wp2_with fail
    go_ret
    exact ⟨rfl, HV.out.tu HB.out⟩
  | some x =>
    have C := of_some h k hk hx
    by_cases hs : x.st = 3
    · have e1 : blkE S k = 21 := by unfold blkE; rw [hx]; exact if_pos hs
      have e2 : blkT S k = S := by unfold blkT; rw [e1, if_neg (by decide)]
      rw [e1, e2]
      unfold lv at C
      rw [hs] at C
      clear h e1 e2 hx hs
      generalize (x.co : Int) = sb at *
      generalize x.w = sd at *
      generalize x.cr = sf at *
      go_enter Try.func22, Try.ntmps22
      go_wp2_with fail
      refine C.mono ?_
      rintro e w1 ⟨rfl, hb⟩
      have HB : Hid (Below w.heap.size w (w1.alloc (.cells #[.int .i64 3, .int .i64 sb, .int .i64 sd, .int .i64 sf] 36))) := hb.alloc hb.size _
      clear C hb
      go_wp2_with fail
      go_ret
      exact ⟨rfl, HV.out.tu HB.out⟩
    · have e1 : blkE S k = 0 := by unfold blkE; rw [hx]; exact if_neg hs
      have e2 : blkT S k = blkS S k := by unfold blkT; rw [e1, if_pos rfl]
      rw [e1, e2]
      have hok := h.ok.blk hx
      have hL : S.L.length < maxLen := by have := maxLen_big; have := h.ok.len; omega
      have HK : Hid (∀ w1, Below w.heap.size w w1 → Calls Try.prog 41 #[.pointer (some ⟨c, 0, none⟩), .int .i64 k, lv x] w1 fun e w' => e = .returned (.tuple #[]) ∧ Lf w1 w' c m p n per S.L.length (SM S.L) F S k x) := fun w1 hb => leave_vx (h.vr.below hb) h.ok h.pv hx
      have HG : Hid (∀ (w1 w2 : World) (cs : Array Value), Below w.heap.size w w1 → cs = #[.int .i64 x.st, .int .i64 x.co, .int .i64 x.w, .int .i64 x.cr] → Lf (w1.alloc (.cells cs 36)) w2 c m p n per S.L.length (SM S.L) F S k x → ∃ w3,
          (w2.cell? ⟨w1.heap.size, 0, none⟩ = some (.int .i64 x.st) ∧ w2.frozen? ⟨w1.heap.size, 0, none⟩ = false ∧ w1.heap.size < w2.heap.size) ∧
          (∀ y, y = (w2.setCell ⟨w1.heap.size, 0, none⟩ (.int .i64 3)).drew → (y.cell? ⟨c, 0, none⟩ = some (.map (some m)) ∧ c < y.heap.size) ∧
            (y.cell? ⟨w1.heap.size, 0, none⟩ = some (.int .i64 3) ∧ y.cell? ⟨w1.heap.size, 1, none⟩ = some (.int .i64 x.co) ∧ y.cell? ⟨w1.heap.size, 2, none⟩ = some (.int .i64 x.w) ∧ y.cell? ⟨w1.heap.size, 3, none⟩ = some (.int .i64 x.cr)) ∧ w1.heap.size < y.heap.size ∧
            (Instr.mapUpdate 41 (.map (some m)) (.int .i64 k) (.agg #[.int .i64 3, .int .i64 x.co, .int .i64 x.w, .int .i64 x.cr])).run Try.prog y = .ok () w3) ∧ Tu w w3 c m p n per F (blkS S k)) := fun w1 w2 cs hb hcs ⟨G, h1, h2, h3, h4⟩ => by
        subst hcs
        have B0 := VB.start (h.vr.below hb) #[.int .i64 x.st, .int .i64 x.co, .int .i64 x.w, .int .i64 x.cr]
        have B1 := B0.step h1 h2 h3
        have hc : c < w1.heap.size := (h.vr.below hb).lt
        have B2 := (B1.set hc 0 (.int .i64 3)).drew
        obtain ⟨w3, q1, q2, q3⟩ := B2.vr.store k hk (.agg #[.int .i64 3, .int .i64 x.co, .int .i64 x.w, .int .i64 x.cr]) hL
        have B3 := B2.step q2 q3 (Nw.refl _ _ _)
        refine ⟨w3, ⟨B1.b 0, B1.bf 0, B1.bl⟩, fun y hy => ?_, Tu.from_below hb ⟨G, ⟨B3.vr.congr (cnt_some hx |>.trans (len_mod _ _ _).symm) (fun q => (SM_mod (f := stF 3) hx (fun _ => rfl) q).symm) (fun _ _ => rfl), h4 (blkS S k) (fun i _ => ?_) (fun _ => rfl), hok⟩, B3.tr, B3.nw⟩⟩
        · subst hy
          exact ⟨⟨B2.vr.c0, B2.vr.lt⟩, ⟨B2.b 0, B2.b 1, B2.b 2, B2.b 3⟩, B2.bl, q1⟩
        · show rn (mod S.L k (stF 3)) i = _
          rw [rn_turn (f := stF 3) h.ok hx hok (fun _ => rfl), if_neg (fun e => absurd (show (3 : Int) = 2 from e.1) (by decide))]
      have hs2 : (x.st == 3) = false := by simpa using hs
      unfold lv at C HK
      clear h e1 e2 hx hok
      generalize x.st = sa at *
      generalize (x.co : Int) = sb at *
      generalize x.w = sd at *
      generalize x.cr = sf at *
      go_enter Try.func22, Try.ntmps22
      go_wp2_with fail
      refine C.mono ?_
      rintro e w1 ⟨rfl, hb⟩
      have HB : Hid (Below w.heap.size w w1) := hb
      have HB2 : Hid (Below w.heap.size w (w1.alloc (.cells #[.int .i64 sa, .int .i64 sb, .int .i64 sd, .int .i64 sf] 36))) := hb.alloc hb.size _
      have K := HK.out _ HB2.out
      clear C hb
      go_wp2_with fail
      refine K.mono ?_
      rintro e w2 ⟨rfl, q⟩
      obtain ⟨w3, ⟨d0, d1, d2⟩, hy, ht⟩ := HG.out w1 w2 _ HB.out rfl q
      have HT : Hid (Tu w w3 c m p n per F (blkS S k)) := ht
      obtain ⟨⟨y0, yl⟩, ⟨y1, y2, y3, y4⟩, y5, hrun⟩ := hy _ rfl
      clear ht q K HG HK hy
      go_wp2_with fail
      go_region
      go_wp2_with fail
      go_ret
      exact ⟨rfl, HT.out⟩
end
end Go.Proofs.Ytgdnklmnchcmeaa
