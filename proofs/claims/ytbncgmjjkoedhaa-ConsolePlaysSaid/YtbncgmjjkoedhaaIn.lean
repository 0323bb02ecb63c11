/-
  What Input and Write do.
-/
import Derived.Test.YtbncgmjjkoedhaaSm
import Derived.Laws.AppendOwn
namespace Go.Proofs.Ytbncgmjjkoedhaa
open Go.RowKit
set_option linter.unusedVariables false
set_option maxRecDepth 20000

theorem step_append_run {P : Program} {w : World} {ops : Array Oper} {o : Oper} {a : Act} {K : Act → World → Prop} {Q : Exit → Act → World → Prop} {E : Prop} (hgd : o.guard = none) (s x : Operand) (t : TypeId)
    (ho : o.op = .call { callee := .builtin .append, args := #[s, x], argTypes := #[t, t] }) (vs vx v' : Value) (w' : World) (hs : a.eval s = vs) (hx : a.eval x = vx)
    (hrun : (Builtin.append_ #[t, t] o.type #[vs, vx]).run P w = .ok v' w') (h : K (a.put o.dst v') w') : if Region.wanted o (yielded ops a.tmps) = true then Oper.wp P o a w K Q else E := by
  have hw : Region.wanted o (yielded ops a.tmps) = true := by simp [Region.wanted, hgd]
  rw [if_pos hw]
  unfold Oper.wp
  simp [execOp, ho, resolve, invoke, builtin, hs, hx, hrun, Result.andThen]
  exact h
theorem own_base {w : World} {base n : Nat} {v : Value} {xs : List Value} (h : w.ownsRow base 5 1 v n xs) : w.ownsRow 0 5 1 v n xs := by
  refine ⟨h.1, ?_⟩
  rcases h.2 with h' | ⟨g, cap, cur, rfl, h1, h2⟩
  · exact .inl h'
  · exact .inr ⟨g, cap, cur, rfl, Nat.zero_le _, h2⟩
/-- append of bytes to a row of one's own: the row stays, or is a new one -/
theorem run_append_sl {w : World} (ty : TypeId) {V : Value} {n : Nat} {xs : List Int} (hown : w.ownsRow 0 5 1 V n (bv xs)) {ad : Option Addr} {m c : Nat} {zs : List Int} (hnil : ad = none → m = 0 ∧ c = 0) (hsl : SL w ad m zs) (hb : n + m ≤ 140737488355328) :
    ∃ v' w', (Builtin.append_ #[28, 28] ty #[V, .slice ad m c]).run Try.prog w = .ok v' w' ∧ w'.ownsRow 0 5 1 v' (n + m) (bv (xs ++ zs)) ∧ w.grownBy w' V.ownBlock ∧ ∀ g, v'.ownBlock = some g → V.ownBlock = some g ∨ w.heap.size ≤ g := by
  obtain ⟨i0, hi, hz0, hz1, hz2⟩ := info_parts Try.info5
  cases ad with
  | none =>
    obtain ⟨rfl, rfl⟩ := hnil rfl
    have hz : zs = [] := List.length_eq_zero_iff.1 hsl.1
    subst hz
    exact ⟨V, w, run_append_owned_none (P := Try.prog) (w := w) 0 28 ty 5 i0 1 Try.underlying28 hi V n _ hown, by simpa using hown, grown_refl _ _, fun g e => .inl e⟩
  | some ad =>
    have hnews : ∀ j u, (bv zs)[j]? = some u → w.cell? (ad.add j) = some u := by
      intro j u hj
      have hjl : j < zs.length := by
        rcases Nat.lt_or_ge j zs.length with h' | h'
        · exact h'
        · simp [bv, List.getElem?_eq_none (show (zs.map (Value.int .u8)).length ≤ j by simpa using h')] at hj
      rcases hsl.2.2 with h0 | ⟨b, off, hb, hlt, hc⟩
      · have := hsl.1; omega
      · cases hb
        have hplain : (⟨b, off, none⟩ : Addr).add j = ⟨b, off + j, none⟩ := by unfold Addr.add; split <;> simp_all
        rw [hplain, hc j (by have := hsl.1; omega)]
        simp [bv, List.getElem?_eq_getElem hjl] at hj
        subst hj
        simp [List.getD, List.getElem?_eq_getElem hjl]
    have h1 : ∀ u ∈ bv zs, u.oneCell' = true := by
      intro u hu
      obtain ⟨z, _, rfl⟩ := List.mem_map.1 hu
      rfl
    have hl : (bv zs).length = m * 1 := by simpa [bv] using hsl.1
    have own := run_append_own (P := Try.prog) w
    have app : bv (xs ++ zs) = bv xs ++ bv zs := by simp [bv]
    rw [app]
    rcases hown.2 with ⟨rfl, rfl⟩ | ⟨g, cap, cur, rfl, hbg, hg, hnc, hcm, hcs, htake⟩
    · obtain ⟨v', w', hr, h2, h3, _⟩ := own w.heap.size 28 ty 5 i0 (.int .u8 0) 1 1 Try.underlying28 hi hz0 hz1 hz2 rfl (by decide) (.slice none 0 0) 0 (bv xs) ⟨hown.1, .inl ⟨rfl, rfl⟩⟩ ad m c (bv zs) hl hnews h1 (by unfold maxLen; omega) (by omega) (Nat.le_refl _)
      refine ⟨v', w', hr, own_base h2, h3, fun g e => .inr ?_⟩
      rcases h2.2 with ⟨rfl, _⟩ | ⟨g', cap, cur, rfl, h', _⟩
      · cases e
      · cases e; exact h'
    · obtain ⟨v', w', hr, h2, h3, _⟩ := own 0 28 ty 5 i0 (.int .u8 0) 1 1 Try.underlying28 hi hz0 hz1 hz2 rfl (by decide) _ n (bv xs) hown ad m c (bv zs) hl hnews h1 (by unfold maxLen; omega) (by omega) (Nat.zero_le _)
      refine ⟨v', w', hr, h2, h3, fun q e => ?_⟩
      by_cases hroom : n + m ≤ cap
      · have hr2 := run_append_room (P := Try.prog) w 28 ty 5 i0 Try.underlying28 hi g n cap cur hg ad m c (bv zs) (by rw [hz1]; exact hl) hnews h1 hroom (by rw [hz1, hl]; omega)
        rw [hr] at hr2
        cases hr2
        exact .inl e
      · have holds : ∀ j u, (bv xs)[j]? = some u → w.cell? ((⟨g, 0, none⟩ : Addr).add j) = some u := hown.cells (g := g) rfl
        have hr2 := run_append_grow (P := Try.prog) w 28 ty 5 i0 (.int .u8 0) Try.underlying28 hi hz0 ⟨g, 0, none⟩ n cap (bv xs) (by rw [hz1]; exact hown.1) holds ad m c (bv zs) (by rw [hz1]; exact hl) hnews (by omega) (by omega) (growslice_fits (by omega) (by rw [hz2]; omega))
        rw [hr] at hr2
        cases hr2
        cases e
        exact .inr (Nat.le_refl _)
section
variable {N : Nat → Prop} {w x : World} {c : Nat} {V U : Value} {W O : List Int} {d r : Int}
theorem CC.notN (h : CC N w c V U W O d r) : ¬ N c := fun e => (h.nn c e).2.1 rfl
theorem CC.setd (h : CC N w c V U W O d r) (d' : Int) (hd : wrap64 d' = d') : CC N (w.setCell ⟨c, 3, none⟩ (.int .i64 d')) c V U W O d' r ∧ Trn (fun k => ¬ N k) w (w.setCell ⟨c, 3, none⟩ (.int .i64 d')) := by
  have ht' := trn_setCell (fun k => k = c) h.ob rfl 3 (.int .i64 d')
  have kp : ∀ g, g < w.heap.size → g ≠ c → (w.setCell ⟨c, 3, none⟩ (.int .i64 d')).heap[g]? = w.heap[g]? := fun g hg hn => ht'.block g hg hn
  refine ⟨⟨?_, own_kept h.rw fun g e => kp g (h.vlt e) fun e' => h.vne (e' ▸ e), own_kept h.ro fun g e => kp g (h.ult e) fun e' => h.une (e' ▸ e), h.ap, h.bw, h.bo, h.lw, h.lo, fun k e => ⟨Nat.lt_of_lt_of_le (h.nn k e).1 ht'.size, (h.nn k e).2⟩, h.wr, hd⟩, trn_setCell _ h.ob h.notN 3 _⟩
  rw [heap_setCell h.ob]
  rfl
theorem CC.setr (h : CC N w c V U W O d r) (r' : Int) (hr : wrap64 r' = r') : CC N (w.setCell ⟨c, 4, none⟩ (.int .i64 r')) c V U W O d r' ∧ Trn (fun k => ¬ N k) w (w.setCell ⟨c, 4, none⟩ (.int .i64 r')) := by
  have ht' := trn_setCell (fun k => k = c) h.ob rfl 4 (.int .i64 r')
  have kp : ∀ g, g < w.heap.size → g ≠ c → (w.setCell ⟨c, 4, none⟩ (.int .i64 r')).heap[g]? = w.heap[g]? := fun g hg hn => ht'.block g hg hn
  refine ⟨⟨?_, own_kept h.rw fun g e => kp g (h.vlt e) fun e' => h.vne (e' ▸ e), own_kept h.ro fun g e => kp g (h.ult e) fun e' => h.une (e' ▸ e), h.ap, h.bw, h.bo, h.lw, h.lo, fun k e => ⟨Nat.lt_of_lt_of_le (h.nn k e).1 ht'.size, (h.nn k e).2⟩, hr, h.wd⟩, trn_setCell _ h.ob h.notN 4 _⟩
  rw [heap_setCell h.ob]
  rfl
/-- the row of what waits is another one -/
theorem CC.putw (h : CC N w c V U W O d r) {v' : Value} {n : Nat} {W' : List Int} (ho : x.ownsRow 0 5 1 v' n (bv W')) (hg : w.grownBy x V.ownBlock) (hf : ∀ g, v'.ownBlock = some g → V.ownBlock = some g ∨ w.heap.size ≤ g) (hb : Bytes W') (hl : W'.length ≤ 4096) :
    CC N (x.setCell ⟨c, 1, none⟩ v') c v' U W' O d r ∧ Trn (fun k => ¬ N k) w (x.setCell ⟨c, 1, none⟩ v') := by
  have hn : n = W'.length := by have := ho.1; simp [bv] at this; omega
  subst hn
  have hob : x.heap[c]? = some (.cells #[.bool true, V, U, .int .i64 d, .int .i64 r] 43 (0, 0)) := (hg.block c h.lt fun e => h.vne e.symm).trans h.ob
  have ht := trn_setCell (fun k => k = c) hob rfl 1 v'
  have hv : v'.ownBlock ≠ some c := fun e => by
    obtain ⟨cur, hc⟩ := own_typ ho e
    exact ne_typ hc hob (by decide) rfl
  have hlt : ∀ g, v'.ownBlock = some g → g < x.heap.size := fun g e => by
    obtain ⟨cur, hc⟩ := own_typ ho e
    exact lt_of_heap hc
  refine ⟨⟨?_, own_kept ho fun g e => ht.block g (hlt g e) fun e' => hv (e' ▸ e), own_kept h.ro fun g e => ?_, fun g e e' => ?_, hb, h.bo, hl, h.lo, fun k e => ?_, h.wr, h.wd⟩, ?_⟩
  · rw [heap_setCell hob]
    rfl
  · have hgl := h.ult e
    exact (ht.block g (Nat.lt_of_lt_of_le hgl hg.size) fun e' => h.une (e' ▸ e)).trans (hg.block g hgl fun e' => h.ap g e'.symm e)
  · rcases hf g e with e1 | e1
    · exact h.ap g e1 e'
    · have := h.ult e'; omega
  · have hk := h.nn k e
    refine ⟨Nat.lt_of_lt_of_le hk.1 (Nat.le_trans hg.size ht.size), hk.2.1, fun e' => ?_, hk.2.2.2⟩
    rcases hf k e' with e1 | e1
    · exact hk.2.2.1 e1
    · have := hk.1; omega
  · refine (Trn.of_grown hg fun k e hN => (h.nn k hN).2.2.1 e).trans (trn_setCell _ hob h.notN 1 v')
/-- the row of what is written is another one -/
theorem CC.puto (h : CC N w c V U W O d r) {v' : Value} {n : Nat} {O' : List Int} (ho : x.ownsRow 0 5 1 v' n (bv O')) (hg : w.grownBy x U.ownBlock) (hf : ∀ g, v'.ownBlock = some g → U.ownBlock = some g ∨ w.heap.size ≤ g) (hb : Bytes O') (hl : O'.length ≤ 1048576) :
    CC N (x.setCell ⟨c, 2, none⟩ v') c V v' W O' d r ∧ Trn (fun k => ¬ N k) w (x.setCell ⟨c, 2, none⟩ v') := by
  have hn : n = O'.length := by have := ho.1; simp [bv] at this; omega
  subst hn
  have hob : x.heap[c]? = some (.cells #[.bool true, V, U, .int .i64 d, .int .i64 r] 43 (0, 0)) := (hg.block c h.lt fun e => h.une e.symm).trans h.ob
  have ht := trn_setCell (fun k => k = c) hob rfl 2 v'
  have hv : v'.ownBlock ≠ some c := fun e => by
    obtain ⟨cur, hc⟩ := own_typ ho e
    exact ne_typ hc hob (by decide) rfl
  have hlt : ∀ g, v'.ownBlock = some g → g < x.heap.size := fun g e => by
    obtain ⟨cur, hc⟩ := own_typ ho e
    exact lt_of_heap hc
  refine ⟨⟨?_, own_kept h.rw fun g e => ?_, own_kept ho fun g e => ht.block g (hlt g e) fun e' => hv (e' ▸ e), fun g e e' => ?_, h.bw, hb, h.lw, hl, fun k e => ?_, h.wr, h.wd⟩, ?_⟩
  · rw [heap_setCell hob]
    rfl
  · have hgl := h.vlt e
    exact (ht.block g (Nat.lt_of_lt_of_le hgl hg.size) fun e' => h.vne (e' ▸ e)).trans (hg.block g hgl fun e' => h.ap g e e'.symm)
  · rcases hf g e' with e1 | e1
    · exact h.ap g e e1
    · have := h.vlt e; omega
  · have hk := h.nn k e
    refine ⟨Nat.lt_of_lt_of_le hk.1 (Nat.le_trans hg.size ht.size), hk.2.1, hk.2.2.1, fun e' => ?_⟩
    rcases hf k e' with e1 | e1
    · exact hk.2.2.2 e1
    · have := hk.1; omega
  · refine (Trn.of_grown hg fun k e hN => (h.nn k hN).2.2.2 e).trans (trn_setCell _ hob h.notN 2 v')
theorem wrap_wrap (x : Int) : wrap64 (wrap64 x) = wrap64 x := by unfold wrap64; omega
theorem wrap_small {x : Int} (h1 : -9223372036854775808 ≤ x) (h2 : x < 9223372036854775808) : wrap64 x = x := by unfold wrap64; omega
/-- how many are taken -/
def tkn (room len : Nat) : Nat := min len room
set_option maxHeartbeats 1600000 in
theorem input_cx (h : CX N w c W O d r) {a : Option Addr} {len cap : Nat} {zs : List Int} (hs : SL w a len zs) (hnil : a = none → len = 0 ∧ cap = 0) (hlc : len ≤ cap) (hlen : len ≤ 140737488351232) :
    Calls Try.prog 8 #[.pointer (some ⟨c, 0, none⟩), .slice a len cap] w fun e w' => e = .returned (.tuple #[.int .i64 (tkn (4096 - W.length) len), .int .i64 0]) ∧ CX N w' c (W ++ zs.take (tkn (4096 - W.length) len)) O (wrap64 (d + (len - tkn (4096 - W.length) len))) r ∧ Trn (fun k => ¬ N k) w w' := by
  obtain ⟨V, U, h⟩ := h
  obtain ⟨c0, c1, c2, c3, c4⟩ := h.cells
  have hlt := h.lt
  have hlw := h.lw
  have HM : Hid (Made w c) := h.made
  obtain ⟨T, hT⟩ : ∃ T, tkn (4096 - W.length) len = T := ⟨_, rfl⟩
  rw [hT]
  have hT1 : T ≤ len := by rw [← hT]; exact Nat.min_le_left _ _
  have hT2 : T ≤ 4096 - W.length := by rw [← hT]; exact Nat.min_le_right _ _
  have hT3 : (T = len ∧ len ≤ 4096 - W.length) ∨ (T = 4096 - W.length ∧ 4096 - W.length < len) := by rw [← hT]; unfold tkn; omega
  have own' : w.drew.ownsRow 0 5 1 V W.length (bv W) := h.rw
  obtain ⟨va, vc, rfl, _, hvc, _, _⟩ := own_sl h.rw h.bw
  have hnil' : a = none → T = 0 ∧ cap = 0 := fun e => by have := hnil e; omega
  obtain ⟨v', x, hrun, ho, hg, hf⟩ := run_append_sl (w := w.drew) 28 own' (ad := a) (m := T) (c := cap) (zs := zs.take T) hnil' (SL.first (h := hs) hT1) (by omega)
  obtain ⟨va', vc', rfl, _, _, _, _⟩ := own_sl ho (bytes_app h.bw (bytes_take hs.2.1 T))
  obtain ⟨v', hv'⟩ : ∃ v', v' = Value.slice va' (W.length + T) vc' := ⟨_, rfl⟩
  rw [← hv'] at ho hf
  have hg' : w.grownBy x (Value.ownBlock (.slice va W.length vc)) := ⟨hg.os, hg.tape, hg.output, hg.size, hg.block⟩
  have hwl : (W ++ zs.take T).length ≤ 4096 := by have := hs.1; simp; omega
  have k1 := h.putw ho hg' hf (bytes_app h.bw (bytes_take hs.2.1 T)) hwl
  have k2 := k1.1.setd (wrap64 (d + (len - T))) (wrap_wrap _)
  have HK : Hid (CX N ((x.setCell ⟨c, 1, none⟩ v').setCell ⟨c, 3, none⟩ (.int .i64 (wrap64 (d + (len - T))))) c (W ++ zs.take T) O (wrap64 (d + (len - T))) r ∧ Trn (fun k => ¬ N k) w ((x.setCell ⟨c, 1, none⟩ v').setCell ⟨c, 3, none⟩ (.int .i64 (wrap64 (d + (len - T)))))) := ⟨⟨_, _, k2.1⟩, k1.2.trans k2.2⟩
  have hx3 := (k1.1.cells).2.2.2.1
  have hxlt : c < x.heap.size := Nat.lt_of_lt_of_le hlt hg.size
  have hfx : x.frozen? ⟨c, 1, none⟩ = false := by
    have := (hg'.block c h.lt fun e => h.vne e.symm).trans h.ob
    simp [World.frozen?, this]
  have hfx3 : (x.setCell ⟨c, 1, none⟩ v').frozen? ⟨c, 3, none⟩ = false := by simp [World.frozen?, k1.1.ob]
  have hcx1 : x.cell? ⟨c, 1, none⟩ = some (.slice va W.length vc) := by
    have := (hg'.block c h.lt fun e => h.vne e.symm).trans h.ob
    simp [World.cell?, this]
  have hwd := h.wd
  clear k1 k2 hg hg' ho hf own' h hs hT hwl hnil hnil'
  subst hv'
  have hTc : T ≤ cap := by omega
  rcases hT3 with ⟨rfl, hT3⟩ | ⟨hT4, hT3⟩
  · have h6 : ((T : Int) ≤ 4096 - (W.length : Int)) := by omega
    have e0 : wrap64 (d + ((T : Int) - T)) = d := by rw [Int.sub_self, Int.add_zero, hwd]
    rw [e0] at HK ⊢
    clear e0
    go_enter Try.func8, Try.ntmps8
    go_wp2_with fail
    refine Calls.mono HM.out ?_
    rintro e x0 ⟨rfl, rfl⟩
    go_wp2_with fail
    go_region_law ((refine step_append_run (by rfl) _ _ 28 (by rfl) _ _ _ x (by rfl) (by rfl) hrun ?_))
    all_goals
      go_wp2_with fail
      go_ret2
      exact ⟨rfl, HK.out⟩
  · have h6 : (4096 - (W.length : Int)) < (len : Int) := by omega
    have h7 : (4096 - (W.length : Int)) = (T : Int) := by omega
    clear hT4
    go_enter Try.func8, Try.ntmps8
    go_wp2_with fail
    refine Calls.mono HM.out ?_
    rintro e x0 ⟨rfl, rfl⟩
    go_wp2_with fail
    go_region_law ((refine step_append_run (by rfl) _ _ 28 (by rfl) _ _ _ x (by rfl) (by rfl) hrun ?_))
    all_goals
      go_wp2_with fail
      go_ret2
      exact ⟨rfl, HK.out⟩
set_option maxHeartbeats 1600000 in
theorem write_cx (h : CX N w c W O d r) {a : Option Addr} {len cap : Nat} {zs : List Int} (hs : SL w a len zs) (hnil : a = none → len = 0 ∧ cap = 0) (hlc : len ≤ cap) (hlen : len ≤ 140737488351232) :
    Calls Try.prog 12 #[.pointer (some ⟨c, 0, none⟩), .slice a len cap] w fun e w' => e = .returned (.tuple #[.int .i64 (tkn (1048576 - O.length) len), .int .i64 0]) ∧ CX N w' c W (O ++ zs.take (tkn (1048576 - O.length) len)) d r ∧ Trn (fun k => ¬ N k) w w' := by
  obtain ⟨V, U, h⟩ := h
  obtain ⟨c0, c1, c2, c3, c4⟩ := h.cells
  have hlt := h.lt
  have hlw := h.lo
  have HM : Hid (Made w c) := h.made
  obtain ⟨T, hT⟩ : ∃ T, tkn (1048576 - O.length) len = T := ⟨_, rfl⟩
  rw [hT]
  have hT1 : T ≤ len := by rw [← hT]; exact Nat.min_le_left _ _
  have hT2 : T ≤ 1048576 - O.length := by rw [← hT]; exact Nat.min_le_right _ _
  have hT3 : (T = len ∧ len ≤ 1048576 - O.length) ∨ (T = 1048576 - O.length ∧ 1048576 - O.length < len) := by rw [← hT]; unfold tkn; omega
  have own' : w.drew.ownsRow 0 5 1 U O.length (bv O) := h.ro
  obtain ⟨va, vc, rfl, _, hvc, _, _⟩ := own_sl h.ro h.bo
  have hnil' : a = none → T = 0 ∧ cap = 0 := fun e => by have := hnil e; omega
  obtain ⟨v', x, hrun, ho, hg, hf⟩ := run_append_sl (w := w.drew) 28 own' (ad := a) (m := T) (c := cap) (zs := zs.take T) hnil' (SL.first (h := hs) hT1) (by omega)
  obtain ⟨va', vc', rfl, _, _, _, _⟩ := own_sl ho (bytes_app h.bo (bytes_take hs.2.1 T))
  obtain ⟨v', hv'⟩ : ∃ v', v' = Value.slice va' (O.length + T) vc' := ⟨_, rfl⟩
  rw [← hv'] at ho hf
  have hg' : w.grownBy x (Value.ownBlock (.slice va O.length vc)) := ⟨hg.os, hg.tape, hg.output, hg.size, hg.block⟩
  have hwl : (O ++ zs.take T).length ≤ 1048576 := by have := hs.1; simp; omega
  have k1 := h.puto ho hg' hf (bytes_app h.bo (bytes_take hs.2.1 T)) hwl
  have HK : Hid (CX N (x.setCell ⟨c, 2, none⟩ v') c W (O ++ zs.take T) d r ∧ Trn (fun k => ¬ N k) w (x.setCell ⟨c, 2, none⟩ v')) := ⟨⟨_, _, k1.1⟩, k1.2⟩
  have hxlt : c < x.heap.size := Nat.lt_of_lt_of_le hlt hg.size
  have hfx : x.frozen? ⟨c, 2, none⟩ = false := by
    have := (hg'.block c h.lt fun e => h.une e.symm).trans h.ob
    simp [World.frozen?, this]
  have hcx1 : x.cell? ⟨c, 2, none⟩ = some (.slice va O.length vc) := by
    have := (hg'.block c h.lt fun e => h.une e.symm).trans h.ob
    simp [World.cell?, this]
  clear k1 hg hg' ho hf own' h hs hT hwl hnil hnil'
  subst hv'
  have hTc : T ≤ cap := by omega
  rcases hT3 with ⟨rfl, hT3⟩ | ⟨hT4, hT3⟩
  · have h6 : ((T : Int) ≤ 1048576 - (O.length : Int)) := by omega
    go_enter Try.func12, Try.ntmps12
    go_wp2_with fail
    refine Calls.mono HM.out ?_
    rintro e x0 ⟨rfl, rfl⟩
    go_wp2_with fail
    go_region_law ((refine step_append_run (by rfl) _ _ 28 (by rfl) _ _ _ x (by rfl) (by rfl) hrun ?_))
    all_goals
      go_wp2_with fail
      go_ret2
      exact ⟨rfl, HK.out⟩
  · have h6 : (1048576 - (O.length : Int)) < (len : Int) := by omega
    have h7 : (1048576 - (O.length : Int)) = (T : Int) := by omega
    clear hT4
    go_enter Try.func12, Try.ntmps12
    go_wp2_with fail
    refine Calls.mono HM.out ?_
    rintro e x0 ⟨rfl, rfl⟩
    go_wp2_with fail
    go_region_law ((refine step_append_run (by rfl) _ _ 28 (by rfl) _ _ _ x (by rfl) (by rfl) hrun ?_))
    all_goals
      go_wp2_with fail
      go_ret2
      exact ⟨rfl, HK.out⟩
end
theorem input_un {w : World} {p : Value} (h : UN w p) (v : Value) : Calls Try.prog 8 #[p, v] w fun e w' => e = .returned (.tuple #[.int .i64 0, .int .i64 1]) ∧ w' = w := by
  have H : Hid (Unmade w p) := made_un h
  clear h
  go_enter Try.func8, Try.ntmps8
  go_wp2_with fail
  refine Calls.mono H.out ?_
  rintro e x ⟨rfl, rfl⟩
  go_wp2_with fail
  go_ret2
  exact ⟨rfl, rfl⟩
theorem write_un {w : World} {p : Value} (h : UN w p) (v : Value) : Calls Try.prog 12 #[p, v] w fun e w' => e = .returned (.tuple #[.int .i64 0, .int .i64 1]) ∧ w' = w := by
  have H : Hid (Unmade w p) := made_un h
  clear h
  go_enter Try.func12, Try.ntmps12
  go_wp2_with fail
  refine Calls.mono H.out ?_
  rintro e x ⟨rfl, rfl⟩
  go_wp2_with fail
  go_ret2
  exact ⟨rfl, rfl⟩
end Go.Proofs.Ytbncgmjjkoedhaa
