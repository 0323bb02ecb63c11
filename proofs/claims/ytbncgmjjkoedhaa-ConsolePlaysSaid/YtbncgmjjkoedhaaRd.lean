/-
  What New, Read and Written do.
-/
import Derived.Test.YtbncgmjjkoedhaaIn
import Derived.Deep.RegionWith
import Derived.Deep.DeepCutAuto
namespace Go.Proofs.Ytbncgmjjkoedhaa
open Go.RowKit
set_option linter.unusedVariables false
set_option maxRecDepth 20000

theorem new_cx (w : World) : Calls Try.prog 7 #[] w fun e w' => e = .returned (.pointer (some ⟨w.heap.size, 0, none⟩)) ∧ CX (fun k => k < w.heap.size) w' w.heap.size [] [] 0 0 ∧ Below w.heap.size w w' ∧ w'.heap.size = w.heap.size + 1 := by
  have HC : Hid (CX (fun k => k < w.heap.size) (w.alloc (.cells #[.bool true, .slice none 0 0, .slice none 0 0, .int .i64 0, .int .i64 0] 43)) w.heap.size [] [] 0 0) :=
    ⟨_, _, heap_alloc_at _ _, ⟨rfl, .inl ⟨rfl, rfl⟩⟩, ⟨rfl, .inl ⟨rfl, rfl⟩⟩, (fun g e => by cases e), (by intro i; simp), (by intro i; simp), by simp, by simp, fun k e => ⟨by simp; omega, by omega, (fun e => by cases e), (fun e => by cases e)⟩, by unfold wrap64; omega, by unfold wrap64; omega⟩
  go_enter Try.func7, Try.ntmps7
  go_wp2_with fail
  go_ret
  exact ⟨rfl, HC.out, (Below.refl _ _).alloc (Nat.le_refl _) _, by simp⟩
theorem written_un {w : World} {p : Value} (h : UN w p) : Calls Try.prog 15 #[p] w fun e w' => e = .returned (.slice none 0 0) ∧ Below w.heap.size w w' := by
  have H : Hid (_) := untouched_un h
  clear h
  go_enter Try.func15, Try.ntmps15
  go_wp2_with fail
  refine Calls.mono H.out ?_
  rintro e x ⟨rfl, hb⟩
  go_wp2_with fail
  go_ret
  exact ⟨rfl, hb⟩
theorem read_un {w : World} {p : Value} (h : UN w p) (n : Int) : Calls Try.prog 10 #[p, .int .i64 n] w fun e w' => e = .returned (.slice none 0 0) ∧ Below w.heap.size w w' := by
  have H : Hid (_) := untouched_un h
  clear h
  go_enter Try.func10, Try.ntmps10
  go_wp2_with fail
  refine Calls.mono H.out ?_
  rintro e x ⟨rfl, hb⟩
  go_wp2_with fail
  go_ret
  exact ⟨rfl, hb⟩
/-- what waits moves to the front -/
theorem run_copy_down {w : World} (ty : TypeId) {va : Option Addr} {n vc : Nat} {W : List Int} (h : w.ownsRow 0 5 1 (.slice va n vc) n (bv W)) (k : Nat) (hk : k ≤ n) (sp : Option Addr) (hsp : k < n → sp = va.map (fun a => a.add k)) (sc : Nat) :
    ∃ w', (Builtin.copy_ #[28, 28] ty #[.slice va n vc, .slice sp (n - k) sc]).run Try.prog w = .ok (goInt (n - k : Nat)) w' ∧ w'.ownsRow 0 5 1 (.slice va (n - k) vc) (n - k) (bv (W.drop k)) ∧ w.grownBy w' (Value.ownBlock (.slice va n vc)) := by
  have hsz : (Try.prog.info? 5).map (·.size) = some 1 := by kernel_rfl
  have hl : W.length = n := by have := h.1; simpa [bv] using this
  rcases h.2 with ⟨hv, rfl⟩ | ⟨g, cap0, cur, hv, hbg, hg, hnc, hcm, hcs, htake⟩
  · cases hv
    obtain rfl : k = 0 := by omega
    obtain rfl : W = [] := List.length_eq_zero_iff.1 hl
    exact ⟨w, run_copy_none (P := Try.prog) w 28 28 ty 5 none sp 0 0 0 sc Try.underlying28 hsz rfl, ⟨rfl, .inl ⟨rfl, rfl⟩⟩, grown_refl _ _⟩
  · cases hv
    by_cases hkn : k = n
    · subst hkn
      refine ⟨w, ?_, ⟨by simp [bv]; omega, .inr ⟨g, vc, cur, by rw [Nat.sub_self], hbg, hg, by omega, hcm, hcs, by simp [bv, List.drop_of_length_le (Nat.le_of_eq hl)]⟩⟩, grown_refl _ _⟩
      rw [Nat.sub_self]
      exact run_copy_none (P := Try.prog) w 28 28 ty 5 (some ⟨g, 0, none⟩) sp k vc 0 sc Try.underlying28 hsz (by simp)
    · have hsp' := hsp (by omega)
      subst hsp'
      have hplain : ∀ b o j, (⟨b, o, none⟩ : Addr).add j = ⟨b, o + j, none⟩ := by intro b o j; unfold Addr.add; split <;> simp_all
      have hdl : (bv (W.drop k)).length = n - k := by simp [bv]; omega
      have hsrc : ∀ j u, (bv (W.drop k))[j]? = some u → w.cell? ((⟨g, k, none⟩ : Addr).add j) = some u := by
        intro j u hj
        rw [hplain, cell_at hg]
        have : (cur.toList.take (n * 1))[k + j]? = some u := by
          rw [htake, ← hj]
          simp [bv, List.getElem?_drop]
        rw [List.getElem?_take] at this
        split at this
        · rw [← Array.getElem?_toList]; exact this
        · cases this
      have hrun := run_copy_row (P := Try.prog) w 28 28 ty 5 g 0 n vc ⟨g, k, none⟩ (n - k) sc cur 5 (bv (W.drop k)) Try.underlying28 hsz hg (by rw [hdl]; show _ = min _ _; omega) hsrc (by rw [hdl]; omega) (by intro v hv; obtain ⟨z, _, rfl⟩ := List.mem_map.1 hv; rfl)
      rw [hdl] at hrun
      refine ⟨_, by rw [show (Option.map (fun a => a.add k) (some (⟨g, 0, none⟩ : Addr))) = some ⟨g, k, none⟩ by simp [hplain]]; exact hrun, ⟨by rw [hdl]; omega, .inr ⟨g, vc, _, rfl, hbg, setRow_heap w g cur _ 5 _ hg, by omega, hcm, ?_, ?_⟩⟩, ⟨rfl, rfl, rfl, by simp [World.setRow], fun q hq hne => setRow_other w g q _ (fun e => hne (by simp [Value.ownBlock, e]))⟩⟩
      · simp [hdl]; omega
      · simp [hdl]
section
variable {N : Nat → Prop} {w : World} {c : Nat} {W O : List Int} {d r : Int}
/-- what Written tells: bytes of its own -/
theorem written_cx (h : CX N w c W O d r) : Calls Try.prog 15 #[.pointer (some ⟨c, 0, none⟩)] w fun e w' => ∃ a cp, e = .returned (.slice a O.length cp) ∧ ((a = none ∧ O = [] ∧ cp = 0) ∨ ∃ g, a = some ⟨g, 0, none⟩ ∧ cp = O.length ∧ w.heap.size ≤ g ∧ w'.heap[g]? = some (.cells (bv O).toArray 5 (0, 0))) ∧ Below w.heap.size w w' := by
  obtain ⟨V, U, h⟩ := h
  have H : Hid (_) := untouched_cc h
  have ho := h.lo
  have hlt := h.lt
  obtain ⟨s, hs⟩ : ∃ s, still W O d r = s := ⟨_, rfl⟩
  rw [hs] at H
  have HC : Hid (CC N w c V U W O d r) := h
  clear h
  cases s with
  | true =>
    obtain rfl := still_o hs
    clear hs
    go_enter Try.func15, Try.ntmps15
    go_wp2_with fail
    refine Calls.mono H.out ?_
    rintro e x ⟨rfl, hb⟩
    go_wp2_with fail
    go_ret
    refine ⟨_, _, rfl, .inl ⟨rfl, ?_, rfl⟩, hb⟩
    first | rfl | trivial
  | false =>
    clear hs
    go_enter Try.func15, Try.ntmps15
    go_wp2_with fail
    refine Calls.mono H.out ?_
    rintro e x ⟨rfl, hb⟩
    have h' := HC.out.other (.of_below hb)
    obtain ⟨c0, c1, c2, c3, c4⟩ := h'.cells
    have hxlt := h'.lt
    obtain ⟨ua, uc, rfl, hsl, _, _, _⟩ := own_sl h'.ro h'.bo
    have K : Hid (_) := copyOf_sl (cap := uc) hsl ho
    clear HC H h' hsl
    go_wp2_with fail
    refine Calls.mono K.out ?_
    rintro e y ⟨rfl, hg, hb'⟩
    go_wp2_with fail
    go_ret
    exact ⟨_, _, rfl, .inr ⟨_, rfl, rfl, hb.size, hg⟩, hb.trans (hb'.mono hb.size)⟩
/-- how many are read -/
def rk (W : List Int) (n : Int) : Nat := min n.toNat W.length
/-- what stands behind the two stores -/
structure Tail (N : Nat → Prop) (y : World) (c : Nat) (va : Option Addr) (n vc k m : Nat) (W O : List Int) (d r : Int) (z : World) : Prop where
  run : (Builtin.copy_ #[28, 28] 3 #[.slice va n vc, .slice (if vc = k then va else va.map (fun a => a.add k)) m (vc - k)]).run Try.prog y.drew = .ok (goInt m) z
  lt : c < z.heap.size
  c1 : z.cell? ⟨c, 1, none⟩ = some (.slice va n vc)
  f1 : z.frozen? ⟨c, 1, none⟩ = false
  c4 : (z.setCell ⟨c, 1, none⟩ (.slice va m vc)).cell? ⟨c, 4, none⟩ = some (.int .i64 r)
  f4 : (z.setCell ⟨c, 1, none⟩ (.slice va m vc)).frozen? ⟨c, 4, none⟩ = false
  fin : CX N ((z.setCell ⟨c, 1, none⟩ (.slice va m vc)).setCell ⟨c, 4, none⟩ (.int .i64 (wrap64 (r + k)))) c (W.drop k) O d (wrap64 (r + k))
  trn : Trn (fun q => ¬ N q) y ((z.setCell ⟨c, 1, none⟩ (.slice va m vc)).setCell ⟨c, 4, none⟩ (.int .i64 (wrap64 (r + k))))
  row : ∀ (g : Nat) (cs : Array Value), y.heap[g]? = some (.cells cs 5 (0, 0)) → va.map (·.block) ≠ some g → ((z.setCell ⟨c, 1, none⟩ (.slice va m vc)).setCell ⟨c, 4, none⟩ (.int .i64 (wrap64 (r + k)))).heap[g]? = some (.cells cs 5 (0, 0))
theorem read_tail {y : World} {va : Option Addr} {vc : Nat} {U : Value} (h : CC N y c (.slice va W.length vc) U W O d r) (k : Nat) (hk : k ≤ W.length) (m : Nat) (hm : m = W.length - k) : ∃ z, Tail N y c va W.length vc k m W O d r z := by
  subst hm
  have own' : y.drew.ownsRow 0 5 1 (.slice va W.length vc) W.length (bv W) := h.rw
  obtain ⟨va', vc', e, _, hvc, hvm, _⟩ := own_sl h.rw h.bw
  cases e
  obtain ⟨z, hr, ho, hg⟩ := run_copy_down 3 own' k hk (if vc = k then va else va.map (fun a => a.add k)) (fun hlt => if_neg (by omega)) (vc - k)
  have hg' : y.grownBy z (Value.ownBlock (.slice va W.length vc)) := ⟨hg.os, hg.tape, hg.output, hg.size, hg.block⟩
  have hob : z.heap[c]? = some (.cells #[.bool true, .slice va W.length vc, U, .int .i64 d, .int .i64 r] 43 (0, 0)) := (hg'.block c h.lt fun e => h.vne e.symm).trans h.ob
  have k1 := h.putw ho hg' (fun g e => .inl (by rw [← e]; cases va <;> rfl)) (bytes_drop h.bw k) (by have := h.lw; simp; omega)
  have k2 := k1.1.setr (wrap64 (r + k)) (wrap_wrap _)
  refine ⟨z, hr, lt_of_heap hob, by simp [cell_at hob], by simp [World.frozen?, hob], k1.1.cells.2.2.2.2, by simp [World.frozen?, k1.1.ob], ⟨_, _, k2.1⟩, k1.2.trans k2.2, fun g cs hc hne => ?_⟩
  have hgl := lt_of_heap hc
  have hgc : g ≠ c := ne_typ hc h.ob (by decide)
  have t1 := trn_setCell (fun q => q = c) hob rfl 1 (.slice va (W.length - k) vc)
  have t2 := trn_setCell (fun q => q = c) k1.1.ob rfl 4 (.int .i64 (wrap64 (r + k)))
  have e1 := hg'.block g hgl (fun e => hne (by rw [e]; cases va <;> rfl))
  have e2 := t1.block g (Nat.lt_of_lt_of_le hgl hg.size) hgc
  have e3 := t2.block g (Nat.lt_of_lt_of_le hgl (Nat.le_trans hg.size t1.size)) hgc
  rw [e3, e2, e1, hc]
/-- what Read leaves -/
def RdP (N : Nat → Prop) (w : World) (c k : Nat) (W O : List Int) (d r : Int) (e : Ending) (w' : World) : Prop :=
  ∃ a cp, e = .returned (.slice a k cp) ∧ SL w' a k (W.take k) ∧ CX N w' c (W.drop k) O d (wrap64 (r + k)) ∧ Trn (fun k => ¬ N k) w w'
set_option maxHeartbeats 1600000 in
theorem read_cx (h : CX N w c W O d r) (n : Int) (hn : n < 9223372036854775808) : Calls Try.prog 10 #[.pointer (some ⟨c, 0, none⟩), .int .i64 n] w (RdP N w c (rk W n) W O d r) := by
  obtain ⟨V, U, h⟩ := h
  have H : Hid (_) := untouched_cc h
  have hlw := h.lw
  have hlt := h.lt
  have hwr := h.wr
  obtain ⟨s, hs⟩ : ∃ s, still W O d r = s := ⟨_, rfl⟩
  rw [hs] at H
  have HC : Hid (CC N w c V U W O d r) := h
  clear h
  obtain ⟨k, hk⟩ : ∃ k, rk W n = k := ⟨_, rfl⟩
  rw [hk]
  have hk' := hk
  unfold rk at hk'
  have none : (s = true ∨ n < 1) → k = 0 := by
    rintro (rfl | h1)
    · obtain rfl := still_w hs hlw
      simp at hk'
      exact hk'.symm
    · omega
  cases s with
  | true =>
    obtain rfl := none (.inl rfl)
    have HR : Hid (wrap64 (r + ((0 : Nat) : Int)) = r) := by simpa [Hid] using hwr
    clear hs none hk hk' hwr
    go_enter Try.func10, Try.ntmps10
    go_wp2_with fail
    refine Calls.mono H.out ?_
    rintro e x ⟨rfl, hb⟩
    go_wp2_with fail
    go_ret
    exact ⟨_, _, rfl, SL.len0, by rw [HR.out]; exact ⟨_, _, HC.out.other (.of_below hb)⟩, .of_below hb⟩
  | false =>
    by_cases h1 : n < 1
    · obtain rfl := none (.inr h1)
      have HR : Hid (wrap64 (r + ((0 : Nat) : Int)) = r) := by simpa [Hid] using hwr
      clear hs none hk hk' hwr
      go_enter Try.func10, Try.ntmps10
      go_wp2_with fail
      refine Calls.mono H.out ?_
      rintro e x ⟨rfl, hb⟩
      go_wp2_with fail
      go_ret
      exact ⟨_, _, rfl, SL.len0, by rw [HR.out]; exact ⟨_, _, HC.out.other (.of_below hb)⟩, .of_below hb⟩
    · have hkW : k ≤ W.length := by omega
      have hmin : (n ≤ W.length ∧ n = k) ∨ (W.length < n ∧ (W.length : Int) = k) := by omega
      clear hs none hk hk' hwr
      go_enter Try.func10, Try.ntmps10
      go_wp2_with fail
      refine Calls.mono H.out ?_
      rintro e x ⟨rfl, hb⟩
      have h' := HC.out.other (.of_below hb)
      obtain ⟨c0, c1, c2, c3, c4⟩ := h'.cells
      have hxlt := h'.lt
      obtain ⟨va, vc, rfl, hsl, hvc, hvm, hvn⟩ := own_sl h'.rw h'.bw
      have hsl' : SL x.drew va k (W.take k) := SL.first (h := hsl) hkW
      have K : Hid (_) := copyOf_sl (cap := vc) hsl' (by omega)
      have H' : Hid (_) := h'
      clear HC H h' hsl hsl'
      have hkvc : k ≤ vc := by omega
      go_wp2_with fail
      go_cut [5] (fun q wx => q = .slice (some ⟨x.heap.size, 0, none⟩) k k ∧ Hid (wx.heap[x.heap.size]? = some (.cells (bv (W.take k)).toArray 5 (0, 0)) ∧ Below x.heap.size x wx))
      case first =>
        rcases hmin with ⟨h6, h7⟩ | ⟨h6, h7⟩
        case' inl =>
          have h8 : n.toNat = k := by omega
          have h9 : n ≤ (vc : Int) := by omega
          clear h7
        case' inr =>
          have h8 : (k : Int) < n := by omega
          clear h6
        all_goals
          go_region_with (go_at_call 18; refine Calls.mono K.out ?_; rintro e y ⟨rfl, hg, hbb⟩)
          all_goals
            have HG : Hid (y.heap[x.heap.size]? = some (.cells (bv (W.take k)).toArray 5 (0, 0)) ∧ Below x.heap.size x y) := ⟨hg, ⟨hbb.os, hbb.tape, hbb.output, hbb.size, hbb.block⟩⟩
            clear hg hbb
            go_wp2_with fail
            go_meet
            exact ⟨rfl, HG⟩
      case rest =>
        obtain ⟨rfl, HG⟩ := hcut
        obtain ⟨hg, by'⟩ := HG.out
        have h2 := H'.out.other (.of_below by')
        have d1 := h2.cells.2.1
        have d2 := h2.lt
        have HW : Hid (Bytes W) := h2.bw
        have hne : va.map (·.block) ≠ some x.heap.size := fun e => by
          have := H'.out.vlt (g := x.heap.size) (by rw [← e]; cases va <;> rfl)
          omega
        have HB : Hid (Below w.heap.size w wc) := hb.trans (by'.mono hb.size)
        clear by' c0 c1 c2 c3 c4 K hmin HG
        by_cases hvk : vc = k
        case' pos =>
          subst hvk
          obtain ⟨z, TL⟩ := read_tail h2 _ hkW 0 (by omega)
          have hrun := TL.run
          rw [if_pos rfl, Nat.sub_self, show ((0 : Nat) : Int) = 0 from rfl] at hrun
        case' neg =>
          obtain ⟨z, TL⟩ := read_tail h2 _ hkW _ rfl
          have hrun := TL.run
          rw [if_neg hvk] at hrun
        all_goals
          have z1 := TL.lt
          have z2 := TL.c1
          have z3 := TL.f1
          have z4 := TL.c4
          have z5 := TL.f4
          have HT : Hid (_) := TL
          have HS : Hid (_) := HT.out.row _ _ hg hne
          clear TL h2 hg hne
          go_wp2_with fail
          go_region
          all_goals
            go_wp2_with fail
            go_ret
            exact ⟨_, _, rfl, ⟨by simp; omega, bytes_take HW.out _, .inr ⟨x.heap.size, 0, rfl, lt_of_heap HS.out, fun i hi => by rw [Nat.zero_add, cell_at HS.out]; simp [bv, hi, show i < W.length by omega]⟩⟩, HT.out.fin, (Trn.of_below ⟨HB.out.os, HB.out.tape, HB.out.output, HB.out.size, HB.out.block⟩).trans HT.out.trn⟩
end
end Go.Proofs.Ytbncgmjjkoedhaa
