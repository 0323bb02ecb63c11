/-
  A range over the looks, plainly and in the heap: sums of weights; all credits turned.
-/
import Derived.Test.YtgdnklmnchcmeaaCd
import Derived.Test.YtgdnklmnchcmeaaRp
namespace Go.Proofs.Ytgdnklmnchcmeaa
open Go.RowKit Go.Maps
open Go.MapKept Go.WideShapes
open Go.WideElems (Fit rd rg pl rd_key rd_val rg_of rd_mk other_key)
set_option linter.unusedVariables false
set_option maxRecDepth 100000
theorem MapIs.ge {w : World} {m N : Nat} {M : Int → Option Value} (h : MapIs w m N M) (K : List Int) (hn : K.Nodup) (hK : ∀ k ∈ K, KW k ∧ (M k).isSome = true) : K.length ≤ N := by
  obtain ⟨D, ⟨es, clock, hb, F, hs, rfl⟩, hsz, hD⟩ := h
  have e : N = (es.toList.map fun x => knum x.key).length := by
    rw [← hsz]
    simp [Maps.size, length_sorted]
  rw [e]
  refine len_le_of_sub _ _ hn fun k hk => ?_
  obtain ⟨h1, h2⟩ := hK k hk
  have h3 := (hD.at_ k h1).1
  rw [h2] at h3
  obtain ⟨p, hp, hpk⟩ := List.any_eq_true.1 h3
  obtain ⟨x, hx, rfl⟩ := List.mem_map.1 (mem_sorted.1 hp)
  obtain ⟨y, hy⟩ := F.reads x hx
  rw [rg_of hy] at hpk
  have e1 := WideAt.sameKey_eq hpk
  obtain ⟨z, hz, hl, hw⟩ := Maps.keyOf_int_inv Try.underlying3 (rd_key hy)
  rw [e1] at hl
  cases hl
  exact List.mem_map.2 ⟨x, hx, by rw [hz]; rfl⟩
theorem Rg.congr {w : World} {m r : Nat} {M M' : Int → Option Value} {l l' : Int → Bool} {n : Nat} (h : Rg w m r M l n) (hM : ∀ k, KW k → M k = M' k) (hl : ∀ k, KW k → l k = l' k) : Rg w m r M' l' n := by
  obtain ⟨N, D, lf, h1, h2, h3⟩ := h
  exact ⟨N, D, lf, h1, ⟨fun k hk => by rw [← hM k hk]; exact h2.at_ k hk⟩, fun k hk => by rw [← hl k hk]; exact h3 k hk⟩
/-- a scheduler without its map -/
structure VS (w : World) (c m p n : Nat) (per : Int) (F : Nat → Pv) (Qf : Nat → List Int) : Prop where
  ob : w.heap[c]? = some (.cells #[.map (some m), .slice (some ⟨p, 0, none⟩) n n, .int .i64 per] 44 (0, 0))
  pr : PR w p n F
  qs : ∀ i, i < n → Qs w (F i).q (Qf i)
  ap : ∀ i j k, i < n → j < n → (F i).q.ownBlock = some k → (F j).q.ownBlock = some k → i = j
  nn : n ≤ 8
section
variable {w w' : World} {c m p n N : Nat} {per : Int} {M : Int → Option Value} {F : Nat → Pv} {Qf : Nat → List Int} {S : St} {x : On} {L : List On}
theorem VR.vs (h : VR w c m p n per N M F Qf) : VS w c m p n per F Qf := ⟨h.ob, h.pr, h.qs, h.ap, h.nn⟩
theorem VS.vr (h : VS w c m p n per F Qf) (hm : MapIs w m N M) : VR w c m p n per N M F Qf := ⟨h.ob, hm, h.pr, h.qs, h.ap, h.nn⟩
/-- the blocks of it -/
def Bs (c p n : Nat) (F : Nat → Pv) (k : Nat) : Prop := k = c ∨ k = p ∨ ∃ i, i < n ∧ (F i).q.ownBlock = some k
theorem VS.keep (h : VS w c m p n per F Qf) (hk : ∀ k, Bs c p n F k → w'.heap[k]? = w.heap[k]?) : VS w' c m p n per F Qf :=
  ⟨(hk c (.inl rfl)).trans h.ob, h.pr.keep (hk p (.inr (.inl rfl))), fun i hi => (h.qs i hi).keep fun k e => hk k (.inr (.inr ⟨i, hi, e⟩)), h.ap, h.nn⟩
theorem VS.c0 (h : VS w c m p n per F Qf) : w.cell? ⟨c, 0, none⟩ = some (.map (some m)) := by rw [cell_at h.ob]; rfl
theorem VS.c2 (h : VS w c m p n per F Qf) : w.cell? ⟨c, 2, none⟩ = some (.int .i64 per) := by rw [cell_at h.ob]; rfl
theorem VS.lt (h : VS w c m p n per F Qf) : c < w.heap.size := lt_of_heap h.ob
/-- within a range: r is the range's block, M what the map keeps -/
structure RX (W w : World) (c m p n : Nat) (per : Int) (F : Nat → Pv) (Qf : Nat → List Int) (r : Nat) (M : Int → Option Value) (left : Int → Bool) (cnt : Nat) : Prop where
  vs : VS w c m p n per F Qf
  rg : Rg w m r M left cnt
  tr : Trn (fun k => k = m) W w
  lo : ∀ k, Bs c p n F k → k < r
  nm : ∀ k, Bs c p n F k → k ≠ m
  mr : m < r
  wr : W.heap.size ≤ r
variable {W : World} {r cnt : Nat} {left : Int → Bool}
theorem VR.bs_ne (h : VR w c m p n per N M F Qf) {k : Nat} (hk : Bs c p n F k) : k ≠ m ∧ k < w.heap.size := by
  rcases hk with rfl | rfl | ⟨i, hi, hk⟩
  · exact ⟨fun e => h.cm (.inl e), h.lt⟩
  · exact ⟨fun e => h.mp_ne e.symm, h.pr.lt⟩
  · exact ⟨h.mq_ne hi hk, ((h.qs i hi).lt k hk).1⟩
theorem RX.below (h : RX W w c m p n per F Qf r M left cnt) (hb : Below w.heap.size w w') : RX W w' c m p n per F Qf r M left cnt :=
  ⟨h.vs.keep fun k hk => hb.block k (Nat.lt_trans (h.lo k hk) h.rg.lt.1), h.rg.keep (grown_of_below (m := none) hb) (by simp) (by simp), h.tr.trans (Trn.of_below hb), h.lo, h.nm, h.mr, h.wr⟩
theorem RX.drew (h : RX W w c m p n per F Qf r M left cnt) : RX W w.drew c m p n per F Qf r M left cnt := h.below (Below.refl _ _).drew
/-- a box of the round's own -/
theorem RX.box (h : RX W w c m p n per F Qf r M left cnt) {b : Nat} {cs : Array Value} (hb : w.heap[b]? = some (.cells cs 36 (0, 0))) (hr : r < b) (o : Nat) (v : Value) : RX W (w.setCell ⟨b, o, none⟩ v) c m p n per F Qf r M left cnt := by
  have ht := trn_set1 hb o v
  have hg : w.grownBy (w.setCell ⟨b, o, none⟩ v) (some b) := ⟨ht.os, ht.tape, ht.output, ht.size, fun k hk hne => ht.block k hk fun e => hne (by rw [e])⟩
  have hmr := h.mr
  exact ⟨h.vs.keep fun k hk => ht.block k (Nat.lt_trans (h.lo k hk) h.rg.lt.1) (by have := h.lo k hk; omega), h.rg.keep hg (fun e => by cases e; omega) (fun e => by cases e; omega),
    ⟨ht.os.trans h.tr.os, ht.tape.trans h.tr.tape, ht.output.trans h.tr.output, Nat.le_trans h.tr.size ht.size, fun k hk hs => (ht.block k (Nat.lt_of_lt_of_le hk h.tr.size) (by have := h.wr; omega)).trans (h.tr.block k hk hs)⟩, h.lo, h.nm, h.mr, h.wr⟩
/-- the next one -/
theorem RX.step (h : RX W w c m p n per F Qf r M left cnt) {left' : Int → Bool} {cnt' : Nat} (hg : w.grownBy w' (some r)) (hr : Rg w' m r M left' cnt') : RX W w' c m p n per F Qf r M left' cnt' :=
  ⟨h.vs.keep fun k hk => gr_keep hg (Nat.lt_trans (h.lo k hk) h.rg.lt.1) (Nat.ne_of_lt (h.lo k hk)), hr,
    ⟨hg.os.trans h.tr.os, hg.tape.trans h.tr.tape, hg.output.trans h.tr.output, Nat.le_trans h.tr.size hg.size, fun k hk hs => (gr_keep hg (Nat.lt_of_lt_of_le hk h.tr.size) (by have := h.wr; omega)).trans (h.tr.block k hk hs)⟩, h.lo, h.nm, h.mr, h.wr⟩
/-- one stored that is there -/
theorem RX.put (h : RX W w c m p n per F Qf r M left cnt) (k : Int) (hk : KW k) (v : Value) (hM : (M k).isSome = true) (K : List Int) (hK : ∀ k, KW k → (M k).isSome = true → k ∈ K) (hl : K.length < maxLen) :
    ∃ w', (Instr.mapUpdate 41 (.map (some m)) (.int .i64 k) v).run Try.prog w = .ok () w' ∧ RX W w' c m p n per F Qf r (upd M k (some v)) left cnt ∧ w'.heap.size = w.heap.size := by
  obtain ⟨w', h1, h2, h3⟩ := rput_run Try.underlying41 h.rg k hk v hM K hK hl
  have hg := h3.grown
  have hsz : w'.heap.size = w.heap.size := by
    obtain ⟨es, cl, es', cl', hb, rfl⟩ := h3
    simp [ChangeMaps.setBlock]
  exact ⟨w', h1, ⟨h.vs.keep fun k hk => gr_keep hg (Nat.lt_trans (h.lo k hk) h.rg.lt.1) (h.nm k hk), h2,
    ⟨hg.os.trans h.tr.os, hg.tape.trans h.tr.tape, hg.output.trans h.tr.output, Nat.le_trans h.tr.size hg.size, fun k hk hs => (gr_keep hg (Nat.lt_of_lt_of_le hk h.tr.size) hs).trans (h.tr.block k hk hs)⟩, h.lo, h.nm, h.mr, h.wr⟩, hsz⟩
/-- the range's beginning -/
theorem RX.start (h : VR w c m p n per N M F Qf) : ∃ w0, (Instr.range 41 (.map (some m))).run Try.prog w = .ok (.pointer (some ⟨w.heap.size, 0, none⟩)) w0 ∧ RX w w0 c m p n per F Qf w.heap.size M (fun k => (M k).isSome) N := by
  obtain ⟨w0, hrr, hrg, hg0, hs0⟩ := range_run Try.underlying41 h.mp
  have hb0 : Below w.heap.size w w0 := ⟨hg0.os, hg0.tape, hg0.output, hg0.size, fun k hk => hg0.block k hk (by simp)⟩
  exact ⟨w0, hrr, ⟨h.vs.keep fun k hk => hb0.block k (h.bs_ne hk).2, hrg, Trn.of_below hb0, fun k hk => (h.bs_ne hk).2, fun k hk => (h.bs_ne hk).1, h.mp.lt, Nat.le_refl _⟩⟩
/-- .. once more, behind another one -/
theorem RX.again (h : RX W w c m p n per F Qf r M left cnt) : ∃ w0 cnt', (Instr.range 41 (.map (some m))).run Try.prog w = .ok (.pointer (some ⟨w.heap.size, 0, none⟩)) w0 ∧ RX W w0 c m p n per F Qf w.heap.size M (fun k => (M k).isSome) cnt' := by
  obtain ⟨N, hN⟩ := h.rg.map
  obtain ⟨w0, hrr, h1⟩ := RX.start (h.vs.vr hN)
  exact ⟨w0, N, hrr, h1.vs, h1.rg, h.tr.trans h1.tr, h1.lo, h1.nm, h1.mr, h.tr.size⟩
/-- weights of those that have come -/
def sumL (L : List On) (left : Int → Bool) : Int := (L.map fun x => if left x.id then 0 else x.w).sum
def sumW (L : List On) : Int := (L.map (·.w)).sum
theorem sumL_congr {L : List On} {l l' : Int → Bool} (h : ∀ x ∈ L, l x.id = l' x.id) : sumL L l = sumL L l' := by
  unfold sumL
  congr 1
  exact List.map_congr_left fun x hx => by rw [h x hx]
theorem sumL_none : ∀ {L : List On} {l : Int → Bool}, (∀ x ∈ L, l x.id = true) → sumL L l = 0
  | [], _, _ => rfl
  | a :: r, l, h => by
    unfold sumL
    rw [List.map_cons, List.sum_cons, h a (by simp)]
    have := sumL_none (L := r) (l := l) fun x hx => h x (by simp [hx])
    unfold sumL at this
    rw [this]
    simp
theorem sumL_all {L : List On} {l : Int → Bool} (h : ∀ x ∈ L, l x.id = false) : sumL L l = sumW L := by
  unfold sumL sumW
  congr 1
  exact List.map_congr_left fun x hx => by rw [h x hx]; rfl
theorem sumL_step : ∀ {L : List On} {l : Int → Bool} {x : On}, (L.map (·.id)).Nodup → x ∈ L → l x.id = true → sumL L (fun z => l z && !(z == x.id)) = sumL L l + x.w
  | [], _, _, _, h, _ => by cases h
  | a :: r, l, x, hd, hx, hl => by
    obtain ⟨h1, h2⟩ := List.nodup_cons.1 hd
    rcases List.mem_cons.1 hx with rfl | hx'
    · have e : sumL r (fun z => l z && !(z == x.id)) = sumL r l := sumL_congr fun y hy => by
        have : (y.id == x.id) = false := by
          simp
          exact fun e => h1 (List.mem_map.2 ⟨y, hy, e⟩)
        simp [this]
      unfold sumL at e ⊢
      rw [List.map_cons, List.sum_cons, List.map_cons, List.sum_cons, e, hl]
      simp
      omega
    · have e : (a.id == x.id) = false := by
        simp
        exact fun e => h1 (List.mem_map.2 ⟨x, hx', e.symm⟩)
      have := sumL_step h2 hx' hl
      unfold sumL at this ⊢
      rw [List.map_cons, List.sum_cons, List.map_cons, List.sum_cons, this]
      simp [e]
      omega
theorem sumL_le : ∀ {L : List On} {l : Int → Bool}, (∀ x ∈ L, 1 ≤ x.w ∧ x.w ≤ 256) → 0 ≤ sumL L l ∧ sumL L l ≤ 256 * L.length
  | [], _, _ => by constructor <;> simp [sumL]
  | a :: r, l, h => by
    have := sumL_le (L := r) (l := l) fun x hx => h x (by simp [hx])
    have ha := h a (by simp)
    unfold sumL at this ⊢
    rw [List.map_cons, List.sum_cons]
    simp only [List.length_cons]
    split <;> omega
theorem sumW_pos {L : List On} (h : ∀ x ∈ L, 1 ≤ x.w ∧ x.w ≤ 256) (hx : x ∈ L) : 1 ≤ sumW L ∧ sumW L ≤ 256 * L.length := by
  have h1 := sumL_le (l := fun _ => false) h
  rw [sumL_all fun _ _ => rfl] at h1
  refine ⟨?_, h1.2⟩
  clear h1
  induction L with
  | nil => cases hx
  | cons a r ih =>
    have h2 := sumL_le (L := r) (l := fun _ => false) fun y hy => h y (by simp [hy])
    rw [sumL_all fun _ _ => rfl] at h2
    have := h a (by simp)
    unfold sumW at *
    rw [List.map_cons, List.sum_cons]
    omega
/-- how much one gets -/
def gain (per wt sm : Int) : Int := max (Int.tdiv (per * wt) sm) 1
def rfF (per sm : Int) (x : On) : On := ⟨x.id, x.w, min (x.cr + gain per x.w sm) per, x.co, x.st⟩
def refS (per : Int) (S : St) : St := ⟨S.L.map (rfF per (sumW S.L)), S.Q, S.R⟩
theorem gain_le {per wt sm : Int} (hp : 1 ≤ per) (hw : 1 ≤ wt ∧ wt ≤ 256) (hs : 1 ≤ sm) : 1 ≤ gain per wt sm ∧ gain per wt sm ≤ per * 256 ∧ 0 ≤ Int.tdiv (per * wt) sm ∧ Int.tdiv (per * wt) sm ≤ per * 256 := by
  have h0 : 0 ≤ per * wt := Int.mul_nonneg (by omega) (by omega)
  have h1 : Int.tdiv (per * wt) sm ≤ per * wt := by
    rw [Int.tdiv_eq_ediv_of_nonneg h0]
    exact Int.ediv_le_self _ h0
  have h2 : per * wt ≤ per * 256 := Int.mul_le_mul_of_nonneg_left hw.2 (by omega)
  have h3 : 0 ≤ Int.tdiv (per * wt) sm := Int.tdiv_nonneg h0 (by omega)
  unfold gain
  omega
/-- the map on the way -/
def RM (L : List On) (g : On → On) (left : Int → Bool) (k : Int) : Option Value := (fnd L k).map fun x => if left k then lv x else lv (g x)
theorem RM_start {g : On → On} (k : Int) : RM L g (fun k => (SM L k).isSome) k = SM L k := by
  unfold RM SM
  cases hx : fnd L k with
  | none => rfl
  | some x => simp [hx]
theorem RM_step {g : On → On} {left : Int → Bool} (hx : fnd L x.id = some x) (k : Int) : upd (RM L g left) x.id (some (lv (g x))) k = RM L g (fun z => left z && !(z == x.id)) k := by
  unfold upd RM
  by_cases e : k = x.id
  · subst e
    rw [if_pos rfl, hx]
    simp
  · have : (k == x.id) = false := by simpa using e
    rw [if_neg e]
    simp [this]
theorem fnd_map {g : On → On} (hg : ∀ x, (g x).id = x.id) (k : Int) : fnd (L.map g) k = (fnd L k).map g := by
  unfold fnd
  rw [List.find?_map]
  have e : ((fun x : On => x.id == k) ∘ g) = fun x : On => x.id == k := by
    funext x
    show ((g x).id == k) = _
    rw [hg]
  rw [e]
theorem rn_map {g : On → On} (hg : ∀ x, (g x).id = x.id ∧ (g x).st = x.st ∧ (g x).co = x.co) (i : Nat) : rn (L.map g) i = (rn L i).map g := by
  unfold rn
  rw [List.find?_map]
  have e : ((fun x : On => x.st == 2 && x.co == i) ∘ g) = fun x : On => x.st == 2 && x.co == i := by
    funext x
    show ((g x).st == 2 && (g x).co == i) = _
    rw [(hg x).2.1, (hg x).2.2]
  rw [e]
theorem RM_done {g : On → On} (hg : ∀ x, (g x).id = x.id) {left : Int → Bool} (k : Int) (h : ∀ x, fnd L k = some x → left k = false) : RM L g left k = SM (L.map g) k := by
  unfold RM SM
  rw [fnd_map hg]
  cases hx : fnd L k with
  | none => rfl
  | some x => simp [h x hx]
theorem SOk.ref (h : SOk n per S) : SOk n per (refS per S) := by
  refine h.all (g := fun x => min (x.cr + gain per x.w (sumW S.L)) per) fun x hx => ?_
  have ho := h.ok x hx
  have hp := h.hp
  have h1 := sumW_pos (fun y hy => ⟨(h.ok y hy).w0, (h.ok y hy).w1⟩) hx
  have h2 := gain_le hp.1 ⟨ho.w0, ho.w1⟩ h1.1
  have := ho.c0
  omega
theorem PvOk.ref (h : PvOk F n per S) : PvOk F n per (refS per S) := fun i hi => by
  have hb := h i hi
  have e : rn (refS per S).L i = (rn S.L i).map (rfF per (sumW S.L)) := rn_map (g := rfF per (sumW S.L)) (fun x => ⟨rfl, rfl, rfl⟩) i
  unfold tkB riI chI tkB at *
  rw [e]
  cases hr : rn S.L i with
  | none => rw [hr] at hb; exact hb
  | some x => rw [hr] at hb; exact hb
end
end Go.Proofs.Ytgdnklmnchcmeaa
