/-
  Every frame counted: what FramesWhole holds between its steps.
-/
import Derived.Test.YtcnoonhcofnghaaNw
import Derived.Test.YtcnoonhcofnghaaOpens
namespace Go.Proofs.Ytcnoonhcofnghaa
open Go.RowKit
set_option linter.unusedVariables false
set_option maxRecDepth 20000

/-- how many of the first n have an owner below m -/
def cnL (cl : Nat → Nat) (n m : Nat) : Nat := (List.range n).countP (fun i => decide (cl i < m))
theorem cnL_zero (cl : Nat → Nat) (n : Nat) : cnL cl n 0 = 0 := by simp [cnL]
theorem cnL_succ (cl : Nat → Nat) (m : Nat) : ∀ n, cnL cl n (m + 1) = cnL cl n m + cn cl n m
  | 0 => by simp [cnL, cn]
  | n + 1 => by
    have ih := cnL_succ cl m n
    have h1 : ∀ k, cnL cl (n + 1) k = cnL cl n k + if cl n < k then 1 else 0 := fun k => by
      by_cases h : cl n < k <;> simp [cnL, List.range_succ, List.countP_append, h]
    rw [h1, h1, cn_succ, ih]
    by_cases e1 : cl n < m
    · rw [if_pos (by omega), if_pos e1, if_neg (by omega)]; omega
    · by_cases e2 : cl n = m
      · rw [if_pos (by omega), if_neg e1, if_pos e2]; omega
      · rw [if_neg (by omega), if_neg e1, if_neg e2]; omega
theorem cnL_all (cl : Nat → Nat) (h : ∀ i, cl i ≤ 17) (n : Nat) : cnL cl n 18 = n := by
  have : (List.range n).countP (fun i => decide (cl i < 18)) = (List.range n).length := List.countP_eq_length.2 fun i _ => by have := h i; simp; omega
  simpa [cnL] using this
theorem cnL_le (cl : Nat → Nat) (n m : Nat) : cnL cl n m ≤ n := by
  have := List.countP_le_length (p := fun i => decide (cl i < m)) (l := List.range n)
  simpa [cnL] using this
/-- what is seen behind the first k of the owner who's -/
def seenP (S : Fs) (who k i : Nat) : Bool := decide (S.cl i < who) || (decide (S.cl i = who) && decide (i ∈ (lsL S.cl who S.n).take k))
theorem seenP_zero (S : Fs) (i : Nat) : seenP S 0 0 i = false := by simp [seenP]
theorem seenP_next (S : Fs) (who i : Nat) (hi : i < S.n) : seenP S who (lsL S.cl who S.n).length i = seenP S (who + 1) 0 i := by
  unfold seenP
  rw [List.take_length]
  by_cases e1 : S.cl i < who
  · simp [e1, show S.cl i < who + 1 by omega]
  · by_cases e2 : S.cl i = who
    · simp [e2, lsL_mem, hi]
    · simp [e1, e2, show ¬ S.cl i < who + 1 by omega]
theorem ls_at {cl : Nat → Nat} {a n k : Nat} (hk : k < (lsL cl a n).length) : (lsL cl a n).getD k 0 < n ∧ cl ((lsL cl a n).getD k 0) = a := by
  have : (lsL cl a n).getD k 0 ∈ lsL cl a n := by
    rw [List.getD_eq_getElem?_getD, List.getElem?_eq_getElem hk]
    exact List.getElem_mem hk
  exact lsL_mem.1 this
theorem seenP_not (S : Fs) (who k : Nat) (hk : k < (lsL S.cl who S.n).length) : seenP S who k ((lsL S.cl who S.n).getD k 0) = false := by
  obtain ⟨h1, h2⟩ := ls_at hk
  unfold seenP
  have hn : ¬ (lsL S.cl who S.n).getD k 0 ∈ (lsL S.cl who S.n).take k := by
    have hd := lsL_nodup S.cl who S.n
    generalize lsL S.cl who S.n = l at *
    rw [List.getD_eq_getElem?_getD, List.getElem?_eq_getElem hk]
    intro hm
    obtain ⟨j, hj, e⟩ := List.getElem_of_mem hm
    simp only [List.length_take] at hj
    rw [List.getElem_take] at e
    have := (List.getElem_inj hd).1 e
    omega
  generalize (lsL S.cl who S.n).getD k 0 = x at *
  simp [h2, hn]
theorem seenP_succ (S : Fs) (who k : Nat) (hk : k < (lsL S.cl who S.n).length) : upd (seenP S who k) ((lsL S.cl who S.n).getD k 0) true = seenP S who (k + 1) := by
  obtain ⟨h1, h2⟩ := ls_at hk
  funext i
  have ht : (lsL S.cl who S.n).take (k + 1) = (lsL S.cl who S.n).take k ++ [(lsL S.cl who S.n).getD k 0] := by
    rw [List.take_add_one, List.getD_eq_getElem?_getD, List.getElem?_eq_getElem hk]
    rfl
  generalize (lsL S.cl who S.n).getD k 0 = x at *
  by_cases e : i = x
  · subst e
    rw [upd_self]
    unfold seenP
    rw [ht]
    simp [h2]
  · rw [upd_other _ _ _ e]
    unfold seenP
    rw [ht]
    simp [e]
/-- a row of what is seen -/
def SB (w : World) (g n : Nat) (P : Nat → Bool) : Prop := ∃ cs : Array Value, w.heap[g]? = some (.cells cs 4 (0, 0)) ∧ cs.size = n ∧ ∀ i, i < n → cs[i]? = some (.bool (P i))
theorem SB.lt {w : World} {g n : Nat} {P : Nat → Bool} (h : SB w g n P) : g < w.heap.size := by
  obtain ⟨cs, h, _⟩ := h
  exact lt_of_heap h
theorem SB.keep {w w' : World} {g n : Nat} {P : Nat → Bool} (h : SB w g n P) (hk : w'.heap[g]? = w.heap[g]?) : SB w' g n P := by
  obtain ⟨cs, h, h2⟩ := h
  exact ⟨cs, hk.trans h, h2⟩
theorem SB.c {w : World} {g n : Nat} {P : Nat → Bool} (h : SB w g n P) {i : Nat} (hi : i < n) : w.cell? ⟨g, i, none⟩ = some (.bool (P i)) := by
  obtain ⟨cs, h, _, h2⟩ := h
  rw [cell_at h, h2 i hi]
theorem SB.fz {w : World} {g n : Nat} {P : Nat → Bool} (h : SB w g n P) (o : Nat) : w.frozen? ⟨g, o, none⟩ = false := by
  obtain ⟨cs, h, _⟩ := h
  exact froz_at h o
theorem SB.congr {w : World} {g n : Nat} {P P' : Nat → Bool} (h : SB w g n P) (he : ∀ i, i < n → P i = P' i) : SB w g n P' := by
  obtain ⟨cs, h, h1, h2⟩ := h
  exact ⟨cs, h, h1, fun i hi => he i hi ▸ h2 i hi⟩
theorem SB.set {w : World} {g n : Nat} {P : Nat → Bool} (h : SB w g n P) {i : Nat} (hi : i < n) (v : Bool) : SB (w.setCell ⟨g, i, none⟩ (.bool v)) g n (upd P i v) ∧ Trn (fun b => b = g) w (w.setCell ⟨g, i, none⟩ (.bool v)) := by
  obtain ⟨cs, h, h1, h2⟩ := h
  refine ⟨⟨_, setCell_eq_setRow w g i cs 4 (0, 0) (.bool v) h ▸ setRow_heap w g cs _ 4 _ h, by simpa using h1, fun j hj => ?_⟩, trn_setCell (fun b => b = g) h rfl _ _⟩
  rw [Array.getElem?_setIfInBounds]
  by_cases e : j = i
  · subst e
    rw [if_pos rfl, if_pos (by omega), upd_self]
  · rw [if_neg (by omega), upd_other _ _ _ e]
    exact h2 j hj
theorem info4 : ∃ i, Try.prog.info? 4 = some i ∧ i.zero = some (.bool false) ∧ i.size = 1 ∧ i.bytes = 1 := by
  have h : (Try.prog.info? 4).map (fun i => (i.zero, i.size, i.bytes)) = some (some (.bool false), 1, 1) := by kernel_rfl
  obtain ⟨i, hi, hb⟩ := Option.map_eq_some_iff.1 h
  simp only [Prod.mk.injEq] at hb
  exact ⟨i, hi, hb.1, hb.2.1, hb.2.2⟩
theorem make_seen (w : World) (n : Nat) (hn : n ≤ 65536) : (Instr.makeSlice 60 (.int .i64 n) (.int .i64 n)).run Try.prog w = .ok (.slice (some ⟨w.heap.size, 0, none⟩) n n) (w.alloc (.cells (madeCells #[.bool false] n) 4)) := by
  obtain ⟨i, hi, hz, hs, hb⟩ := info4
  have := run_makeSlice (P := Try.prog) w 60 4 i _ Try.underlying60 hi hz .i64 .i64 n n (by omega) (by omega) (by rw [hs]; simp; omega) (by rw [hb]; omega) (by omega)
  rw [hs, Nat.mul_one] at this
  exact this
theorem SB.made (w : World) (n : Nat) : SB (w.alloc (.cells (madeCells #[.bool false] n) 4)) w.heap.size n (fun _ => false) := by
  refine ⟨_, heap_alloc_at w _, by simp [madeCells], fun i hi => ?_⟩
  simp [madeCells, Nat.mod_one, hi]

/-- between two acts -/
structure WA (w wr : World) (D n f : Nat) (S : Fs) : Prop where
  fx : FX w.heap.size wr D S
  fst : Fst S
  sn : S.n = n
  sf : S.fi = f
  bel : Below w.heap.size w wr
section
variable {w wr w' : World} {D n f : Nat} {S S' : Fs}
theorem WA.below (h : WA w wr D n f S) (hb : Below wr.heap.size wr w') : WA w w' D n f S := ⟨h.fx.below hb, h.fst, h.sn, h.sf, h.bel.trans (hb.mono h.bel.size)⟩
theorem WA.to (h : WA w wr D n f S) (hf : FX w.heap.size w' D S') (ht : Tu Of w.heap.size wr w') (h1 : Fst S') (h2 : S'.n = S.n) (h3 : S'.fi = S.fi) : WA w w' D n f S' := ⟨hf, h1, h2.trans h.sn, h3.trans h.sf, h.bel.trans (ht.below h.bel.size)⟩
theorem alS_n (S : Fs) (o : Int) : (alS S o).n = S.n ∧ (alS S o).fi = S.fi := by unfold alS; split <;> exact ⟨rfl, rfl⟩
theorem hoS_n (S : Fs) (f o : Int) : (hoS S f o).n = S.n ∧ (hoS S f o).fi = S.fi := by unfold hoS; split <;> exact ⟨rfl, rfl⟩
theorem frS_n (S : Fs) (f o : Int) : (frS S f o).n = S.n ∧ (frS S f o).fi = S.fi := by
  unfold frS
  split
  · split <;> exact ⟨rfl, rfl⟩
  · exact ⟨rfl, rfl⟩
theorem moS_n (S : Fs) (f a b : Int) : (moS S f a b).n = S.n ∧ (moS S f a b).fi = S.fi := by unfold moS; split <;> exact ⟨rfl, rfl⟩
theorem quS_n (S : Fs) (o q : Int) : (quS S o q).n = S.n ∧ (quS S o q).fi = S.fi := by unfold quS; split <;> exact ⟨rfl, rfl⟩
theorem WA.al (h : WA w wr D n f S) (o : Int) : Calls Try.prog 16 #[.pointer (some ⟨D, 0, none⟩), .int .i64 o] wr fun e w' => e = .returned (.tuple #[.int .i64 (alR S o), .int .i64 (alE S o)]) ∧ WA w w' D n f (alS S o) ∧ Tu Of w.heap.size wr w' :=
  (alloc_fx h.fx h.bel.size o).mono fun e w' ⟨he, hf, ht⟩ => ⟨he, h.to hf ht (alS_fst h.fst o) (alS_n S o).1 (alS_n S o).2, ht⟩
theorem WA.ho (h : WA w wr D n f S) (k o : Int) : Calls Try.prog 18 #[.pointer (some ⟨D, 0, none⟩), .int .i64 k, .int .i64 o] wr fun e w' => e = .returned (.int .i64 (hoE S k o)) ∧ WA w w' D n f (hoS S k o) :=
  (hold_fx h.fx k o).mono fun e w' ⟨he, hf, ht⟩ => ⟨he, h.to hf ht (hoS_fst h.fst k o) (hoS_n S k o).1 (hoS_n S k o).2⟩
theorem WA.fr (h : WA w wr D n f S) (k o : Int) : Calls Try.prog 17 #[.pointer (some ⟨D, 0, none⟩), .int .i64 k, .int .i64 o] wr fun e w' => e = .returned (.tuple #[.bool (frB S k o), .int .i64 (errL S k o o)]) ∧ WA w w' D n f (frS S k o) :=
  (free_fx h.fx k o).mono fun e w' ⟨he, hf, ht⟩ => ⟨he, h.to hf ht (frS_fst h.fst k o) (frS_n S k o).1 (frS_n S k o).2⟩
theorem WA.mo (h : WA w wr D n f S) (k a b : Int) : Calls Try.prog 19 #[.pointer (some ⟨D, 0, none⟩), .int .i64 k, .int .i64 a, .int .i64 b] wr fun e w' => e = .returned (.int .i64 (moE S k a b)) ∧ WA w w' D n f (moS S k a b) :=
  (move_fx h.fx h.bel.size k a b).mono fun e w' ⟨he, hf, ht⟩ => ⟨he, h.to hf ht (moS_fst h.fst k a b) (moS_n S k a b).1 (moS_n S k a b).2⟩
theorem WA.qu (h : WA w wr D n f S) (o q : Int) (hq : q ≤ 9223372036854775807) : Calls Try.prog 20 #[.pointer (some ⟨D, 0, none⟩), .int .i64 o, .int .i64 q] wr fun e w' => e = .returned (.int .i64 (quE o q)) ∧ WA w w' D n f (quS S o q) :=
  (quota_fx h.fx o q hq).mono fun e w' ⟨he, hf, ht⟩ => ⟨he, h.to hf ht (quS_fst h.fst o q) (quS_n S o q).1 (quS_n S o q).2⟩
/-- what Owner tells of the frame that Alloc gave -/
theorem al_own {o : Int} (h : Fst S) (e : alE S o = 0) : (S.fi : Int) ≤ alR S o ∧ owO (alS S o) (alR S o) = o ∧ owT (alS S o) (alR S o) = 1 ∧ owK (alS S o) (alR S o) = true := by
  obtain ⟨a, rfl, h1, h2, h3⟩ := alE_ok e
  obtain ⟨l1, l2, l3⟩ := S.lst_of h3
  have er : alR S a = S.lst := by unfold alR; rw [if_pos e]
  have es : alS S a = S.set S.lst a 1 := by unfold alS; rw [if_pos e, Int.toNat_natCast]
  rw [er, es]
  have hk : owK (S.set S.lst a 1) S.lst = true := by
    unfold owK
    rw [Int.toNat_natCast, show (S.set S.lst a 1).cl S.lst = a from upd_self _ _ _, decide_eq_true (show (0 : Int) ≤ (S.lst : Int) ∧ (S.lst : Int) < ((S.set S.lst a 1).n : Int) from ⟨by omega, by show (S.lst : Int) < S.n; omega⟩), decide_eq_true (show a ≠ 17 by omega)]
    rfl
  refine ⟨?_, ?_, ?_, hk⟩
  · rcases Nat.lt_or_ge S.lst S.fi with hl | hl
    · have := h _ hl
      omega
    · omega
  · unfold owO
    rw [hk, if_pos rfl, Int.toNat_natCast, show (S.set S.lst a 1).cl S.lst = a from upd_self _ _ _]
  · unfold owT
    rw [hk, if_pos rfl, Int.toNat_natCast, show (S.set S.lst a 1).ti S.lst = 1 from upd_self _ _ _]
    rfl
/-- while an owner's frames are gone through -/
structure WI (w wr : World) (D n f : Nat) (S : Fs) (g : Nat) (P : Nat → Bool) : Prop where
  wa : WA w wr D n f S
  sb : SB wr g n P
  gw : w.heap.size ≤ g
theorem WI.below {g : Nat} {P : Nat → Bool} (h : WI w wr D n f S g P) (hb : Below wr.heap.size wr w') : WI w w' D n f S g P := ⟨h.wa.below hb, h.sb.keep (hb.block g h.sb.lt), h.gw⟩
theorem WI.set {g : Nat} {P : Nat → Bool} (h : WI w wr D n f S g P) {i : Nat} (hi : i < n) : WI w (wr.setCell ⟨g, i, none⟩ (.bool true)) D n f S g (upd P i true) ∧ Trn (fun b => b = g) wr (wr.setCell ⟨g, i, none⟩ (.bool true)) := by
  obtain ⟨s1, t1⟩ := h.sb.set hi true
  have hb := h.wa.bel
  have hg := h.gw
  refine ⟨⟨⟨h.wa.fx.keep fun k o ho hof => (t1.block k (lt_of_heap ho) (fun e => ?_)).trans ho, h.wa.fst, h.wa.sn, h.wa.sf, t1.os.trans hb.os, t1.tape.trans hb.tape, t1.output.trans hb.output, Nat.le_trans hb.size t1.size, fun k hk => (t1.block k (Nat.lt_of_lt_of_le hk hb.size) (by omega)).trans (hb.block k hk)⟩, s1, hg⟩, t1⟩
  subst e
  obtain ⟨cs, h1, _⟩ := h.sb
  rw [h1] at ho
  cases ho
  rcases hof with hof | hof <;> cases hof
theorem LR.turned {base g : Nat} {v : Value} {xs : List Nat} (h : LR base wr v xs) (t : Trn (fun b => b = g) wr w') (hg : g < base) : LR base w' v xs := by
  obtain ⟨h1, ⟨rfl, h0⟩ | ⟨k, c, cur, rfl, hb, h2, h3⟩⟩ := h
  · exact ⟨h1, .inl ⟨rfl, h0⟩⟩
  · exact ⟨h1, .inr ⟨k, c, cur, rfl, hb, (t.block k (lt_of_heap h2) (by omega)).trans h2, h3⟩⟩
theorem WA.cnt (h : WA w wr D n f S) (a : Nat) (ha : a ≤ 16) : Calls Try.prog 12 #[.pointer (some ⟨D, 0, none⟩), .int .i64 a] wr fun e w' => e = .returned (.tuple #[.int .i64 (S.ct a), .int .i64 (S.ct 17)]) ∧ Below wr.heap.size wr w' := by
  obtain ⟨r, C, s, hf⟩ := h.fx
  have := count_fr hf a
  rwa [show own S a = S.ct a by unfold own; rw [if_pos ⟨by omega, by omega⟩, Int.toNat_natCast]] at this
/-- Owner of one of an owner's frames -/
theorem WA.ow (h : WA w wr D n f S) {a k : Nat} (ha : a ≤ 16) (hk : k < (lsL S.cl a S.n).length) : Calls Try.prog 14 #[.pointer (some ⟨D, 0, none⟩), .int .i64 ((lsL S.cl a S.n).getD k 0 : Nat)] wr fun e w' => (∃ t : Int, e = .returned (.tuple #[.int .i64 a, .int .i64 t, .bool true])) ∧ Below wr.heap.size wr w' := by
  obtain ⟨h1, h2⟩ := ls_at hk
  have hK : owK S ((lsL S.cl a S.n).getD k 0 : Nat) = true := by
    unfold owK
    rw [Int.toNat_natCast, h2, decide_eq_true (by omega), decide_eq_true (by omega)]
    rfl
  have hO : owO S ((lsL S.cl a S.n).getD k 0 : Nat) = a := by
    unfold owO
    rw [hK, if_pos rfl, Int.toNat_natCast, h2]
  have C := owner_fx h.fx ((lsL S.cl a S.n).getD k 0 : Nat)
  rw [hK, hO] at C
  exact C.mono fun e w' ⟨he, hb⟩ => ⟨⟨_, he⟩, hb⟩
end
end Go.Proofs.Ytcnoonhcofnghaa
