/-
  What DiskBack leans on: a disk and a memory in one world, and what its requests leave.
-/
import Derived.Test.YtkadpmmielegfaaZe
namespace Go.Proofs.Ytkadpmmielegfaa
open Go.RowKit Go.Maps
set_option linter.unusedVariables false
set_option maxRecDepth 20000

/-- where a disk and a memory lie: behind the world that the call began in -/
structure St (N0 : Nat) (w : World) (D m b g : Nat) : Prop where
  lD : w.heap.size ≤ D
  lm : w.heap.size ≤ m
  lb : w.heap.size ≤ b
  lg : w.heap.size ≤ g
  hg : g < N0
  sz : w.heap.size ≤ N0
/-- a disk and a memory in one world -/
structure BS (N0 : Nat) (w y : World) (D m b g B : Nat) (ps : List Rq) (zs ms : List Int) : Prop where
  dk : ∃ v, DK N0 y D m B v ps zs
  mm : MM y b g ms
  bel : Below w.heap.size w y
  sz : N0 ≤ y.heap.size
theorem BS.below {N0 : Nat} {w y y' : World} {D m b g B : Nat} {ps : List Rq} {zs ms : List Int} (h : BS N0 w y D m b g B ps zs ms) (hb : Below y.heap.size y y') : BS N0 w y' D m b g B ps zs ms := by
  obtain ⟨⟨v, hv⟩, mm, bel, sz⟩ := h
  exact ⟨⟨v, hv.below hb⟩, mm.below hb, bel.trans (hb.mono bel.size), by have := hb.size; omega⟩
theorem BS.submit {N0 : Nat} {w y : World} {D m b g B : Nat} {ps : List Rq} {zs ms : List Int} (s : St N0 w D m b g) (h : BS N0 w y D m b g B ps zs ms) (r : Rq) :
    Calls Try.prog 12 #[.pointer (some ⟨D, 0, none⟩), rv r] y fun e y' => e = .returned (.int .i64 (subE B ps r)) ∧ BS N0 w y' D m b g B (subP B ps r) zs ms := by
  obtain ⟨⟨v, hv⟩, mm, bel, sz⟩ := h
  refine (submit_dk N0 D m B v ps zs r y hv sz).mono ?_
  rintro e y' ⟨rfl, v', h', t⟩
  exact ⟨rfl, ⟨v', h'⟩, mm.trn t (not_sd hv mm.cell (by decide) (by decide)) (not_sd hv mm.row (by decide) (by decide)), below_sd bel hv t s.lD s.sz (by have := s.sz; omega), by have := t.size; omega⟩
theorem BS.complete {N0 : Nat} {w y : World} {D m b g B : Nat} {ps : List Rq} {zs ms : List Int} (s : St N0 w D m b g) (h : BS N0 w y D m b g B ps zs ms) (k : Nat) (hk : k < ps.length) (h256 : 256 ≤ ms.length) :
    Calls Try.prog 14 #[.pointer (some ⟨D, 0, none⟩), .pointer (some ⟨b, 0, none⟩), .int .i64 k] y fun e y' => e = .returned (.tuple #[rv ps[k], .int .i64 (trE (ms.length / 256) ps[k])]) ∧ BS N0 w y' D m b g B (ps.eraseIdx k) (trZ zs ms ps[k]) (trM zs ms ps[k]) := by
  obtain ⟨⟨v, hv⟩, mm, bel, sz⟩ := h
  refine (complete_yes N0 D m B b g v ps zs ms k hk y hv mm h256 sz s.hg).mono ?_
  rintro e y' ⟨rfl, v', h', m', t⟩
  exact ⟨rfl, ⟨v', h'⟩, m', below_sc bel hv t s.lD s.lm s.lg s.sz (by have := s.sz; omega), by have := t.size; omega⟩
/-- the same over a new block, which stays -/
theorem BS.complete_top {N0 : Nat} {w y : World} {D m b g B : Nat} {ps : List Rq} {zs ms : List Int} (s : St N0 w D m b g) (h : BS N0 w y D m b g B ps zs ms) (o : Obj) (k : Nat) (hk : k < ps.length) (h256 : 256 ≤ ms.length) :
    Calls Try.prog 14 #[.pointer (some ⟨D, 0, none⟩), .pointer (some ⟨b, 0, none⟩), .int .i64 k] (y.alloc o) fun e y' => e = .returned (.tuple #[rv ps[k], .int .i64 (trE (ms.length / 256) ps[k])]) ∧ BS N0 w y' D m b g B (ps.eraseIdx k) (trZ zs ms ps[k]) (trM zs ms ps[k]) ∧ y'.heap[y.heap.size]? = some o := by
  obtain ⟨⟨v, hv⟩, mm, bel, sz⟩ := h
  have hb : Below y.heap.size y (y.alloc o) := (Below.refl _ _).alloc (Nat.le_refl _) _
  refine (complete_yes N0 D m B b g v ps zs ms k hk (y.alloc o) (hv.below hb) (mm.below hb) h256 (by simp; omega) s.hg).mono ?_
  rintro e y' ⟨rfl, v', h', m', t⟩
  have hz := s.sz
  refine ⟨rfl, ⟨⟨v', h'⟩, m', below_sc (bel.trans (hb.mono bel.size)) (hv.below hb) t s.lD s.lm s.lg s.sz (by simp; omega), by have := t.size; simp at this; omega⟩, (t.block y.heap.size (by simp) ?_).trans (heap_alloc_at _ _)⟩
  have h1 := hv.lt
  have h2 := hv.mlt
  have h3 := mm.glt
  rintro (e | e | e | e)
  · omega
  · have := (hv.ord.lt _ e).2; omega
  · omega
  · omega
theorem BS.mput {N0 : Nat} {w y : World} {D m b g B : Nat} {ps : List Rq} {zs ms ys : List Int} (s : St N0 w D m b g) (h : BS N0 w y D m b g B ps zs ms) (t : Int) (a : Option Addr) (n c : Nat) (hs : SL y a n ys) (hn : n < 9223372036854775808) (ht : 0 ≤ t) (ht' : t < 18446744073709551616) :
    Calls Try.prog 18 #[.pointer (some ⟨b, 0, none⟩), .int .u64 t, .slice a n c] y fun e y' => e = .returned (.int .i64 (plcE ms.length t ys.length)) ∧ BS N0 w y' D m b g B ps zs (putV ms t ys) := by
  obtain ⟨⟨v, hv⟩, mm, bel, sz⟩ := h
  refine (mput_mm b g ms ys t a n c y mm hs hn ht ht').mono ?_
  rintro e y' ⟨rfl, m', k⟩
  exact ⟨rfl, ⟨v, hv.bytesTurned mm.row s.hg k⟩, m', bel.grown k (by have := s.sz; omega) (by intro q h; cases h; exact s.lg), by have := k.size; omega⟩

/-- what is written first: its bytes, and 0 behind them -/
def pad (ys : List Int) : List Int := ys ++ List.replicate (256 - ys.length) 0
def ms1 (ys : List Int) : List Int := splice (List.replicate (3 * 256) 0) 0 ys
def zs1 (n : Nat) (ys : List Int) : List Int := splice (List.replicate (8 * 256) 0) (n * 256) (pad ys)
def r1 (n : Nat) : Rq := ⟨1, true, n, 0⟩
def r2 (n : Nat) : Rq := ⟨2, false, 7 - (n : Int), 2⟩
def r3 (n : Nat) : Rq := ⟨1, false, n, 1⟩
theorem pad_len (ys : List Int) (h : ys.length ≤ 256) : (pad ys).length = 256 := by simp [pad]; omega
theorem pad_getD (ys : List Int) (i : Nat) : (pad ys).getD i 0 = ys.getD i 0 := by
  unfold pad
  by_cases h : i < ys.length
  · simp [List.getD, List.getElem?_append_left h]
  · have e : (List.replicate (256 - ys.length) (0 : Int)).getD (i - ys.length) 0 = 0 := zeros_getD _ _
    simp only [List.getD] at e ⊢
    rw [List.getElem?_append_right (by omega), e, List.getElem?_eq_none (by omega)]
    rfl
theorem pad_bytes {ys : List Int} (h : Bytes ys) : Bytes (pad ys) := fun i => by rw [pad_getD]; exact h i
theorem ms1_len (ys : List Int) (h : ys.length ≤ 256) : (ms1 ys).length = 768 := by
  rw [ms1, length_splice _ _ _ (by simp; omega)]
  simp
theorem ms1_getD (ys : List Int) (h : ys.length ≤ 256) (i : Nat) : (ms1 ys).getD i 0 = ys.getD i 0 := by
  rw [ms1, splice_getD _ _ _ _ (by simp; omega)]
  split
  · rw [Nat.sub_zero]
  · rw [zeros_getD]
    simp [List.getD, List.getElem?_eq_none (show ys.length ≤ i by omega)]
theorem zs1_len (n : Nat) (ys : List Int) (h : ys.length ≤ 256) (hn : n < 8) : (zs1 n ys).length = 8 * 256 := by
  rw [zs1, length_splice _ _ _ (by simp [pad_len ys h]; omega)]
  simp
theorem piece_getD (xs : List Int) (k i : Nat) (hi : i < 256) : (piece xs k).getD i 0 = xs.getD (k * 256 + i) 0 := by
  simp [piece, List.getD, List.getElem?_take_of_lt hi, List.getElem?_drop]
theorem ms1_head (ys : List Int) (h : ys.length ≤ 256) : piece (ms1 ys) 0 = pad ys := by
  have hl : (piece (ms1 ys) 0).length = 256 := piece_len (B := 3) (ms1_len ys h) (by omega)
  refine eq_of_getD (by rw [hl, pad_len ys h]) (fun i hi => ?_)
  rw [piece_getD _ _ _ (by omega), ms1_getD ys h, pad_getD, Nat.zero_mul, Nat.zero_add]
theorem zs1_piece (n : Nat) (ys : List Int) (h : ys.length ≤ 256) (hn : n < 8) (k : Nat) (hk : k < 8) : piece (zs1 n ys) k = if k = n then pad ys else z256 := by
  rw [zs1, piece_splice (B := 8) (by simp) hn (pad_len ys h) hk, piece_zeros 8 k hk]
/-- zeros where zeros are -/
theorem splice_same (ms ys : List Int) (o : Nat) (ho : o + ys.length ≤ ms.length) (h : ∀ i, i < ys.length → ms.getD (o + i) 0 = ys.getD i 0) : splice ms o ys = ms := by
  refine eq_of_getD (length_splice _ _ _ ho) (fun i hi => ?_)
  rw [splice_getD _ _ _ _ ho]
  split
  · rw [← h (i - o) (by omega)]
    congr 1
    omega
  · rfl
theorem ms1_two (ys : List Int) (h : ys.length ≤ 256) : splice (ms1 ys) 512 z256 = ms1 ys := by
  refine splice_same _ _ _ (by rw [ms1_len ys h]; simp [z256]) (fun i hi => ?_)
  rw [ms1_getD ys h]
  show _ = (List.replicate 256 (0 : Int)).getD i 0
  rw [zeros_getD, List.getD, List.getElem?_eq_none (by omega)]
  rfl
theorem tr1e (n : Nat) (ys : List Int) (h : ys.length ≤ 256) : trE ((ms1 ys).length / 256) (r1 n) = 0 := by rw [ms1_len ys h]; rfl
theorem tr2e (n : Nat) (ys : List Int) (h : ys.length ≤ 256) : trE ((ms1 ys).length / 256) (r2 n) = 0 := by rw [ms1_len ys h]; rfl
theorem tr3e (n : Nat) (ys : List Int) (h : ys.length ≤ 256) : trE ((ms1 ys).length / 256) (r3 n) = 0 := by rw [ms1_len ys h]; rfl
theorem tr1z (n : Nat) (ys : List Int) (h : ys.length ≤ 256) : trZ (List.replicate (8 * 256) 0) (ms1 ys) (r1 n) = zs1 n ys := by
  rw [trZ, if_pos (by rw [ms1_len ys h]; simp [r1])]
  show splice _ _ (piece (ms1 ys) 0) = _
  rw [ms1_head ys h]
  simp [zs1, r1]
theorem tr1m (n : Nat) (zs ms : List Int) : trM zs ms (r1 n) = ms := by rw [trM, if_neg (by simp [r1])]
theorem tr2z (n : Nat) (zs ms : List Int) : trZ zs ms (r2 n) = zs := by rw [trZ, if_neg (by simp [r2])]
theorem tr3z (n : Nat) (zs ms : List Int) : trZ zs ms (r3 n) = zs := by rw [trZ, if_neg (by simp [r3])]
theorem tr2m (n : Nat) (hn : n < 8) (zs ys : List Int) (h : ys.length ≤ 256) (hz : piece zs (7 - n) = z256) : trM zs (ms1 ys) (r2 n) = ms1 ys := by
  rw [trM, if_pos (by rw [ms1_len ys h]; simp [r2])]
  have e : (r2 n).b.toNat = 7 - n := by simp [r2]
  rw [e, hz]
  exact ms1_two ys h
def ms3 (ys : List Int) : List Int := splice (ms1 ys) 256 (pad ys)
theorem tr3m (n : Nat) (hn : n < 8) (ys : List Int) (h : ys.length ≤ 256) : trM (zs1 n ys) (ms1 ys) (r3 n) = ms3 ys := by
  rw [trM, if_pos (by rw [ms1_len ys h]; simp [r3])]
  have e : (r3 n).b.toNat = n := by simp [r3]
  rw [e, zs1_piece n ys h hn n hn, if_pos rfl]
  rfl
theorem ms3_eq (ys : List Int) (h : ys.length ≤ 256) : ms3 ys = pad ys ++ pad ys ++ z256 := by
  have hp := pad_len ys h
  have hl : (ms3 ys).length = 768 := by rw [ms3, length_splice _ _ _ (by rw [ms1_len ys h]; omega), ms1_len ys h]
  refine eq_of_getD (by simp [hl, hp, z256]) (fun i hi => ?_)
  rw [ms3, splice_getD _ _ _ _ (by rw [ms1_len ys h]; omega), hp, ms1_getD ys h]
  simp only [List.getD] at *
  by_cases h1 : i < 256
  · rw [if_neg (by omega), List.append_assoc, List.getElem?_append_left (by omega)]
    have := pad_getD ys i
    simp only [List.getD] at this
    exact this.symm
  · by_cases h2 : i < 512
    · rw [if_pos (by omega), List.getElem?_append_left (by simp; omega), List.getElem?_append_right (by omega), hp]
    · rw [if_neg (by omega), List.getElem?_append_right (by simp; omega)]
      have e : (List.replicate 256 (0 : Int)).getD (i - (pad ys ++ pad ys).length) 0 = 0 := zeros_getD _ _
      simp only [List.getD] at e
      show _ = (List.replicate 256 (0 : Int))[_]?.getD 0
      rw [e, List.getElem?_eq_none (by omega)]
      rfl
theorem sub1 (n : Nat) (hn : n < 8) : subE 8 [] (r1 n) = 0 ∧ subP 8 [] (r1 n) = [r1 n] := by
  have e : subE 8 [] (r1 n) = 0 := by simp [subE, r1]; omega
  exact ⟨e, by simp [subP, e]⟩
theorem sub2 (n : Nat) (hn : n < 8) : subE 8 [r1 n] (r2 n) = 0 ∧ subP 8 [r1 n] (r2 n) = [r1 n, r2 n] := by
  have e : subE 8 [r1 n] (r2 n) = 0 := by simp [subE, r1, r2]; omega
  exact ⟨e, by simp [subP, e]⟩
theorem sub3 (n : Nat) (hn : n < 8) : subE 8 [] (r3 n) = 0 ∧ subP 8 [] (r3 n) = [r3 n] := by
  have e : subE 8 [] (r3 n) = 0 := by simp [subE, r3]; omega
  exact ⟨e, by simp [subP, e]⟩
theorem put1 (ys : List Int) (h : ys.length ≤ 256) : plcE (List.replicate (3 * 256) (0 : Int)).length 0 ys.length = 0 ∧ putV (List.replicate (3 * 256) 0) 0 ys = ms1 ys := by
  have e : plcE (List.replicate (3 * 256) (0 : Int)).length 0 ys.length = 0 := by simp [plcE]; omega
  exact ⟨e, by rw [putV, if_pos e]; rfl⟩
/-- the first two requests, in either order -/
theorem first_two {N0 : Nat} {w y : World} {D m b g n : Nat} {ys : List Int} (s : St N0 w D m b g) (h : BS N0 w y D m b g 8 [r1 n, r2 n] (List.replicate (8 * 256) 0) (ms1 ys)) (hn : n < 8) (hy : ys.length ≤ 256) (K : Nat) (hK : K ≤ 1) :
    ∃ (p q : Rq) (zsK : List Int), p.i = 1 + (K : Int) ∧ q.i = 2 - (K : Int) ∧
      (Calls Try.prog 14 #[.pointer (some ⟨D, 0, none⟩), .pointer (some ⟨b, 0, none⟩), .int .i64 K] y fun e y' => e = .returned (.tuple #[rv p, .int .i64 0]) ∧ BS N0 w y' D m b g 8 [q] zsK (ms1 ys)) ∧
      ∀ y' o, BS N0 w y' D m b g 8 [q] zsK (ms1 ys) → Calls Try.prog 14 #[.pointer (some ⟨D, 0, none⟩), .pointer (some ⟨b, 0, none⟩), .int .i64 0] (y'.alloc o) fun e y'' => e = .returned (.tuple #[rv q, .int .i64 0]) ∧ BS N0 w y'' D m b g 8 [] (zs1 n ys) (ms1 ys) ∧ y''.heap[y'.heap.size]? = some o := by
  have hl := ms1_len ys hy
  have p7 : piece (zs1 n ys) (7 - n) = z256 := by rw [zs1_piece n ys hy hn (7 - n) (by omega), if_neg (by omega)]
  have q7 : piece (List.replicate (8 * 256) 0) (7 - n) = z256 := piece_zeros 8 _ (by omega)
  rcases (by omega : K = 0 ∨ K = 1) with rfl | rfl
  · refine ⟨r1 n, r2 n, zs1 n ys, rfl, rfl, ?_, fun y' o h' => ?_⟩
    · have C := h.complete s 0 (by simp) (by omega)
      simp only [List.getElem_cons_zero, List.eraseIdx_cons_zero] at C
      rw [tr1e n ys hy, tr1z n ys hy, tr1m] at C
      exact C
    · have C := h'.complete_top s o 0 (by simp) (by omega)
      simp only [List.getElem_cons_zero, List.eraseIdx_cons_zero] at C
      rw [tr2e n ys hy, tr2z, tr2m n hn _ ys hy p7] at C
      exact C
  · refine ⟨r2 n, r1 n, List.replicate (8 * 256) 0, rfl, rfl, ?_, fun y' o h' => ?_⟩
    · have C := h.complete s 1 (by simp) (by omega)
      simp only [List.getElem_cons_zero, List.getElem_cons_succ, List.eraseIdx_cons_zero, List.eraseIdx_cons_succ] at C
      rw [tr2e n ys hy, tr2z, tr2m n hn _ ys hy q7] at C
      exact C
    · have C := h'.complete_top s o 0 (by simp) (by omega)
      simp only [List.getElem_cons_zero, List.eraseIdx_cons_zero] at C
      rw [tr1e n ys hy, tr1z n ys hy, tr1m] at C
      exact C
theorem third {N0 : Nat} {w y : World} {D m b g n : Nat} {ys : List Int} (s : St N0 w D m b g) (h : BS N0 w y D m b g 8 [r3 n] (zs1 n ys) (ms1 ys)) (hn : n < 8) (hy : ys.length ≤ 256) :
    Calls Try.prog 14 #[.pointer (some ⟨D, 0, none⟩), .pointer (some ⟨b, 0, none⟩), .int .i64 0] y fun e y' => e = .returned (.tuple #[rv (r3 n), .int .i64 0]) ∧ BS N0 w y' D m b g 8 [] (zs1 n ys) (ms3 ys) := by
  have hl := ms1_len ys hy
  have C := h.complete s 0 (by simp) (by omega)
  simp only [List.getElem_cons_zero, List.eraseIdx_cons_zero] at C
  rw [tr3e n ys hy, tr3z, tr3m n hn ys hy] at C
  exact C
/-- what is behind the bytes: zeros up to 256 -/
theorem zeros_pad {w1 : World} {base l : Nat} {v1 : Value} {ys : List Int} (hown : w1.ownsRow base 5 1 v1 (0 + l) (([] ++ ys).map (Value.int .u8))) (hl : l ≤ 256) (hy : ys.length = l) (hb : Bytes ys) (hbase : base ≤ w1.heap.size) :
    ∃ a2 c2 w2, (Builtin.append_ #[39, 3] 39 #[v1, .int .i64 (256 - (l : Int))]).run Try.prog w1 = .ok (.slice a2 256 c2) w2 ∧ SL w2 a2 256 (pad ys) ∧ w1.grownBy w2 v1.ownBlock := by
  rw [Nat.zero_add, List.nil_append] at hown
  obtain ⟨v2, w2, hr, ho, hg⟩ := run_zeros_own 39 base l (256 - l) v1 ys hown (by omega) hbase
  rw [show ((256 - l : Nat) : Int) = 256 - (l : Int) by omega] at hr
  have e : ys ++ List.replicate (256 - l) 0 = pad ys := by rw [pad, hy]
  rw [e, show l + (256 - l) = 256 by omega] at ho
  obtain ⟨a, c, rfl, hs⟩ := own_sl ho (pad_bytes hb)
  exact ⟨a, c, w2, hr, hs, hg⟩
theorem str_append (xs ys : List Int) : strOfNums xs ++ strOfNums ys = strOfNums (xs ++ ys) := by
  apply ByteArray.ext
  simp [strOfNums, ByteArray.data_append]
end Go.Proofs.Ytkadpmmielegfaa
