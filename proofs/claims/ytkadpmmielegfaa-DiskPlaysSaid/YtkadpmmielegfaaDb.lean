/-
  What Pending, Block, lay and Put of a disk do.
-/
import Derived.Test.YtkadpmmielegfaaDs
namespace Go.Proofs.Ytkadpmmielegfaa
open Go.RowKit Go.Maps
set_option linter.unusedVariables false
set_option maxRecDepth 20000

/-- copy of elements of several cells into a row -/
theorem run_copy_rows {P : Program} (w : World) (dT sT ty elem : TypeId) (size g o n dLen dCap : Nat) (a : Addr) (sLen sCap : Nat) (cur : Array Value) (t : TypeId) (cs : List Value)
    (hu : P.underlying dT = some (.slice elem)) (hs : (P.info? elem).map (·.size) = some size)
    (hg : w.heap[g]? = some (.cells cur t (0, 0))) (hn : Nat.min sLen dLen = n) (hc : cs.length = n * size)
    (hsrc : ∀ j v, cs[j]? = some v → w.cell? (a.add j) = some v) (hfit : o + cs.length ≤ cur.size) (h1 : ∀ v ∈ cs, v.oneCell' = true) :
    (Builtin.copy_ #[dT, sT] ty #[.slice (some ⟨g, o, none⟩) dLen dCap, .slice (some a) sLen sCap]).run P w =
      .ok (goInt n) (w.setRow g (cur.toList.take o ++ cs ++ cur.toList.drop (o + cs.length)).toArray) := by
  have hl := run_loadCells_list (P := P) w a cs hsrc
  have hst := run_storeCells_at P g o t cs 0 cur w hg (by simpa using hfit) h1
  cases hq : P.info? elem with
  | none => simp [hq] at hs
  | some i =>
    have hi : i.size = size := by simpa [hq] using hs
    rw [hc] at hl
    simp [Builtin.copy_, run_underlying hu, Builtin.lenOf, Builtin.firstCells, sizeOf, typeInfo, hq, hi, hn, hl, hst]
theorem size38 : (Try.prog.info? 38).map (·.size) = some 4 := by kernel_rfl
theorem made_size (n : Nat) : (madeCells (Value.agg (rc q0).toArray).cells (n * 4)).size = n * 4 := by simp [madeCells]
/-- the run of make([]Request, n) -/
theorem run_make_rq (n : Nat) (hn : n ≤ 1000) (w : World) : (Instr.makeSlice 64 (.int .i64 (n : Int)) (.int .i64 (n : Int))).run Try.prog w = .ok (.slice (some ⟨w.heap.size, 0, none⟩) n n) (w.alloc (.cells (madeCells (Value.agg (rc q0).toArray).cells (n * 4)) 38)) := by
  obtain ⟨i0, hi, hz, hs, hby⟩ := TS.info (T := 38) (S := 64) (.inl ⟨rfl, rfl⟩)
  have hb : (i0.bytes : Int) * (n : Int) ≤ 200 * 1000 := by
    have : i0.bytes * n ≤ 200 * 1000 := Nat.mul_le_mul hby hn
    omega
  have hr := run_make (P := Try.prog) w 64 38 i0 _ Try.underlying64 hi hz .i64 .i64 n n (by omega) (Int.le_refl _) (by omega) (by omega)
  simp only [Int.toNat_natCast] at hr
  rw [hr, hs]
/-- copy of what is pending into a new row -/
theorem copy_pend {N0 B' : Nat} {w : World} {v : Value} {ps : List Rq} (g : Nat) (cur : Array Value) (ho : Ord 38 N0 w v ps) (hg : w.heap[g]? = some (.cells cur 38 (0, 0))) (hc : cur.size = ps.length * 4) (hne : v.ownBlock ≠ some g) (hp : ps.length ≤ 1000) :
    ∃ w', (Builtin.copy_ #[64, 64] 3 #[.slice (some ⟨g, 0, none⟩) ps.length ps.length, v]).run Try.prog w = .ok (goInt ps.length) w' ∧ Row 38 w' g ps.length ps.length (fun i => ps.getD i q0) ∧ w.grownBy w' (some g) := by
  rcases ho with ⟨rfl, rfl⟩ | ⟨gg, c, rfl, hB, hr⟩
  · refine ⟨w, run_copy_nil (P := Try.prog) w 64 64 3 38 ⟨g, 0, none⟩ 0 0 Try.underlying64 (by rw [size38]; rfl), ⟨cur, hg, hc, Nat.le_refl _, by simp, fun i hi => absurd hi (by simp)⟩, grown_refl _ _⟩
  · have hsrc := hr.cells 0 ps.length (by omega)
    simp only [List.drop_zero, List.take_length, Nat.zero_mul, Nat.zero_add] at hsrc
    have hl := len4 ps
    have hrun := run_copy_rows (P := Try.prog) w 64 64 3 38 4 g 0 ps.length ps.length ps.length ⟨gg, 0, none⟩ ps.length c cur 38 (ps.flatMap rc) Try.underlying64 size38 hg (Nat.min_self _) hl
      (fun j u hu => by rw [add_at, Nat.zero_add]; exact hsrc j u hu) (by omega) (one4 ps)
    have hk : w.grownBy (w.setRow g (cur.toList.take 0 ++ ps.flatMap rc ++ cur.toList.drop (0 + (ps.flatMap rc).length)).toArray) (some g) := ⟨rfl, rfl, rfl, by simp [World.setRow], fun k hk hne => setRow_other w g k _ (fun e => hne (by rw [e]))⟩
    refine ⟨_, hrun, ⟨_, setRow_heap w g _ _ 38 _ hg, ?_, Nat.le_refl _, by unfold maxLen; omega, fun i hi => ?_⟩, hk⟩
    · simp [hl]; omega
    · have q : ∀ j, j < 4 → ((cur.toList.take 0 ++ ps.flatMap rc ++ cur.toList.drop (0 + (ps.flatMap rc).length)).toArray)[i * 4 + j]? = (rc ps[i])[j]? := fun j hj => by
        rw [← flat4 ps i j hi hj, List.getElem?_toArray, List.take_zero, List.nil_append, List.getElem?_append_left (by omega)]
      simp only [List.getD, List.getElem?_eq_getElem hi, Option.getD_some]
      exact ⟨q 0 (by omega), q 1 (by omega), q 2 (by omega), q 3 (by omega)⟩

theorem pending_dk (N0 D m B : Nat) (v : Value) (ps : List Rq) (zs : List Int) (w : World) (h : DK N0 w D m B v ps zs) :
    Calls Try.prog 25 #[.pointer (some ⟨D, 0, none⟩)] w fun e w' => ∃ g, e = .returned (.slice (some ⟨g, 0, none⟩) ps.length ps.length) ∧ Row 38 w' g ps.length ps.length (fun i => ps.getD i q0) ∧ w.heap.size ≤ g ∧ Below w.heap.size w w' := by
  have C := dmade_dk N0 D m B v ps zs w h
  have c2 := h.c2
  have hl := h.lt
  have pn := h.pn
  obtain ⟨a, c, hv, hc1, hc2⟩ := h.ord.form
  have hmk := run_make_rq ps.length (by omega) w
  have hb : Below w.heap.size w (w.alloc (.cells (madeCells (Value.agg (rc q0).toArray).cells (ps.length * 4)) 38)) := (Below.refl _ _).alloc (Nat.le_refl _) _
  have h1 := h.below hb
  have d2 := h1.c2
  have ql := h1.lt
  have hne : v.ownBlock ≠ some w.heap.size := fun e => by have := (h.ord.lt _ e).2; omega
  obtain ⟨w3, hcp, hrow, hgr⟩ := copy_pend (B' := 0) w.heap.size _ h1.ord (heap_alloc_at _ _) (made_size _) hne (by omega)
  have HF : Hid (Row 38 w3 w.heap.size ps.length ps.length (fun i => ps.getD i q0) ∧ Below w.heap.size w w3) := ⟨hrow, hb.grown hgr hb.size (by intro k h; cases h; exact Nat.le_refl _)⟩
  obtain ⟨w1, hw1⟩ : ∃ w1, w1 = w.alloc (.cells (madeCells (Value.agg (rc q0).toArray).cells (ps.length * 4)) 38) := ⟨_, rfl⟩
  rw [← hw1] at hmk hcp d2 ql
  rw [hv] at c2 d2 hcp
  clear h h1 hb hrow hgr hw1 hne
  generalize (fun i => ps.getD i q0) = F at *
  generalize ps.length = n at *
  go_enter Try.func25, Try.ntmps25
  go_wp2_with fail
  refine C.mono ?_
  rintro e w ⟨rfl, rfl⟩
  clear C
  go_wp2_with fail
  go_ret
  exact ⟨_, rfl, HF.out.1, Nat.le_refl _, HF.out.2⟩
theorem pending_un (p : Value) (w : World) (h : UD w p) : Calls Try.prog 25 #[p] w fun e w' => e = .returned (.slice none 0 0) ∧ w' = w := by
  go_enter Try.func25, Try.ntmps25
  go_wp2_with fail
  refine (dmade_un _ _ h).mono ?_
  rintro e w1 ⟨rfl, rfl⟩
  go_wp2_with fail
  go_ret
  exact ⟨rfl, rfl⟩

theorem piece_len {zs : List Int} {B n : Nat} (h : zs.length = B * 256) (hn : n < B) : (piece zs n).length = 256 := by
  unfold piece
  simp
  omega
theorem Blk.sl {N0 : Nat} {w : World} {o : Option Value} {ys : List Int} (h : Blk N0 w o ys) (hl : ys.length = 256) (hb : Bytes ys) : ∃ a k c, o.getD zv = .slice a k c ∧ SL w a k (if k = 0 then [] else ys) ∧ (k = 0 ∧ ys = z256 ∨ k = 256) := by
  rcases h with ⟨rfl, rfl⟩ | ⟨r, rfl, _, hr⟩
  · exact ⟨none, 0, 0, rfl, by simpa using SL.nil w none, .inl ⟨rfl, rfl⟩⟩
  · refine ⟨some ⟨r, 0, none⟩, 256, 256, rfl, ?_, .inr rfl⟩
    rw [if_neg (by omega)]
    refine ⟨hl, hb, .inr ⟨r, 0, rfl, lt_of_heap hr, fun i hi => ?_⟩⟩
    simp [World.cell?, hr, List.getElem?_eq_getElem (show i < ys.length by omega)]

theorem block_no (N0 D m B : Nat) (v : Value) (ps : List Rq) (zs : List Int) (n : Int) (w : World) (h : DK N0 w D m B v ps zs) (hn : ¬ (0 ≤ n ∧ n < B)) :
    Calls Try.prog 20 #[.pointer (some ⟨D, 0, none⟩), .int .i64 n] w fun e w' => e = .returned (.tuple #[.slice none 0 0, .int .i64 12]) ∧ w' = w := by
  have C := has_dk N0 D m B v ps zs n w h
  rw [show hasE B n = 12 by simp [hasE, hn]] at C
  go_enter Try.func20, Try.ntmps20
  go_wp2_with fail
  refine C.mono ?_
  rintro e w ⟨rfl, rfl⟩
  go_wp2_with fail
  go_ret2
  exact ⟨rfl, rfl⟩
theorem block_un (p : Value) (n : Int) (w : World) (h : UD w p) : Calls Try.prog 20 #[p, .int .i64 n] w fun e w' => e = .returned (.tuple #[.slice none 0 0, .int .i64 1]) ∧ w' = w := by
  go_enter Try.func20, Try.ntmps20
  go_wp2_with fail
  refine (has_un _ _ _ h).mono ?_
  rintro e w1 ⟨rfl, rfl⟩
  go_wp2_with fail
  go_ret2
  exact ⟨rfl, rfl⟩
theorem run_make_bytes (n : Nat) (hn : n ≤ 16777216) (w : World) : (Instr.makeSlice 39 (.int .i64 (n : Int)) (.int .i64 (n : Int))).run Try.prog w = .ok (.slice (some ⟨w.heap.size, 0, none⟩) n n) (w.alloc (.cells ((List.replicate n (0 : Int)).map (Value.int .u8)).toArray 5)) := by
  obtain ⟨i0, hi, hz0, hz1, hz2⟩ := info_parts Try.info5
  have hr := run_make (P := Try.prog) w 39 5 i0 (.int .u8 0) Try.underlying39 hi hz0 .i64 .i64 n n (by omega) (Int.le_refl _) (by rw [hz2]; omega) (by omega)
  simp only [Int.toNat_natCast] at hr
  rw [hr, hz1]
  have e : madeCells (Value.int .u8 0).cells (n * 1) = ((List.replicate n (0 : Int)).map (Value.int .u8)).toArray := by
    rw [← made_zeros]
  rw [e]
/-- a row of 256 bytes, copied into a new one -/
theorem copy256 {w : World} (a : Option Addr) (k c g : Nat) (ys : List Int) (hg : w.heap[g]? = some (.cells (z256.map (Value.int .u8)).toArray 5 (0, 0))) (hs : SL w a k (if k = 0 then [] else ys)) (hk : k = 0 ∧ ys = z256 ∨ k = 256) :
    ∃ w' x, (Builtin.copy_ #[39, 39] 3 #[.slice (some ⟨g, 0, none⟩) 256 256, .slice a k c]).run Try.prog w = .ok x w' ∧ w'.heap[g]? = some (.cells (ys.map (Value.int .u8)).toArray 5 (0, 0)) ∧ w.grownBy w' (some g) := by
  rcases hk with ⟨rfl, rfl⟩ | rfl
  · exact ⟨w, _, run_copy_none (P := Try.prog) w 39 39 3 5 (some ⟨g, 0, none⟩) a 256 256 0 c Try.underlying39 (by kernel_rfl) (by simp), hg, grown_refl _ _⟩
  · rw [if_neg (by omega)] at hs
    obtain ⟨w', hr, hh, hgr⟩ := run_copy_sl 3 g 0 256 (some ⟨g, 0, none⟩) a 256 c 256 z256 ys hg hs rfl (.inr rfl) (by simp [z256])
    rw [splice_all _ _ (by rw [hs.1]; simp [z256])] at hh
    exact ⟨w', _, hr, hh, hgr⟩
theorem block_yes (N0 D m B : Nat) (v : Value) (ps : List Rq) (zs : List Int) (n : Nat) (w : World) (h : DK N0 w D m B v ps zs) (hn : n < B) :
    Calls Try.prog 20 #[.pointer (some ⟨D, 0, none⟩), .int .i64 n] w fun e w' => ∃ g, e = .returned (.tuple #[.slice (some ⟨g, 0, none⟩) 256 256, .int .i64 0]) ∧ w'.heap[g]? = some (.cells ((piece zs n).map (Value.int .u8)).toArray 5 (0, 0)) ∧ w.heap.size ≤ g ∧ Below w.heap.size w w' := by
  have C := has_dk N0 D m B v ps zs n w h
  rw [show hasE B n = 0 by simp [hasE]; omega] at C
  have hmk := run_make_bytes 256 (by omega) w
  have hb : Below w.heap.size w (w.alloc (.cells (z256.map (Value.int .u8)).toArray 5)) := (Below.refl _ _).alloc (Nat.le_refl _) _
  have h1 := h.below hb
  have ql := h1.lt
  have c1 := h1.c1
  obtain ⟨M, hM, hB⟩ := h1.map
  have lk := look_run hM n (by have := h.b2; omega)
  obtain ⟨a, k, c, e1, e2, e3⟩ := (hB n hn).sl (piece_len h.len hn) (bytes_mid h.bytes _ _)
  rw [e1] at lk
  obtain ⟨w3, x, hcp, hrow, hgr⟩ := copy256 a k c w.heap.size (piece zs n) (heap_alloc_at _ _) e2 e3
  have HF : Hid (w3.heap[w.heap.size]? = some (.cells ((piece zs n).map (Value.int .u8)).toArray 5 (0, 0)) ∧ Below w.heap.size w w3) := ⟨hrow, hb.grown hgr hb.size (by intro k h; cases h; exact Nat.le_refl _)⟩
  obtain ⟨w1, hw1⟩ : ∃ w1, w1 = w.alloc (.cells (z256.map (Value.int .u8)).toArray 5) := ⟨_, rfl⟩
  rw [show (List.replicate 256 (0 : Int)) = z256 from rfl, ← hw1, show ((256 : Nat) : Int) = 256 from rfl] at hmk
  rw [← hw1] at hcp lk c1 ql
  clear h h1 hb hrow hgr hw1 hM hB e1 e2 e3
  go_enter Try.func20, Try.ntmps20
  go_wp2_with fail
  refine C.mono ?_
  rintro e w ⟨rfl, rfl⟩
  clear C
  go_wp2_with fail
  go_ret2
  exact ⟨_, rfl, HF.out.1, Nat.le_refl _, HF.out.2⟩
end Go.Proofs.Ytkadpmmielegfaa
