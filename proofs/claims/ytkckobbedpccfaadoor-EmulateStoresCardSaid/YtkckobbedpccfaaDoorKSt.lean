/-
  The walk of EmulateStores.
-/
import Derived.Test.YtkckobbedpccfaaDoorKDd
import Derived.Test.YtkckobbedpccfaaDoorKQt
namespace Go.Proofs.YtkckobbedpccfaaDoor.K
open Go.RowKit Go.Maps
set_option linter.unusedVariables false
set_option maxRecDepth 100000
theorem and_low (v m : Int) (k : Nat) (hk : (BitVec.ofInt 64 m).toNat = k) (hb : k < 9223372036854775808) : ∃ i : Nat, i ≤ k ∧ bits .and .i64 v m = (i : Int) := by
  refine ⟨(BitVec.ofInt 64 v &&& BitVec.ofInt 64 m).toNat, ?_, ?_⟩
  · rw [BitVec.toNat_and, hk]
    exact Nat.and_le_right
  · show IntKind.i64.wrap ((BitVec.ofInt 64 v &&& BitVec.ofInt 64 m).toNat : Int) = _
    have h : (BitVec.ofInt 64 v &&& BitVec.ofInt 64 m).toNat ≤ k := by rw [BitVec.toNat_and, hk]; exact Nat.and_le_right
    rw [IntKind.wrap_i64]
    omega
theorem bits_all64 (x : Int) (h0 : 0 ≤ x) (h1 : x < 18446744073709551616) : bits .and .u64 x 18446744073709551615 = x := by
  have h := bits_mask .u64 64 (by decide) wraps_u64 64 (by decide) x h0 (by omega)
  have e : x % 2 ^ 64 = x := by omega
  rw [e] at h
  exact h
theorem op_at6 (op : Int) (h0 : -9223372036854775808 ≤ op) (h1 : op ≤ 9223372036854775807) : ∃ o : Int, wrap64 (23 + (wrap64 (op.tmod 6 + 6)).tmod 6) = o ∧ 23 ≤ o ∧ o ≤ 28 := by
  refine ⟨_, rfl, ?_⟩
  have e : wrap64 (op.tmod 6 + 6) = op.tmod 6 + 6 := by unfold wrap64; have := Int.tmod_lt_of_pos op (show (0 : Int) < 6 by decide); have := Int.lt_tmod_of_pos op (show (0 : Int) < 6 by decide); omega
  have a := Int.tmod_lt_of_pos op (show (0 : Int) < 6 by decide)
  have b := Int.lt_tmod_of_pos op (show (0 : Int) < 6 by decide)
  rw [e, Int.tmod_eq_emod_of_nonneg (by omega)]
  unfold wrap64
  omega
theorem enc_ld : ∀ o : Fin 3, ∀ r : Fin 16, I.encE ((o.val : Int) + 23) (r.val : Int) 7 0 0 = 0 ∧ I.validW (I.encW ((o.val : Int) + 23) (r.val : Int) 7 0 0) = true ∧ I.opW (I.encW ((o.val : Int) + 23) (r.val : Int) 7 0 0) = (o.val : Int) + 23 ∧ I.rdW (I.encW ((o.val : Int) + 23) (r.val : Int) 7 0 0) = (r.val : Int) ∧ 0 ≤ I.encW ((o.val : Int) + 23) (r.val : Int) 7 0 0 ∧ I.encW ((o.val : Int) + 23) (r.val : Int) 7 0 0 ≤ 4294967295 := by decide +kernel
theorem enc_st : ∀ o : Fin 3, ∀ r : Fin 16, I.encE ((o.val : Int) + 26) 0 7 (r.val : Int) 0 = 0 ∧ I.validW (I.encW ((o.val : Int) + 26) 0 7 (r.val : Int) 0) = true ∧ I.opW (I.encW ((o.val : Int) + 26) 0 7 (r.val : Int) 0) = (o.val : Int) + 26 ∧ I.rs2W (I.encW ((o.val : Int) + 26) 0 7 (r.val : Int) 0) = (r.val : Int) ∧ 0 ≤ I.encW ((o.val : Int) + 26) 0 7 (r.val : Int) 0 ∧ I.encW ((o.val : Int) + 26) 0 7 (r.val : Int) 0 ≤ 4294967295 := by decide +kernel
theorem ld5 (n : Int) (h : n = 1 ∨ n = 4 ∨ n = 8) : ldV 5 n = 5 := by
  rcases h with rfl | rfl | rfl <;> decide
theorem fin_at (X : Nat → Int) (wr : Bool) (wd : Int) (k : Nat) (hk : k ≤ 15) (hw : wd = 1 ∨ wd = 4 ∨ wd = 8) (i : Nat) : finX X wr wd k 5 i = if wr = false ∧ k ≠ 0 ∧ i = k then 5 else X i := by
  unfold finX
  by_cases h : wr = false ∧ k ≠ 0
  · rw [if_pos ⟨h.1, by omega, by omega⟩]
    unfold upd
    rw [Int.toNat_natCast, ld5 wd hw]
    by_cases e : i = k
    · rw [if_pos e, if_pos ⟨h.1, h.2, e⟩]
    · rw [if_neg e, if_neg (fun g => e g.2.2)]
  · rw [if_neg (fun g => h ⟨g.1, by omega⟩), if_neg (fun g => h ⟨g.1, g.2.1⟩)]
/-- what stands through the loop -/
structure LS (w d : World) (A B : Nat) (X F : Nat → Int) (pc m : Int) (acc : Array Value) : Prop where
  rg : d.heap[w.heap.size]? = some (.cells (regC X pc m) 26 (0, 0))
  ea : d.heap[A]? = some (.cells acc 28 (0, 0))
  fb : d.heap[B]? = some (.cells (regC F (nx pc) m) 26 (0, 0))
  bl : Below w.heap.size w d
theorem LS.below {w d d' : World} {A B : Nat} {X F : Nat → Int} {pc m : Int} {acc : Array Value} (h : LS w d A B X F pc m acc) (hb : Below d.heap.size d d') : LS w d' A B X F pc m acc := ⟨keepB h.rg hb, keepB h.ea hb, keepB h.fb hb, h.bl.trans (hb.mono h.bl.size)⟩
set_option maxHeartbeats 6400000 in
theorem stores_23 (op rg0 : Int) (k : Nat) (hk : k ≤ 15) (X : Nat → Int) (hX : ∀ n, n < 16 → U (X n)) (pc m : Int) (hop : wrap64 (23 + (wrap64 (op.tmod 6 + 6)).tmod 6) = 23) (hrg : bits .and .i64 rg0 15 = (k : Int)) (w : World) (hz : SZ w) : Calls Tryd.prog 4 #[.agg (regC X pc m), .int .i64 op, .int .i64 rg0] w fun e w' => e = .returned (.bool true) ∧ Below w.heap.size w w' := by
  obtain ⟨x, hx⟩ : ∃ x, w.alloc (.cells (regC X pc m) 26) = x := ⟨_, rfl⟩
  have b0 : Below w.heap.size w x := by rw [← hx]; exact below_box _ _
  have a0 : x.heap[w.heap.size]? = some (.cells (regC X pc m) 26 (0, 0)) := by rw [← hx]; exact heap_alloc_at _ _
  have b2 : Below x.heap.size x (x.alloc (.cells #[.int .i64 23, .int .i64 k, .int .i64 7, .int .i64 0, .int .i64 0] 41)) := below_box _ _
  have HA0 : Hid ((x.alloc (.cells #[.int .i64 23, .int .i64 k, .int .i64 7, .int .i64 0, .int .i64 0] 41)).heap[w.heap.size]? = some (.cells (regC X pc m) 26 (0, 0))) := keepB a0 b2
  have HB0 : Hid (Below w.heap.size w (x.alloc (.cells #[.int .i64 23, .int .i64 k, .int .i64 7, .int .i64 0, .int .i64 0] 41))) := b0.trans (b2.mono b0.size)
  have HZ0 : Hid (SZ (x.alloc (.cells #[.int .i64 23, .int .i64 k, .int .i64 7, .int .i64 0, .int .i64 0] 41))) := (hz.below b0).below b2
  have EN := enc_ld ⟨0, by decide⟩ ⟨k, by omega⟩
  simp only at EN
  have C1 := I.rencode_any 23 k 7 0 0 (x.alloc (.cells #[.int .i64 23, .int .i64 k, .int .i64 7, .int .i64 0, .int .i64 0] 41))
  unfold I.ins at C1
  obtain ⟨aw, haw⟩ : ∃ aw, I.encW 23 k 7 0 0 = aw := ⟨_, rfl⟩
  have EN2 : I.encE 23 k 7 0 0 = 0 ∧ I.validW aw = true ∧ I.opW aw = 23 ∧ I.rdW aw = (k : Int) ∧ 0 ≤ aw ∧ aw ≤ 4294967295 := by rw [← haw]; exact EN
  obtain ⟨n0, n1, n2, n3, n4, n5⟩ := EN2
  rw [haw, n0] at C1
  have C2 := fun w => decode_any aw n4 n5 X pc m hX w
  have ed : decE aw = 0 := by unfold decE; rw [if_pos ⟨n1, by omega, by omega⟩]
  obtain ⟨sv, hsv⟩ : ∃ sv, storedP X k 8 = sv := ⟨_, rfl⟩
  have ep : (decP aw X).arr = accA false 8 k 0 := by
    unfold decP
    rw [if_pos n1, n2, n3]
    unfold wantP
    rw [if_neg (by decide), if_pos (by decide)]
    rfl
  rw [ed, ep] at C2
  obtain ⟨u0, u1⟩ := hX k (by omega)
  have hm : k ≠ 0 → bits .and .u64 (X k) 18446744073709551615 = sv := fun hk0 => by
    rw [← hsv]
    unfold storedP
    rw [if_neg hk0]
    exact (bits_all64 (X k) u0 u1).trans (by show X k = X k % 18446744073709551616; omega)
  have hs0 : k = 0 → sv = 0 := fun hk0 => by rw [← hsv]; unfold storedP; rw [if_pos hk0]
  have k0 : (0 : Int) ≤ k := by omega
  have k1 : (k : Int) < 16 := by omega
  have kk0 : k ≠ 0 → ((k : Int) == 0) = false := fun h => beq_false_of_ne (by omega)
  have kk1 : k = 0 → ((k : Int) == 0) = true := fun h => by simp [h]
  have hF := fin_at X false 8 k hk (by decide)
  have hm0 : bits .and .u64 0 18446744073709551615 = 0 := by decide
  have HX : Hid (_) := hX
  clear EN haw n0 n1 n2 n3 n4 n5 ed ep hsv a0 b0 b2 hz hX
  unfold accA at C2
  go_enter Tryd.func4, Tryd.ntmps4
  go_wp2_with fail
  clear hx
  refine C1.mono ?_
  rintro e y ⟨rfl, b1⟩
  clear C1
  have HA1 : Hid (_) := keepB HA0.out b1
  have HB1 : Hid (_) := HB0.out.trans (b1.mono HB0.out.size)
  have HZ1 : Hid (_) := HZ0.out.below b1
  clear HA0 HB0 HZ0 b1
  go_wp2_with (first
    | (refine wpList_load_row rfl 26 _ rfl w.heap.size rfl 26 (regC X pc m) (0, 0) _ HA1.out Tryd.underlying26 rfl inf25 ?_)
    | fail)
  refine (C2 _).mono ?_
  rintro e y2 ⟨rfl, b1⟩
  clear C2
  have bz : Below y2.heap.size y2 (y2.alloc (.cells #[.bool false, .int .i64 8, .int .i64 k, .int .u64 0] 28)) := below_box _ _
  have HA : Hid ((y2.alloc (.cells #[.bool false, .int .i64 8, .int .i64 k, .int .u64 0] 28)).heap[y2.heap.size]? = some (.cells (accA false 8 k 0) 28 (0, 0))) := heap_alloc_at _ _
  have HR : Hid ((y2.alloc (.cells #[.bool false, .int .i64 8, .int .i64 k, .int .u64 0] 28)).heap[w.heap.size]? = some (.cells (regC X pc m) 26 (0, 0))) := keepB (keepB HA1.out b1) bz
  have HB : Hid (Below w.heap.size w (y2.alloc (.cells #[.bool false, .int .i64 8, .int .i64 k, .int .u64 0] 28))) := HB1.out.trans ((b1.trans (bz.mono b1.size)).mono HB1.out.size)
  have HZ : Hid (SZ (y2.alloc (.cells #[.bool false, .int .i64 8, .int .i64 k, .int .u64 0] 28))) := (HZ1.out.below b1).below bz
  clear HA1 HB1 HZ1 b1 bz
  go_upto_region 9 with fail
  generalize hz : (y2.alloc (.cells #[.bool false, .int .i64 8, .int .i64 k, .int .u64 0] 28)) = z at *
  clear hz
  generalize y2.heap.size = A at *
  have q0 : z.cell? ⟨A, 0, none⟩ = some (.bool false) := (cell_at HA.out 0).trans rfl
  have q1 : z.cell? ⟨A, 1, none⟩ = some (.int .i64 8) := (cell_at HA.out 1).trans rfl
  have q2 : z.cell? ⟨A, 2, none⟩ = some (.int .i64 k) := (cell_at HA.out 2).trans rfl
  have q3 : z.cell? ⟨A, 3, none⟩ = some (.int .u64 0) := (cell_at HA.out 3).trans rfl
  have ck : z.cell? ⟨w.heap.size, k, none⟩ = some (.int .u64 (X k)) := (cell_at HR.out k).trans (regC_at X pc m k (by omega))
  have la := lt_of_heap HA.out
  have lr := lt_of_heap HR.out
  have C3 := fun w hz => finish_any X pc m false 8 k 0 5 (by decide) (by decide) w hz
  obtain ⟨F, hFF⟩ : ∃ F, finX X false 8 k 5 = F := ⟨_, rfl⟩
  rw [hFF] at C3 hF
  clear hFF
  unfold accA at C3
  by_cases hk0 : k = 0
  · have kz := kk1 hk0
    have hF2 : Hid (∀ i, i < 16 → F i = X i) := fun i hi => by rw [hF i]; rw [if_neg (by simp [hk0])]
    clear hm hs0 kk0 kk1 hF hk0
    have bs : Below z.heap.size z (z.alloc (.cells #[.int .u64 18446744073709551615, .int .u64 4294967295, .int .u64 255] 23)) := below_box _ _
    have HR2 : Hid ((z.alloc (.cells #[.int .u64 18446744073709551615, .int .u64 4294967295, .int .u64 255] 23)).heap[w.heap.size]? = some (.cells (regC X pc m) 26 (0, 0))) := keepB HR.out bs
    have C4 := C3 (z.alloc (.cells #[.int .u64 18446744073709551615, .int .u64 4294967295, .int .u64 255] 23)) (HZ.out.below bs)
    have HBS : Hid (_) := bs
    clear bs C3
    go_wp2_with (first
      | (refine wpList_load_row rfl 26 _ rfl w.heap.size rfl 26 (regC X pc m) (0, 0) _ HR2.out Tryd.underlying26 rfl inf25 ?_)
      | fail)
    refine C4.mono ?_
    rintro e y3 ⟨rfl, b3⟩
    clear C4 q0 q1 q2 q3 ck la lr
    have bs := HBS.out
    have HL : Hid (y3.heap[w.heap.size]? = some (.cells (regC X pc m) 26 (0, 0)) ∧ y3.heap[A]? = some (.cells (accA false 8 k 0) 28 (0, 0)) ∧ Below w.heap.size w y3) := ⟨keepB (keepB HR.out bs) b3, keepB (keepB HA.out bs) b3, HB.out.trans ((bs.trans (b3.mono bs.size)).mono HB.out.size)⟩
    clear HR HR2 HA HB HZ HBS bs b3
    go_upto_region 18 with (first
      | (refine wpList_store_row rfl 26 _ _ rfl y3.heap.size (regC F (nx pc) m) rfl rfl 26 _ (heap_alloc_at y3 _) inf25 rfl (regC_one _ _ _) ?_)
      | fail)
    simp only [Act.put]
    have hbx := below_box y3 (.cells zeroRegs 26)
    have hgx := setRow_heap (y3.alloc (.cells zeroRegs 26)) y3.heap.size zeroRegs (regC F (nx pc) m) 26 (0, 0) (heap_alloc_at y3 _)
    have htx : Below y3.heap.size y3 ((y3.alloc (.cells zeroRegs 26)).setRow y3.heap.size (regC F (nx pc) m)) := hbx.trans (below_setRow' _ _ (Nat.le_refl _) _)
    unfold zeroRegs at hbx hgx htx
    generalize World.setRow _ _ _ = g at *
    have HG : Hid (LS w g A y3.heap.size X F pc m (accA false 8 k 0)) := ⟨keepB HL.out.1 htx, keepB HL.out.2.1 htx, hgx, HL.out.2.2.trans (htx.mono HL.out.2.2.size)⟩
    clear hbx hgx htx HL
    generalize y3.heap.size = B at *
    go_wp2_with fail
    go_loopw [15] (fun p wr => ∃ i : Nat, i ≤ 16 ∧ p = .int .i64 i ∧ Hid (LS w wr A B X F pc m (accA false 8 k 0))) (fun p _ => 16 - (intOf p).toNat)
    case atStart => exact ⟨0, by omega, rfl, HG⟩
    case round =>
      obtain ⟨i, hi, rfl, HI⟩ := hrel
      clear HG
      by_cases hi6 : i < 16
      · have hi6' : (i : Int) < 16 := by omega
        have hi0 : (0 : Int) ≤ i := by omega
        have cF : wr.cell? ⟨B, i, none⟩ = some (.int .u64 (F i)) := (cell_at HI.out.fb i).trans (regC_at F _ m i hi6)
        have cX : wr.cell? ⟨w.heap.size, i, none⟩ = some (.int .u64 (X i)) := (cell_at HI.out.rg i).trans (regC_at X pc m i hi6)
        have cA : wr.cell? ⟨A, 0, none⟩ = some (.bool false) := (cell_at HI.out.ea 0).trans rfl
        have lB := lt_of_heap HI.out.fb
        have lX := lt_of_heap HI.out.rg
        have lA := lt_of_heap HI.out.ea
        have HF : Hid (LS w wr A B X F pc m (accA false 8 k 0)) := HI.out
        have HFd : Hid (LS w wr.drew A B X F pc m (accA false 8 k 0)) := HI.out.below (below_drew' _)
        rw [hF2.out i hi6] at cF
        clear HI
        by_cases e : i = k
        · have ek : ((i : Int) == (k : Int)) = true := by simp [e]
          clear e
          go_wp2_with fail
          go_region
          go_wp2_with fail
          go_roundw
          case rel => exact ⟨i + 1, by omega, by go_num, HFd⟩
          case measure => simp [intOf]; omega
        · have ek : ((i : Int) == (k : Int)) = false := beq_false_of_ne (by omega)
          clear e
          go_wp2_with fail
          go_region
          go_wp2_with fail
          go_roundw
          case rel => exact ⟨i + 1, by omega, by go_num, HFd⟩
          case measure => simp [intOf]; omega
      · obtain rfl : i = 16 := by omega
        have r16 : wr.cell? ⟨w.heap.size, 16, none⟩ = some (.int .u64 pc) := (cell_at HI.out.rg 16).trans rfl
        have r17 : wr.cell? ⟨w.heap.size, 17, none⟩ = some (.int .i64 m) := (cell_at HI.out.rg 17).trans rfl
        have s16 : wr.cell? ⟨B, 16, none⟩ = some (.int .u64 (IntKind.u64.wrap (pc + 4))) := (cell_at HI.out.fb 16).trans rfl
        have s17 : wr.cell? ⟨B, 17, none⟩ = some (.int .i64 m) := (cell_at HI.out.fb 17).trans rfl
        have lB := lt_of_heap HI.out.fb
        have lX := lt_of_heap HI.out.rg
        go_wp2_with fail
        go_ret
        exact ⟨rfl, HI.out.bl⟩
  · have kz := kk0 hk0
    have hF2 : Hid (∀ i, i < 16 → F i = if i = k then 5 else X i) := fun i hi => by rw [hF i]; simp [hk0]
    clear hm hs0 kk0 kk1 hF hk0
    have bs : Below z.heap.size z (z.alloc (.cells #[.int .u64 18446744073709551615, .int .u64 4294967295, .int .u64 255] 23)) := below_box _ _
    have HR2 : Hid ((z.alloc (.cells #[.int .u64 18446744073709551615, .int .u64 4294967295, .int .u64 255] 23)).heap[w.heap.size]? = some (.cells (regC X pc m) 26 (0, 0))) := keepB HR.out bs
    have C4 := C3 (z.alloc (.cells #[.int .u64 18446744073709551615, .int .u64 4294967295, .int .u64 255] 23)) (HZ.out.below bs)
    have HBS : Hid (_) := bs
    clear bs C3
    go_wp2_with (first
      | (refine wpList_load_row rfl 26 _ rfl w.heap.size rfl 26 (regC X pc m) (0, 0) _ HR2.out Tryd.underlying26 rfl inf25 ?_)
      | fail)
    refine C4.mono ?_
    rintro e y3 ⟨rfl, b3⟩
    clear C4 q0 q1 q2 q3 ck la lr
    have bs := HBS.out
    have HL : Hid (y3.heap[w.heap.size]? = some (.cells (regC X pc m) 26 (0, 0)) ∧ y3.heap[A]? = some (.cells (accA false 8 k 0) 28 (0, 0)) ∧ Below w.heap.size w y3) := ⟨keepB (keepB HR.out bs) b3, keepB (keepB HA.out bs) b3, HB.out.trans ((bs.trans (b3.mono bs.size)).mono HB.out.size)⟩
    clear HR HR2 HA HB HZ HBS bs b3
    go_upto_region 18 with (first
      | (refine wpList_store_row rfl 26 _ _ rfl y3.heap.size (regC F (nx pc) m) rfl rfl 26 _ (heap_alloc_at y3 _) inf25 rfl (regC_one _ _ _) ?_)
      | fail)
    simp only [Act.put]
    have hbx := below_box y3 (.cells zeroRegs 26)
    have hgx := setRow_heap (y3.alloc (.cells zeroRegs 26)) y3.heap.size zeroRegs (regC F (nx pc) m) 26 (0, 0) (heap_alloc_at y3 _)
    have htx : Below y3.heap.size y3 ((y3.alloc (.cells zeroRegs 26)).setRow y3.heap.size (regC F (nx pc) m)) := hbx.trans (below_setRow' _ _ (Nat.le_refl _) _)
    unfold zeroRegs at hbx hgx htx
    generalize World.setRow _ _ _ = g at *
    have HG : Hid (LS w g A y3.heap.size X F pc m (accA false 8 k 0)) := ⟨keepB HL.out.1 htx, keepB HL.out.2.1 htx, hgx, HL.out.2.2.trans (htx.mono HL.out.2.2.size)⟩
    clear hbx hgx htx HL
    generalize y3.heap.size = B at *
    go_wp2_with fail
    go_loopw [15] (fun p wr => ∃ i : Nat, i ≤ 16 ∧ p = .int .i64 i ∧ Hid (LS w wr A B X F pc m (accA false 8 k 0))) (fun p _ => 16 - (intOf p).toNat)
    case atStart => exact ⟨0, by omega, rfl, HG⟩
    case round =>
      obtain ⟨i, hi, rfl, HI⟩ := hrel
      clear HG
      by_cases hi6 : i < 16
      · have hi6' : (i : Int) < 16 := by omega
        have hi0 : (0 : Int) ≤ i := by omega
        have cF : wr.cell? ⟨B, i, none⟩ = some (.int .u64 (F i)) := (cell_at HI.out.fb i).trans (regC_at F _ m i hi6)
        have cX : wr.cell? ⟨w.heap.size, i, none⟩ = some (.int .u64 (X i)) := (cell_at HI.out.rg i).trans (regC_at X pc m i hi6)
        have cA : wr.cell? ⟨A, 0, none⟩ = some (.bool false) := (cell_at HI.out.ea 0).trans rfl
        have lB := lt_of_heap HI.out.fb
        have lX := lt_of_heap HI.out.rg
        have lA := lt_of_heap HI.out.ea
        have HF : Hid (LS w wr A B X F pc m (accA false 8 k 0)) := HI.out
        have HFd : Hid (LS w wr.drew A B X F pc m (accA false 8 k 0)) := HI.out.below (below_drew' _)
        rw [hF2.out i hi6] at cF
        clear HI
        by_cases e : i = k
        · have ek : ((i : Int) == (k : Int)) = true := by simp [e]
          rw [if_pos e] at cF
          clear e
          go_wp2_with fail
          go_roundw
          case rel => exact ⟨i + 1, by omega, by go_num, HF⟩
          case measure => simp [intOf]; omega
        · have ek : ((i : Int) == (k : Int)) = false := beq_false_of_ne (by omega)
          rw [if_neg e] at cF
          clear e
          go_wp2_with fail
          go_region
          go_wp2_with fail
          go_roundw
          case rel => exact ⟨i + 1, by omega, by go_num, HFd⟩
          case measure => simp [intOf]; omega
      · obtain rfl : i = 16 := by omega
        have r16 : wr.cell? ⟨w.heap.size, 16, none⟩ = some (.int .u64 pc) := (cell_at HI.out.rg 16).trans rfl
        have r17 : wr.cell? ⟨w.heap.size, 17, none⟩ = some (.int .i64 m) := (cell_at HI.out.rg 17).trans rfl
        have s16 : wr.cell? ⟨B, 16, none⟩ = some (.int .u64 (IntKind.u64.wrap (pc + 4))) := (cell_at HI.out.fb 16).trans rfl
        have s17 : wr.cell? ⟨B, 17, none⟩ = some (.int .i64 m) := (cell_at HI.out.fb 17).trans rfl
        have lB := lt_of_heap HI.out.fb
        have lX := lt_of_heap HI.out.rg
        go_wp2_with fail
        go_ret
        exact ⟨rfl, HI.out.bl⟩
set_option maxHeartbeats 6400000 in
theorem stores_24 (op rg0 : Int) (k : Nat) (hk : k ≤ 15) (X : Nat → Int) (hX : ∀ n, n < 16 → U (X n)) (pc m : Int) (hop : wrap64 (23 + (wrap64 (op.tmod 6 + 6)).tmod 6) = 24) (hrg : bits .and .i64 rg0 15 = (k : Int)) (w : World) (hz : SZ w) : Calls Tryd.prog 4 #[.agg (regC X pc m), .int .i64 op, .int .i64 rg0] w fun e w' => e = .returned (.bool true) ∧ Below w.heap.size w w' := by
  obtain ⟨x, hx⟩ : ∃ x, w.alloc (.cells (regC X pc m) 26) = x := ⟨_, rfl⟩
  have b0 : Below w.heap.size w x := by rw [← hx]; exact below_box _ _
  have a0 : x.heap[w.heap.size]? = some (.cells (regC X pc m) 26 (0, 0)) := by rw [← hx]; exact heap_alloc_at _ _
  have b2 : Below x.heap.size x (x.alloc (.cells #[.int .i64 24, .int .i64 k, .int .i64 7, .int .i64 0, .int .i64 0] 41)) := below_box _ _
  have HA0 : Hid ((x.alloc (.cells #[.int .i64 24, .int .i64 k, .int .i64 7, .int .i64 0, .int .i64 0] 41)).heap[w.heap.size]? = some (.cells (regC X pc m) 26 (0, 0))) := keepB a0 b2
  have HB0 : Hid (Below w.heap.size w (x.alloc (.cells #[.int .i64 24, .int .i64 k, .int .i64 7, .int .i64 0, .int .i64 0] 41))) := b0.trans (b2.mono b0.size)
  have HZ0 : Hid (SZ (x.alloc (.cells #[.int .i64 24, .int .i64 k, .int .i64 7, .int .i64 0, .int .i64 0] 41))) := (hz.below b0).below b2
  have EN := enc_ld ⟨1, by decide⟩ ⟨k, by omega⟩
  simp only at EN
  have C1 := I.rencode_any 24 k 7 0 0 (x.alloc (.cells #[.int .i64 24, .int .i64 k, .int .i64 7, .int .i64 0, .int .i64 0] 41))
  unfold I.ins at C1
  obtain ⟨aw, haw⟩ : ∃ aw, I.encW 24 k 7 0 0 = aw := ⟨_, rfl⟩
  have EN2 : I.encE 24 k 7 0 0 = 0 ∧ I.validW aw = true ∧ I.opW aw = 24 ∧ I.rdW aw = (k : Int) ∧ 0 ≤ aw ∧ aw ≤ 4294967295 := by rw [← haw]; exact EN
  obtain ⟨n0, n1, n2, n3, n4, n5⟩ := EN2
  rw [haw, n0] at C1
  have C2 := fun w => decode_any aw n4 n5 X pc m hX w
  have ed : decE aw = 0 := by unfold decE; rw [if_pos ⟨n1, by omega, by omega⟩]
  obtain ⟨sv, hsv⟩ : ∃ sv, storedP X k 4 = sv := ⟨_, rfl⟩
  have ep : (decP aw X).arr = accA false 4 k 0 := by
    unfold decP
    rw [if_pos n1, n2, n3]
    unfold wantP
    rw [if_neg (by decide), if_pos (by decide)]
    rfl
  rw [ed, ep] at C2
  obtain ⟨u0, u1⟩ := hX k (by omega)
  have hm : k ≠ 0 → bits .and .u64 (X k) 4294967295 = sv := fun hk0 => by
    rw [← hsv]
    unfold storedP
    rw [if_neg hk0]
    exact bits_mask .u64 64 (by decide) wraps_u64 32 (by decide) (X k) u0 (by omega)
  have hs0 : k = 0 → sv = 0 := fun hk0 => by rw [← hsv]; unfold storedP; rw [if_pos hk0]
  have k0 : (0 : Int) ≤ k := by omega
  have k1 : (k : Int) < 16 := by omega
  have kk0 : k ≠ 0 → ((k : Int) == 0) = false := fun h => beq_false_of_ne (by omega)
  have kk1 : k = 0 → ((k : Int) == 0) = true := fun h => by simp [h]
  have hF := fin_at X false 4 k hk (by decide)
  have hm0 : bits .and .u64 0 4294967295 = 0 := by decide
  have HX : Hid (_) := hX
  clear EN haw n0 n1 n2 n3 n4 n5 ed ep hsv a0 b0 b2 hz hX
  unfold accA at C2
  go_enter Tryd.func4, Tryd.ntmps4
  go_wp2_with fail
  clear hx
  refine C1.mono ?_
  rintro e y ⟨rfl, b1⟩
  clear C1
  have HA1 : Hid (_) := keepB HA0.out b1
  have HB1 : Hid (_) := HB0.out.trans (b1.mono HB0.out.size)
  have HZ1 : Hid (_) := HZ0.out.below b1
  clear HA0 HB0 HZ0 b1
  go_wp2_with (first
    | (refine wpList_load_row rfl 26 _ rfl w.heap.size rfl 26 (regC X pc m) (0, 0) _ HA1.out Tryd.underlying26 rfl inf25 ?_)
    | fail)
  refine (C2 _).mono ?_
  rintro e y2 ⟨rfl, b1⟩
  clear C2
  have bz : Below y2.heap.size y2 (y2.alloc (.cells #[.bool false, .int .i64 4, .int .i64 k, .int .u64 0] 28)) := below_box _ _
  have HA : Hid ((y2.alloc (.cells #[.bool false, .int .i64 4, .int .i64 k, .int .u64 0] 28)).heap[y2.heap.size]? = some (.cells (accA false 4 k 0) 28 (0, 0))) := heap_alloc_at _ _
  have HR : Hid ((y2.alloc (.cells #[.bool false, .int .i64 4, .int .i64 k, .int .u64 0] 28)).heap[w.heap.size]? = some (.cells (regC X pc m) 26 (0, 0))) := keepB (keepB HA1.out b1) bz
  have HB : Hid (Below w.heap.size w (y2.alloc (.cells #[.bool false, .int .i64 4, .int .i64 k, .int .u64 0] 28))) := HB1.out.trans ((b1.trans (bz.mono b1.size)).mono HB1.out.size)
  have HZ : Hid (SZ (y2.alloc (.cells #[.bool false, .int .i64 4, .int .i64 k, .int .u64 0] 28))) := (HZ1.out.below b1).below bz
  clear HA1 HB1 HZ1 b1 bz
  go_upto_region 9 with fail
  generalize hz : (y2.alloc (.cells #[.bool false, .int .i64 4, .int .i64 k, .int .u64 0] 28)) = z at *
  clear hz
  generalize y2.heap.size = A at *
  have q0 : z.cell? ⟨A, 0, none⟩ = some (.bool false) := (cell_at HA.out 0).trans rfl
  have q1 : z.cell? ⟨A, 1, none⟩ = some (.int .i64 4) := (cell_at HA.out 1).trans rfl
  have q2 : z.cell? ⟨A, 2, none⟩ = some (.int .i64 k) := (cell_at HA.out 2).trans rfl
  have q3 : z.cell? ⟨A, 3, none⟩ = some (.int .u64 0) := (cell_at HA.out 3).trans rfl
  have ck : z.cell? ⟨w.heap.size, k, none⟩ = some (.int .u64 (X k)) := (cell_at HR.out k).trans (regC_at X pc m k (by omega))
  have la := lt_of_heap HA.out
  have lr := lt_of_heap HR.out
  have C3 := fun w hz => finish_any X pc m false 4 k 0 5 (by decide) (by decide) w hz
  obtain ⟨F, hFF⟩ : ∃ F, finX X false 4 k 5 = F := ⟨_, rfl⟩
  rw [hFF] at C3 hF
  clear hFF
  unfold accA at C3
  by_cases hk0 : k = 0
  · have kz := kk1 hk0
    have hF2 : Hid (∀ i, i < 16 → F i = X i) := fun i hi => by rw [hF i]; rw [if_neg (by simp [hk0])]
    clear hm hs0 kk0 kk1 hF hk0
    have bs : Below z.heap.size z (z.alloc (.cells #[.int .u64 18446744073709551615, .int .u64 4294967295, .int .u64 255] 23)) := below_box _ _
    have HR2 : Hid ((z.alloc (.cells #[.int .u64 18446744073709551615, .int .u64 4294967295, .int .u64 255] 23)).heap[w.heap.size]? = some (.cells (regC X pc m) 26 (0, 0))) := keepB HR.out bs
    have C4 := C3 (z.alloc (.cells #[.int .u64 18446744073709551615, .int .u64 4294967295, .int .u64 255] 23)) (HZ.out.below bs)
    have HBS : Hid (_) := bs
    clear bs C3
    go_wp2_with (first
      | (refine wpList_load_row rfl 26 _ rfl w.heap.size rfl 26 (regC X pc m) (0, 0) _ HR2.out Tryd.underlying26 rfl inf25 ?_)
      | fail)
    refine C4.mono ?_
    rintro e y3 ⟨rfl, b3⟩
    clear C4 q0 q1 q2 q3 ck la lr
    have bs := HBS.out
    have HL : Hid (y3.heap[w.heap.size]? = some (.cells (regC X pc m) 26 (0, 0)) ∧ y3.heap[A]? = some (.cells (accA false 4 k 0) 28 (0, 0)) ∧ Below w.heap.size w y3) := ⟨keepB (keepB HR.out bs) b3, keepB (keepB HA.out bs) b3, HB.out.trans ((bs.trans (b3.mono bs.size)).mono HB.out.size)⟩
    clear HR HR2 HA HB HZ HBS bs b3
    go_upto_region 18 with (first
      | (refine wpList_store_row rfl 26 _ _ rfl y3.heap.size (regC F (nx pc) m) rfl rfl 26 _ (heap_alloc_at y3 _) inf25 rfl (regC_one _ _ _) ?_)
      | fail)
    simp only [Act.put]
    have hbx := below_box y3 (.cells zeroRegs 26)
    have hgx := setRow_heap (y3.alloc (.cells zeroRegs 26)) y3.heap.size zeroRegs (regC F (nx pc) m) 26 (0, 0) (heap_alloc_at y3 _)
    have htx : Below y3.heap.size y3 ((y3.alloc (.cells zeroRegs 26)).setRow y3.heap.size (regC F (nx pc) m)) := hbx.trans (below_setRow' _ _ (Nat.le_refl _) _)
    unfold zeroRegs at hbx hgx htx
    generalize World.setRow _ _ _ = g at *
    have HG : Hid (LS w g A y3.heap.size X F pc m (accA false 4 k 0)) := ⟨keepB HL.out.1 htx, keepB HL.out.2.1 htx, hgx, HL.out.2.2.trans (htx.mono HL.out.2.2.size)⟩
    clear hbx hgx htx HL
    generalize y3.heap.size = B at *
    go_wp2_with fail
    go_loopw [15] (fun p wr => ∃ i : Nat, i ≤ 16 ∧ p = .int .i64 i ∧ Hid (LS w wr A B X F pc m (accA false 4 k 0))) (fun p _ => 16 - (intOf p).toNat)
    case atStart => exact ⟨0, by omega, rfl, HG⟩
    case round =>
      obtain ⟨i, hi, rfl, HI⟩ := hrel
      clear HG
      by_cases hi6 : i < 16
      · have hi6' : (i : Int) < 16 := by omega
        have hi0 : (0 : Int) ≤ i := by omega
        have cF : wr.cell? ⟨B, i, none⟩ = some (.int .u64 (F i)) := (cell_at HI.out.fb i).trans (regC_at F _ m i hi6)
        have cX : wr.cell? ⟨w.heap.size, i, none⟩ = some (.int .u64 (X i)) := (cell_at HI.out.rg i).trans (regC_at X pc m i hi6)
        have cA : wr.cell? ⟨A, 0, none⟩ = some (.bool false) := (cell_at HI.out.ea 0).trans rfl
        have lB := lt_of_heap HI.out.fb
        have lX := lt_of_heap HI.out.rg
        have lA := lt_of_heap HI.out.ea
        have HF : Hid (LS w wr A B X F pc m (accA false 4 k 0)) := HI.out
        have HFd : Hid (LS w wr.drew A B X F pc m (accA false 4 k 0)) := HI.out.below (below_drew' _)
        rw [hF2.out i hi6] at cF
        clear HI
        by_cases e : i = k
        · have ek : ((i : Int) == (k : Int)) = true := by simp [e]
          clear e
          go_wp2_with fail
          go_region
          go_wp2_with fail
          go_roundw
          case rel => exact ⟨i + 1, by omega, by go_num, HFd⟩
          case measure => simp [intOf]; omega
        · have ek : ((i : Int) == (k : Int)) = false := beq_false_of_ne (by omega)
          clear e
          go_wp2_with fail
          go_region
          go_wp2_with fail
          go_roundw
          case rel => exact ⟨i + 1, by omega, by go_num, HFd⟩
          case measure => simp [intOf]; omega
      · obtain rfl : i = 16 := by omega
        have r16 : wr.cell? ⟨w.heap.size, 16, none⟩ = some (.int .u64 pc) := (cell_at HI.out.rg 16).trans rfl
        have r17 : wr.cell? ⟨w.heap.size, 17, none⟩ = some (.int .i64 m) := (cell_at HI.out.rg 17).trans rfl
        have s16 : wr.cell? ⟨B, 16, none⟩ = some (.int .u64 (IntKind.u64.wrap (pc + 4))) := (cell_at HI.out.fb 16).trans rfl
        have s17 : wr.cell? ⟨B, 17, none⟩ = some (.int .i64 m) := (cell_at HI.out.fb 17).trans rfl
        have lB := lt_of_heap HI.out.fb
        have lX := lt_of_heap HI.out.rg
        go_wp2_with fail
        go_ret
        exact ⟨rfl, HI.out.bl⟩
  · have kz := kk0 hk0
    have hF2 : Hid (∀ i, i < 16 → F i = if i = k then 5 else X i) := fun i hi => by rw [hF i]; simp [hk0]
    clear hm hs0 kk0 kk1 hF hk0
    have bs : Below z.heap.size z (z.alloc (.cells #[.int .u64 18446744073709551615, .int .u64 4294967295, .int .u64 255] 23)) := below_box _ _
    have HR2 : Hid ((z.alloc (.cells #[.int .u64 18446744073709551615, .int .u64 4294967295, .int .u64 255] 23)).heap[w.heap.size]? = some (.cells (regC X pc m) 26 (0, 0))) := keepB HR.out bs
    have C4 := C3 (z.alloc (.cells #[.int .u64 18446744073709551615, .int .u64 4294967295, .int .u64 255] 23)) (HZ.out.below bs)
    have HBS : Hid (_) := bs
    clear bs C3
    go_wp2_with (first
      | (refine wpList_load_row rfl 26 _ rfl w.heap.size rfl 26 (regC X pc m) (0, 0) _ HR2.out Tryd.underlying26 rfl inf25 ?_)
      | fail)
    refine C4.mono ?_
    rintro e y3 ⟨rfl, b3⟩
    clear C4 q0 q1 q2 q3 ck la lr
    have bs := HBS.out
    have HL : Hid (y3.heap[w.heap.size]? = some (.cells (regC X pc m) 26 (0, 0)) ∧ y3.heap[A]? = some (.cells (accA false 4 k 0) 28 (0, 0)) ∧ Below w.heap.size w y3) := ⟨keepB (keepB HR.out bs) b3, keepB (keepB HA.out bs) b3, HB.out.trans ((bs.trans (b3.mono bs.size)).mono HB.out.size)⟩
    clear HR HR2 HA HB HZ HBS bs b3
    go_upto_region 18 with (first
      | (refine wpList_store_row rfl 26 _ _ rfl y3.heap.size (regC F (nx pc) m) rfl rfl 26 _ (heap_alloc_at y3 _) inf25 rfl (regC_one _ _ _) ?_)
      | fail)
    simp only [Act.put]
    have hbx := below_box y3 (.cells zeroRegs 26)
    have hgx := setRow_heap (y3.alloc (.cells zeroRegs 26)) y3.heap.size zeroRegs (regC F (nx pc) m) 26 (0, 0) (heap_alloc_at y3 _)
    have htx : Below y3.heap.size y3 ((y3.alloc (.cells zeroRegs 26)).setRow y3.heap.size (regC F (nx pc) m)) := hbx.trans (below_setRow' _ _ (Nat.le_refl _) _)
    unfold zeroRegs at hbx hgx htx
    generalize World.setRow _ _ _ = g at *
    have HG : Hid (LS w g A y3.heap.size X F pc m (accA false 4 k 0)) := ⟨keepB HL.out.1 htx, keepB HL.out.2.1 htx, hgx, HL.out.2.2.trans (htx.mono HL.out.2.2.size)⟩
    clear hbx hgx htx HL
    generalize y3.heap.size = B at *
    go_wp2_with fail
    go_loopw [15] (fun p wr => ∃ i : Nat, i ≤ 16 ∧ p = .int .i64 i ∧ Hid (LS w wr A B X F pc m (accA false 4 k 0))) (fun p _ => 16 - (intOf p).toNat)
    case atStart => exact ⟨0, by omega, rfl, HG⟩
    case round =>
      obtain ⟨i, hi, rfl, HI⟩ := hrel
      clear HG
      by_cases hi6 : i < 16
      · have hi6' : (i : Int) < 16 := by omega
        have hi0 : (0 : Int) ≤ i := by omega
        have cF : wr.cell? ⟨B, i, none⟩ = some (.int .u64 (F i)) := (cell_at HI.out.fb i).trans (regC_at F _ m i hi6)
        have cX : wr.cell? ⟨w.heap.size, i, none⟩ = some (.int .u64 (X i)) := (cell_at HI.out.rg i).trans (regC_at X pc m i hi6)
        have cA : wr.cell? ⟨A, 0, none⟩ = some (.bool false) := (cell_at HI.out.ea 0).trans rfl
        have lB := lt_of_heap HI.out.fb
        have lX := lt_of_heap HI.out.rg
        have lA := lt_of_heap HI.out.ea
        have HF : Hid (LS w wr A B X F pc m (accA false 4 k 0)) := HI.out
        have HFd : Hid (LS w wr.drew A B X F pc m (accA false 4 k 0)) := HI.out.below (below_drew' _)
        rw [hF2.out i hi6] at cF
        clear HI
        by_cases e : i = k
        · have ek : ((i : Int) == (k : Int)) = true := by simp [e]
          rw [if_pos e] at cF
          clear e
          go_wp2_with fail
          go_roundw
          case rel => exact ⟨i + 1, by omega, by go_num, HF⟩
          case measure => simp [intOf]; omega
        · have ek : ((i : Int) == (k : Int)) = false := beq_false_of_ne (by omega)
          rw [if_neg e] at cF
          clear e
          go_wp2_with fail
          go_region
          go_wp2_with fail
          go_roundw
          case rel => exact ⟨i + 1, by omega, by go_num, HFd⟩
          case measure => simp [intOf]; omega
      · obtain rfl : i = 16 := by omega
        have r16 : wr.cell? ⟨w.heap.size, 16, none⟩ = some (.int .u64 pc) := (cell_at HI.out.rg 16).trans rfl
        have r17 : wr.cell? ⟨w.heap.size, 17, none⟩ = some (.int .i64 m) := (cell_at HI.out.rg 17).trans rfl
        have s16 : wr.cell? ⟨B, 16, none⟩ = some (.int .u64 (IntKind.u64.wrap (pc + 4))) := (cell_at HI.out.fb 16).trans rfl
        have s17 : wr.cell? ⟨B, 17, none⟩ = some (.int .i64 m) := (cell_at HI.out.fb 17).trans rfl
        have lB := lt_of_heap HI.out.fb
        have lX := lt_of_heap HI.out.rg
        go_wp2_with fail
        go_ret
        exact ⟨rfl, HI.out.bl⟩
set_option maxHeartbeats 6400000 in
theorem stores_25 (op rg0 : Int) (k : Nat) (hk : k ≤ 15) (X : Nat → Int) (hX : ∀ n, n < 16 → U (X n)) (pc m : Int) (hop : wrap64 (23 + (wrap64 (op.tmod 6 + 6)).tmod 6) = 25) (hrg : bits .and .i64 rg0 15 = (k : Int)) (w : World) (hz : SZ w) : Calls Tryd.prog 4 #[.agg (regC X pc m), .int .i64 op, .int .i64 rg0] w fun e w' => e = .returned (.bool true) ∧ Below w.heap.size w w' := by
  obtain ⟨x, hx⟩ : ∃ x, w.alloc (.cells (regC X pc m) 26) = x := ⟨_, rfl⟩
  have b0 : Below w.heap.size w x := by rw [← hx]; exact below_box _ _
  have a0 : x.heap[w.heap.size]? = some (.cells (regC X pc m) 26 (0, 0)) := by rw [← hx]; exact heap_alloc_at _ _
  have b2 : Below x.heap.size x (x.alloc (.cells #[.int .i64 25, .int .i64 k, .int .i64 7, .int .i64 0, .int .i64 0] 41)) := below_box _ _
  have HA0 : Hid ((x.alloc (.cells #[.int .i64 25, .int .i64 k, .int .i64 7, .int .i64 0, .int .i64 0] 41)).heap[w.heap.size]? = some (.cells (regC X pc m) 26 (0, 0))) := keepB a0 b2
  have HB0 : Hid (Below w.heap.size w (x.alloc (.cells #[.int .i64 25, .int .i64 k, .int .i64 7, .int .i64 0, .int .i64 0] 41))) := b0.trans (b2.mono b0.size)
  have HZ0 : Hid (SZ (x.alloc (.cells #[.int .i64 25, .int .i64 k, .int .i64 7, .int .i64 0, .int .i64 0] 41))) := (hz.below b0).below b2
  have EN := enc_ld ⟨2, by decide⟩ ⟨k, by omega⟩
  simp only at EN
  have C1 := I.rencode_any 25 k 7 0 0 (x.alloc (.cells #[.int .i64 25, .int .i64 k, .int .i64 7, .int .i64 0, .int .i64 0] 41))
  unfold I.ins at C1
  obtain ⟨aw, haw⟩ : ∃ aw, I.encW 25 k 7 0 0 = aw := ⟨_, rfl⟩
  have EN2 : I.encE 25 k 7 0 0 = 0 ∧ I.validW aw = true ∧ I.opW aw = 25 ∧ I.rdW aw = (k : Int) ∧ 0 ≤ aw ∧ aw ≤ 4294967295 := by rw [← haw]; exact EN
  obtain ⟨n0, n1, n2, n3, n4, n5⟩ := EN2
  rw [haw, n0] at C1
  have C2 := fun w => decode_any aw n4 n5 X pc m hX w
  have ed : decE aw = 0 := by unfold decE; rw [if_pos ⟨n1, by omega, by omega⟩]
  obtain ⟨sv, hsv⟩ : ∃ sv, storedP X k 1 = sv := ⟨_, rfl⟩
  have ep : (decP aw X).arr = accA false 1 k 0 := by
    unfold decP
    rw [if_pos n1, n2, n3]
    unfold wantP
    rw [if_neg (by decide), if_pos (by decide)]
    rfl
  rw [ed, ep] at C2
  obtain ⟨u0, u1⟩ := hX k (by omega)
  have hm : k ≠ 0 → bits .and .u64 (X k) 255 = sv := fun hk0 => by
    rw [← hsv]
    unfold storedP
    rw [if_neg hk0]
    exact bits_mask .u64 64 (by decide) wraps_u64 8 (by decide) (X k) u0 (by omega)
  have hs0 : k = 0 → sv = 0 := fun hk0 => by rw [← hsv]; unfold storedP; rw [if_pos hk0]
  have k0 : (0 : Int) ≤ k := by omega
  have k1 : (k : Int) < 16 := by omega
  have kk0 : k ≠ 0 → ((k : Int) == 0) = false := fun h => beq_false_of_ne (by omega)
  have kk1 : k = 0 → ((k : Int) == 0) = true := fun h => by simp [h]
  have hF := fin_at X false 1 k hk (by decide)
  have hm0 : bits .and .u64 0 255 = 0 := by decide
  have HX : Hid (_) := hX
  clear EN haw n0 n1 n2 n3 n4 n5 ed ep hsv a0 b0 b2 hz hX
  unfold accA at C2
  go_enter Tryd.func4, Tryd.ntmps4
  go_wp2_with fail
  clear hx
  refine C1.mono ?_
  rintro e y ⟨rfl, b1⟩
  clear C1
  have HA1 : Hid (_) := keepB HA0.out b1
  have HB1 : Hid (_) := HB0.out.trans (b1.mono HB0.out.size)
  have HZ1 : Hid (_) := HZ0.out.below b1
  clear HA0 HB0 HZ0 b1
  go_wp2_with (first
    | (refine wpList_load_row rfl 26 _ rfl w.heap.size rfl 26 (regC X pc m) (0, 0) _ HA1.out Tryd.underlying26 rfl inf25 ?_)
    | fail)
  refine (C2 _).mono ?_
  rintro e y2 ⟨rfl, b1⟩
  clear C2
  have bz : Below y2.heap.size y2 (y2.alloc (.cells #[.bool false, .int .i64 1, .int .i64 k, .int .u64 0] 28)) := below_box _ _
  have HA : Hid ((y2.alloc (.cells #[.bool false, .int .i64 1, .int .i64 k, .int .u64 0] 28)).heap[y2.heap.size]? = some (.cells (accA false 1 k 0) 28 (0, 0))) := heap_alloc_at _ _
  have HR : Hid ((y2.alloc (.cells #[.bool false, .int .i64 1, .int .i64 k, .int .u64 0] 28)).heap[w.heap.size]? = some (.cells (regC X pc m) 26 (0, 0))) := keepB (keepB HA1.out b1) bz
  have HB : Hid (Below w.heap.size w (y2.alloc (.cells #[.bool false, .int .i64 1, .int .i64 k, .int .u64 0] 28))) := HB1.out.trans ((b1.trans (bz.mono b1.size)).mono HB1.out.size)
  have HZ : Hid (SZ (y2.alloc (.cells #[.bool false, .int .i64 1, .int .i64 k, .int .u64 0] 28))) := (HZ1.out.below b1).below bz
  clear HA1 HB1 HZ1 b1 bz
  go_upto_region 9 with fail
  generalize hz : (y2.alloc (.cells #[.bool false, .int .i64 1, .int .i64 k, .int .u64 0] 28)) = z at *
  clear hz
  generalize y2.heap.size = A at *
  have q0 : z.cell? ⟨A, 0, none⟩ = some (.bool false) := (cell_at HA.out 0).trans rfl
  have q1 : z.cell? ⟨A, 1, none⟩ = some (.int .i64 1) := (cell_at HA.out 1).trans rfl
  have q2 : z.cell? ⟨A, 2, none⟩ = some (.int .i64 k) := (cell_at HA.out 2).trans rfl
  have q3 : z.cell? ⟨A, 3, none⟩ = some (.int .u64 0) := (cell_at HA.out 3).trans rfl
  have ck : z.cell? ⟨w.heap.size, k, none⟩ = some (.int .u64 (X k)) := (cell_at HR.out k).trans (regC_at X pc m k (by omega))
  have la := lt_of_heap HA.out
  have lr := lt_of_heap HR.out
  have C3 := fun w hz => finish_any X pc m false 1 k 0 5 (by decide) (by decide) w hz
  obtain ⟨F, hFF⟩ : ∃ F, finX X false 1 k 5 = F := ⟨_, rfl⟩
  rw [hFF] at C3 hF
  clear hFF
  unfold accA at C3
  by_cases hk0 : k = 0
  · have kz := kk1 hk0
    have hF2 : Hid (∀ i, i < 16 → F i = X i) := fun i hi => by rw [hF i]; rw [if_neg (by simp [hk0])]
    clear hm hs0 kk0 kk1 hF hk0
    have bs : Below z.heap.size z (z.alloc (.cells #[.int .u64 18446744073709551615, .int .u64 4294967295, .int .u64 255] 23)) := below_box _ _
    have HR2 : Hid ((z.alloc (.cells #[.int .u64 18446744073709551615, .int .u64 4294967295, .int .u64 255] 23)).heap[w.heap.size]? = some (.cells (regC X pc m) 26 (0, 0))) := keepB HR.out bs
    have C4 := C3 (z.alloc (.cells #[.int .u64 18446744073709551615, .int .u64 4294967295, .int .u64 255] 23)) (HZ.out.below bs)
    have HBS : Hid (_) := bs
    clear bs C3
    go_wp2_with (first
      | (refine wpList_load_row rfl 26 _ rfl w.heap.size rfl 26 (regC X pc m) (0, 0) _ HR2.out Tryd.underlying26 rfl inf25 ?_)
      | fail)
    refine C4.mono ?_
    rintro e y3 ⟨rfl, b3⟩
    clear C4 q0 q1 q2 q3 ck la lr
    have bs := HBS.out
    have HL : Hid (y3.heap[w.heap.size]? = some (.cells (regC X pc m) 26 (0, 0)) ∧ y3.heap[A]? = some (.cells (accA false 1 k 0) 28 (0, 0)) ∧ Below w.heap.size w y3) := ⟨keepB (keepB HR.out bs) b3, keepB (keepB HA.out bs) b3, HB.out.trans ((bs.trans (b3.mono bs.size)).mono HB.out.size)⟩
    clear HR HR2 HA HB HZ HBS bs b3
    go_upto_region 18 with (first
      | (refine wpList_store_row rfl 26 _ _ rfl y3.heap.size (regC F (nx pc) m) rfl rfl 26 _ (heap_alloc_at y3 _) inf25 rfl (regC_one _ _ _) ?_)
      | fail)
    simp only [Act.put]
    have hbx := below_box y3 (.cells zeroRegs 26)
    have hgx := setRow_heap (y3.alloc (.cells zeroRegs 26)) y3.heap.size zeroRegs (regC F (nx pc) m) 26 (0, 0) (heap_alloc_at y3 _)
    have htx : Below y3.heap.size y3 ((y3.alloc (.cells zeroRegs 26)).setRow y3.heap.size (regC F (nx pc) m)) := hbx.trans (below_setRow' _ _ (Nat.le_refl _) _)
    unfold zeroRegs at hbx hgx htx
    generalize World.setRow _ _ _ = g at *
    have HG : Hid (LS w g A y3.heap.size X F pc m (accA false 1 k 0)) := ⟨keepB HL.out.1 htx, keepB HL.out.2.1 htx, hgx, HL.out.2.2.trans (htx.mono HL.out.2.2.size)⟩
    clear hbx hgx htx HL
    generalize y3.heap.size = B at *
    go_wp2_with fail
    go_loopw [15] (fun p wr => ∃ i : Nat, i ≤ 16 ∧ p = .int .i64 i ∧ Hid (LS w wr A B X F pc m (accA false 1 k 0))) (fun p _ => 16 - (intOf p).toNat)
    case atStart => exact ⟨0, by omega, rfl, HG⟩
    case round =>
      obtain ⟨i, hi, rfl, HI⟩ := hrel
      clear HG
      by_cases hi6 : i < 16
      · have hi6' : (i : Int) < 16 := by omega
        have hi0 : (0 : Int) ≤ i := by omega
        have cF : wr.cell? ⟨B, i, none⟩ = some (.int .u64 (F i)) := (cell_at HI.out.fb i).trans (regC_at F _ m i hi6)
        have cX : wr.cell? ⟨w.heap.size, i, none⟩ = some (.int .u64 (X i)) := (cell_at HI.out.rg i).trans (regC_at X pc m i hi6)
        have cA : wr.cell? ⟨A, 0, none⟩ = some (.bool false) := (cell_at HI.out.ea 0).trans rfl
        have lB := lt_of_heap HI.out.fb
        have lX := lt_of_heap HI.out.rg
        have lA := lt_of_heap HI.out.ea
        have HF : Hid (LS w wr A B X F pc m (accA false 1 k 0)) := HI.out
        have HFd : Hid (LS w wr.drew A B X F pc m (accA false 1 k 0)) := HI.out.below (below_drew' _)
        rw [hF2.out i hi6] at cF
        clear HI
        by_cases e : i = k
        · have ek : ((i : Int) == (k : Int)) = true := by simp [e]
          clear e
          go_wp2_with fail
          go_region
          go_wp2_with fail
          go_roundw
          case rel => exact ⟨i + 1, by omega, by go_num, HFd⟩
          case measure => simp [intOf]; omega
        · have ek : ((i : Int) == (k : Int)) = false := beq_false_of_ne (by omega)
          clear e
          go_wp2_with fail
          go_region
          go_wp2_with fail
          go_roundw
          case rel => exact ⟨i + 1, by omega, by go_num, HFd⟩
          case measure => simp [intOf]; omega
      · obtain rfl : i = 16 := by omega
        have r16 : wr.cell? ⟨w.heap.size, 16, none⟩ = some (.int .u64 pc) := (cell_at HI.out.rg 16).trans rfl
        have r17 : wr.cell? ⟨w.heap.size, 17, none⟩ = some (.int .i64 m) := (cell_at HI.out.rg 17).trans rfl
        have s16 : wr.cell? ⟨B, 16, none⟩ = some (.int .u64 (IntKind.u64.wrap (pc + 4))) := (cell_at HI.out.fb 16).trans rfl
        have s17 : wr.cell? ⟨B, 17, none⟩ = some (.int .i64 m) := (cell_at HI.out.fb 17).trans rfl
        have lB := lt_of_heap HI.out.fb
        have lX := lt_of_heap HI.out.rg
        go_wp2_with fail
        go_ret
        exact ⟨rfl, HI.out.bl⟩
  · have kz := kk0 hk0
    have hF2 : Hid (∀ i, i < 16 → F i = if i = k then 5 else X i) := fun i hi => by rw [hF i]; simp [hk0]
    clear hm hs0 kk0 kk1 hF hk0
    have bs : Below z.heap.size z (z.alloc (.cells #[.int .u64 18446744073709551615, .int .u64 4294967295, .int .u64 255] 23)) := below_box _ _
    have HR2 : Hid ((z.alloc (.cells #[.int .u64 18446744073709551615, .int .u64 4294967295, .int .u64 255] 23)).heap[w.heap.size]? = some (.cells (regC X pc m) 26 (0, 0))) := keepB HR.out bs
    have C4 := C3 (z.alloc (.cells #[.int .u64 18446744073709551615, .int .u64 4294967295, .int .u64 255] 23)) (HZ.out.below bs)
    have HBS : Hid (_) := bs
    clear bs C3
    go_wp2_with (first
      | (refine wpList_load_row rfl 26 _ rfl w.heap.size rfl 26 (regC X pc m) (0, 0) _ HR2.out Tryd.underlying26 rfl inf25 ?_)
      | fail)
    refine C4.mono ?_
    rintro e y3 ⟨rfl, b3⟩
    clear C4 q0 q1 q2 q3 ck la lr
    have bs := HBS.out
    have HL : Hid (y3.heap[w.heap.size]? = some (.cells (regC X pc m) 26 (0, 0)) ∧ y3.heap[A]? = some (.cells (accA false 1 k 0) 28 (0, 0)) ∧ Below w.heap.size w y3) := ⟨keepB (keepB HR.out bs) b3, keepB (keepB HA.out bs) b3, HB.out.trans ((bs.trans (b3.mono bs.size)).mono HB.out.size)⟩
    clear HR HR2 HA HB HZ HBS bs b3
    go_upto_region 18 with (first
      | (refine wpList_store_row rfl 26 _ _ rfl y3.heap.size (regC F (nx pc) m) rfl rfl 26 _ (heap_alloc_at y3 _) inf25 rfl (regC_one _ _ _) ?_)
      | fail)
    simp only [Act.put]
    have hbx := below_box y3 (.cells zeroRegs 26)
    have hgx := setRow_heap (y3.alloc (.cells zeroRegs 26)) y3.heap.size zeroRegs (regC F (nx pc) m) 26 (0, 0) (heap_alloc_at y3 _)
    have htx : Below y3.heap.size y3 ((y3.alloc (.cells zeroRegs 26)).setRow y3.heap.size (regC F (nx pc) m)) := hbx.trans (below_setRow' _ _ (Nat.le_refl _) _)
    unfold zeroRegs at hbx hgx htx
    generalize World.setRow _ _ _ = g at *
    have HG : Hid (LS w g A y3.heap.size X F pc m (accA false 1 k 0)) := ⟨keepB HL.out.1 htx, keepB HL.out.2.1 htx, hgx, HL.out.2.2.trans (htx.mono HL.out.2.2.size)⟩
    clear hbx hgx htx HL
    generalize y3.heap.size = B at *
    go_wp2_with fail
    go_loopw [15] (fun p wr => ∃ i : Nat, i ≤ 16 ∧ p = .int .i64 i ∧ Hid (LS w wr A B X F pc m (accA false 1 k 0))) (fun p _ => 16 - (intOf p).toNat)
    case atStart => exact ⟨0, by omega, rfl, HG⟩
    case round =>
      obtain ⟨i, hi, rfl, HI⟩ := hrel
      clear HG
      by_cases hi6 : i < 16
      · have hi6' : (i : Int) < 16 := by omega
        have hi0 : (0 : Int) ≤ i := by omega
        have cF : wr.cell? ⟨B, i, none⟩ = some (.int .u64 (F i)) := (cell_at HI.out.fb i).trans (regC_at F _ m i hi6)
        have cX : wr.cell? ⟨w.heap.size, i, none⟩ = some (.int .u64 (X i)) := (cell_at HI.out.rg i).trans (regC_at X pc m i hi6)
        have cA : wr.cell? ⟨A, 0, none⟩ = some (.bool false) := (cell_at HI.out.ea 0).trans rfl
        have lB := lt_of_heap HI.out.fb
        have lX := lt_of_heap HI.out.rg
        have lA := lt_of_heap HI.out.ea
        have HF : Hid (LS w wr A B X F pc m (accA false 1 k 0)) := HI.out
        have HFd : Hid (LS w wr.drew A B X F pc m (accA false 1 k 0)) := HI.out.below (below_drew' _)
        rw [hF2.out i hi6] at cF
        clear HI
        by_cases e : i = k
        · have ek : ((i : Int) == (k : Int)) = true := by simp [e]
          rw [if_pos e] at cF
          clear e
          go_wp2_with fail
          go_roundw
          case rel => exact ⟨i + 1, by omega, by go_num, HF⟩
          case measure => simp [intOf]; omega
        · have ek : ((i : Int) == (k : Int)) = false := beq_false_of_ne (by omega)
          rw [if_neg e] at cF
          clear e
          go_wp2_with fail
          go_region
          go_wp2_with fail
          go_roundw
          case rel => exact ⟨i + 1, by omega, by go_num, HFd⟩
          case measure => simp [intOf]; omega
      · obtain rfl : i = 16 := by omega
        have r16 : wr.cell? ⟨w.heap.size, 16, none⟩ = some (.int .u64 pc) := (cell_at HI.out.rg 16).trans rfl
        have r17 : wr.cell? ⟨w.heap.size, 17, none⟩ = some (.int .i64 m) := (cell_at HI.out.rg 17).trans rfl
        have s16 : wr.cell? ⟨B, 16, none⟩ = some (.int .u64 (IntKind.u64.wrap (pc + 4))) := (cell_at HI.out.fb 16).trans rfl
        have s17 : wr.cell? ⟨B, 17, none⟩ = some (.int .i64 m) := (cell_at HI.out.fb 17).trans rfl
        have lB := lt_of_heap HI.out.fb
        have lX := lt_of_heap HI.out.rg
        go_wp2_with fail
        go_ret
        exact ⟨rfl, HI.out.bl⟩
set_option maxHeartbeats 6400000 in
theorem stores_26 (op rg0 : Int) (k : Nat) (hk : k ≤ 15) (X : Nat → Int) (hX : ∀ n, n < 16 → U (X n)) (pc m : Int) (hop : wrap64 (23 + (wrap64 (op.tmod 6 + 6)).tmod 6) = 26) (hrg : bits .and .i64 rg0 15 = (k : Int)) (w : World) (hz : SZ w) : Calls Tryd.prog 4 #[.agg (regC X pc m), .int .i64 op, .int .i64 rg0] w fun e w' => e = .returned (.bool true) ∧ Below w.heap.size w w' := by
  obtain ⟨x, hx⟩ : ∃ x, w.alloc (.cells (regC X pc m) 26) = x := ⟨_, rfl⟩
  have b0 : Below w.heap.size w x := by rw [← hx]; exact below_box _ _
  have a0 : x.heap[w.heap.size]? = some (.cells (regC X pc m) 26 (0, 0)) := by rw [← hx]; exact heap_alloc_at _ _
  have b2 : Below x.heap.size x (x.alloc (.cells #[.int .i64 26, .int .i64 0, .int .i64 7, .int .i64 k, .int .i64 0] 41)) := below_box _ _
  have HA0 : Hid ((x.alloc (.cells #[.int .i64 26, .int .i64 0, .int .i64 7, .int .i64 k, .int .i64 0] 41)).heap[w.heap.size]? = some (.cells (regC X pc m) 26 (0, 0))) := keepB a0 b2
  have HB0 : Hid (Below w.heap.size w (x.alloc (.cells #[.int .i64 26, .int .i64 0, .int .i64 7, .int .i64 k, .int .i64 0] 41))) := b0.trans (b2.mono b0.size)
  have HZ0 : Hid (SZ (x.alloc (.cells #[.int .i64 26, .int .i64 0, .int .i64 7, .int .i64 k, .int .i64 0] 41))) := (hz.below b0).below b2
  have EN := enc_st ⟨0, by decide⟩ ⟨k, by omega⟩
  simp only at EN
  have C1 := I.rencode_any 26 0 7 k 0 (x.alloc (.cells #[.int .i64 26, .int .i64 0, .int .i64 7, .int .i64 k, .int .i64 0] 41))
  unfold I.ins at C1
  obtain ⟨aw, haw⟩ : ∃ aw, I.encW 26 0 7 k 0 = aw := ⟨_, rfl⟩
  have EN2 : I.encE 26 0 7 k 0 = 0 ∧ I.validW aw = true ∧ I.opW aw = 26 ∧ I.rs2W aw = (k : Int) ∧ 0 ≤ aw ∧ aw ≤ 4294967295 := by rw [← haw]; exact EN
  obtain ⟨n0, n1, n2, n3, n4, n5⟩ := EN2
  rw [haw, n0] at C1
  have C2 := fun w => decode_any aw n4 n5 X pc m hX w
  have ed : decE aw = 0 := by unfold decE; rw [if_pos ⟨n1, by omega, by omega⟩]
  obtain ⟨sv, hsv⟩ : ∃ sv, storedP X k 8 = sv := ⟨_, rfl⟩
  have ep : (decP aw X).arr = accA true 8 k sv := by
    unfold decP
    rw [if_pos n1, n2, n3, Int.toNat_natCast]
    unfold wantP
    rw [if_pos (by decide), show widthP 26 = 8 from rfl, hsv]
    rfl
  rw [ed, ep] at C2
  obtain ⟨u0, u1⟩ := hX k (by omega)
  have hm : k ≠ 0 → bits .and .u64 (X k) 18446744073709551615 = sv := fun hk0 => by
    rw [← hsv]
    unfold storedP
    rw [if_neg hk0]
    exact (bits_all64 (X k) u0 u1).trans (by show X k = X k % 18446744073709551616; omega)
  have hs0 : k = 0 → sv = 0 := fun hk0 => by rw [← hsv]; unfold storedP; rw [if_pos hk0]
  have k0 : (0 : Int) ≤ k := by omega
  have k1 : (k : Int) < 16 := by omega
  have kk0 : k ≠ 0 → ((k : Int) == 0) = false := fun h => beq_false_of_ne (by omega)
  have kk1 : k = 0 → ((k : Int) == 0) = true := fun h => by simp [h]
  have hF := fin_at X true 8 k hk (by decide)
  have hm0 : bits .and .u64 0 18446744073709551615 = 0 := by decide
  have HX : Hid (_) := hX
  clear EN haw n0 n1 n2 n3 n4 n5 ed ep hsv a0 b0 b2 hz hX
  unfold accA at C2
  go_enter Tryd.func4, Tryd.ntmps4
  go_wp2_with fail
  clear hx
  refine C1.mono ?_
  rintro e y ⟨rfl, b1⟩
  clear C1
  have HA1 : Hid (_) := keepB HA0.out b1
  have HB1 : Hid (_) := HB0.out.trans (b1.mono HB0.out.size)
  have HZ1 : Hid (_) := HZ0.out.below b1
  clear HA0 HB0 HZ0 b1
  go_wp2_with (first
    | (refine wpList_load_row rfl 26 _ rfl w.heap.size rfl 26 (regC X pc m) (0, 0) _ HA1.out Tryd.underlying26 rfl inf25 ?_)
    | fail)
  refine (C2 _).mono ?_
  rintro e y2 ⟨rfl, b1⟩
  clear C2
  have bz : Below y2.heap.size y2 (y2.alloc (.cells #[.bool true, .int .i64 8, .int .i64 k, .int .u64 sv] 28)) := below_box _ _
  have HA : Hid ((y2.alloc (.cells #[.bool true, .int .i64 8, .int .i64 k, .int .u64 sv] 28)).heap[y2.heap.size]? = some (.cells (accA true 8 k sv) 28 (0, 0))) := heap_alloc_at _ _
  have HR : Hid ((y2.alloc (.cells #[.bool true, .int .i64 8, .int .i64 k, .int .u64 sv] 28)).heap[w.heap.size]? = some (.cells (regC X pc m) 26 (0, 0))) := keepB (keepB HA1.out b1) bz
  have HB : Hid (Below w.heap.size w (y2.alloc (.cells #[.bool true, .int .i64 8, .int .i64 k, .int .u64 sv] 28))) := HB1.out.trans ((b1.trans (bz.mono b1.size)).mono HB1.out.size)
  have HZ : Hid (SZ (y2.alloc (.cells #[.bool true, .int .i64 8, .int .i64 k, .int .u64 sv] 28))) := (HZ1.out.below b1).below bz
  clear HA1 HB1 HZ1 b1 bz
  go_upto_region 9 with fail
  generalize hz : (y2.alloc (.cells #[.bool true, .int .i64 8, .int .i64 k, .int .u64 sv] 28)) = z at *
  clear hz
  generalize y2.heap.size = A at *
  have q0 : z.cell? ⟨A, 0, none⟩ = some (.bool true) := (cell_at HA.out 0).trans rfl
  have q1 : z.cell? ⟨A, 1, none⟩ = some (.int .i64 8) := (cell_at HA.out 1).trans rfl
  have q2 : z.cell? ⟨A, 2, none⟩ = some (.int .i64 k) := (cell_at HA.out 2).trans rfl
  have q3 : z.cell? ⟨A, 3, none⟩ = some (.int .u64 sv) := (cell_at HA.out 3).trans rfl
  have ck : z.cell? ⟨w.heap.size, k, none⟩ = some (.int .u64 (X k)) := (cell_at HR.out k).trans (regC_at X pc m k (by omega))
  have la := lt_of_heap HA.out
  have lr := lt_of_heap HR.out
  have C3 := fun w hz => finish_any X pc m true 8 k sv 5 (by decide) (by decide) w hz
  obtain ⟨F, hFF⟩ : ∃ F, finX X true 8 k 5 = F := ⟨_, rfl⟩
  rw [hFF] at C3 hF
  clear hFF
  unfold accA at C3
  by_cases hk0 : k = 0
  · have kz := kk1 hk0
    have hsv0 := hs0 hk0
    subst hsv0
    have hF2 : Hid (∀ i, i < 16 → F i = X i) := fun i hi => by rw [hF i]; rw [if_neg (by simp)]
    clear hm hs0 kk0 kk1 hF hk0
    have bs : Below z.heap.size z (z.alloc (.cells #[.int .u64 18446744073709551615, .int .u64 4294967295, .int .u64 255] 23)) := below_box _ _
    have HR2 : Hid ((z.alloc (.cells #[.int .u64 18446744073709551615, .int .u64 4294967295, .int .u64 255] 23)).heap[w.heap.size]? = some (.cells (regC X pc m) 26 (0, 0))) := keepB HR.out bs
    have C4 := C3 (z.alloc (.cells #[.int .u64 18446744073709551615, .int .u64 4294967295, .int .u64 255] 23)) (HZ.out.below bs)
    have HBS : Hid (_) := bs
    clear bs C3
    go_wp2_with (first
      | (refine wpList_load_row rfl 26 _ rfl w.heap.size rfl 26 (regC X pc m) (0, 0) _ HR2.out Tryd.underlying26 rfl inf25 ?_)
      | fail)
    refine C4.mono ?_
    rintro e y3 ⟨rfl, b3⟩
    clear C4 q0 q1 q2 q3 ck la lr
    have bs := HBS.out
    have HL : Hid (y3.heap[w.heap.size]? = some (.cells (regC X pc m) 26 (0, 0)) ∧ y3.heap[A]? = some (.cells (accA true 8 k 0) 28 (0, 0)) ∧ Below w.heap.size w y3) := ⟨keepB (keepB HR.out bs) b3, keepB (keepB HA.out bs) b3, HB.out.trans ((bs.trans (b3.mono bs.size)).mono HB.out.size)⟩
    clear HR HR2 HA HB HZ HBS bs b3
    go_upto_region 18 with (first
      | (refine wpList_store_row rfl 26 _ _ rfl y3.heap.size (regC F (nx pc) m) rfl rfl 26 _ (heap_alloc_at y3 _) inf25 rfl (regC_one _ _ _) ?_)
      | fail)
    simp only [Act.put]
    have hbx := below_box y3 (.cells zeroRegs 26)
    have hgx := setRow_heap (y3.alloc (.cells zeroRegs 26)) y3.heap.size zeroRegs (regC F (nx pc) m) 26 (0, 0) (heap_alloc_at y3 _)
    have htx : Below y3.heap.size y3 ((y3.alloc (.cells zeroRegs 26)).setRow y3.heap.size (regC F (nx pc) m)) := hbx.trans (below_setRow' _ _ (Nat.le_refl _) _)
    unfold zeroRegs at hbx hgx htx
    generalize World.setRow _ _ _ = g at *
    have HG : Hid (LS w g A y3.heap.size X F pc m (accA true 8 k 0)) := ⟨keepB HL.out.1 htx, keepB HL.out.2.1 htx, hgx, HL.out.2.2.trans (htx.mono HL.out.2.2.size)⟩
    clear hbx hgx htx HL
    generalize y3.heap.size = B at *
    go_wp2_with fail
    go_loopw [15] (fun p wr => ∃ i : Nat, i ≤ 16 ∧ p = .int .i64 i ∧ Hid (LS w wr A B X F pc m (accA true 8 k 0))) (fun p _ => 16 - (intOf p).toNat)
    case atStart => exact ⟨0, by omega, rfl, HG⟩
    case round =>
      obtain ⟨i, hi, rfl, HI⟩ := hrel
      clear HG
      by_cases hi6 : i < 16
      · have hi6' : (i : Int) < 16 := by omega
        have hi0 : (0 : Int) ≤ i := by omega
        have cF : wr.cell? ⟨B, i, none⟩ = some (.int .u64 (F i)) := (cell_at HI.out.fb i).trans (regC_at F _ m i hi6)
        have cX : wr.cell? ⟨w.heap.size, i, none⟩ = some (.int .u64 (X i)) := (cell_at HI.out.rg i).trans (regC_at X pc m i hi6)
        have cA : wr.cell? ⟨A, 0, none⟩ = some (.bool true) := (cell_at HI.out.ea 0).trans rfl
        have lB := lt_of_heap HI.out.fb
        have lX := lt_of_heap HI.out.rg
        have lA := lt_of_heap HI.out.ea
        have HF : Hid (LS w wr A B X F pc m (accA true 8 k 0)) := HI.out
        have HFd : Hid (LS w wr.drew A B X F pc m (accA true 8 k 0)) := HI.out.below (below_drew' _)
        rw [hF2.out i hi6] at cF
        clear HI
        by_cases e : i = k
        · have ek : ((i : Int) == (k : Int)) = true := by simp [e]
          clear e
          go_wp2_with fail
          go_region
          go_wp2_with fail
          go_roundw
          case rel => exact ⟨i + 1, by omega, by go_num, HFd⟩
          case measure => simp [intOf]; omega
        · have ek : ((i : Int) == (k : Int)) = false := beq_false_of_ne (by omega)
          clear e
          go_wp2_with fail
          go_region
          go_wp2_with fail
          go_roundw
          case rel => exact ⟨i + 1, by omega, by go_num, HFd⟩
          case measure => simp [intOf]; omega
      · obtain rfl : i = 16 := by omega
        have r16 : wr.cell? ⟨w.heap.size, 16, none⟩ = some (.int .u64 pc) := (cell_at HI.out.rg 16).trans rfl
        have r17 : wr.cell? ⟨w.heap.size, 17, none⟩ = some (.int .i64 m) := (cell_at HI.out.rg 17).trans rfl
        have s16 : wr.cell? ⟨B, 16, none⟩ = some (.int .u64 (IntKind.u64.wrap (pc + 4))) := (cell_at HI.out.fb 16).trans rfl
        have s17 : wr.cell? ⟨B, 17, none⟩ = some (.int .i64 m) := (cell_at HI.out.fb 17).trans rfl
        have lB := lt_of_heap HI.out.fb
        have lX := lt_of_heap HI.out.rg
        go_wp2_with fail
        go_ret
        exact ⟨rfl, HI.out.bl⟩
  · have kz := kk0 hk0
    have hmk := hm hk0
    have hF2 : Hid (∀ i, i < 16 → F i = X i) := fun i hi => by rw [hF i]; rw [if_neg (by simp)]
    clear hm hs0 kk0 kk1 hF hk0
    have bs : Below z.heap.size z (z.alloc (.cells #[.int .u64 18446744073709551615, .int .u64 4294967295, .int .u64 255] 23)) := below_box _ _
    have HR2 : Hid ((z.alloc (.cells #[.int .u64 18446744073709551615, .int .u64 4294967295, .int .u64 255] 23)).heap[w.heap.size]? = some (.cells (regC X pc m) 26 (0, 0))) := keepB HR.out bs
    have C4 := C3 (z.alloc (.cells #[.int .u64 18446744073709551615, .int .u64 4294967295, .int .u64 255] 23)) (HZ.out.below bs)
    have HBS : Hid (_) := bs
    clear bs C3
    go_wp2_with (first
      | (refine wpList_load_row rfl 26 _ rfl w.heap.size rfl 26 (regC X pc m) (0, 0) _ HR2.out Tryd.underlying26 rfl inf25 ?_)
      | fail)
    refine C4.mono ?_
    rintro e y3 ⟨rfl, b3⟩
    clear C4 q0 q1 q2 q3 ck la lr
    have bs := HBS.out
    have HL : Hid (y3.heap[w.heap.size]? = some (.cells (regC X pc m) 26 (0, 0)) ∧ y3.heap[A]? = some (.cells (accA true 8 k sv) 28 (0, 0)) ∧ Below w.heap.size w y3) := ⟨keepB (keepB HR.out bs) b3, keepB (keepB HA.out bs) b3, HB.out.trans ((bs.trans (b3.mono bs.size)).mono HB.out.size)⟩
    clear HR HR2 HA HB HZ HBS bs b3
    go_upto_region 18 with (first
      | (refine wpList_store_row rfl 26 _ _ rfl y3.heap.size (regC F (nx pc) m) rfl rfl 26 _ (heap_alloc_at y3 _) inf25 rfl (regC_one _ _ _) ?_)
      | fail)
    simp only [Act.put]
    have hbx := below_box y3 (.cells zeroRegs 26)
    have hgx := setRow_heap (y3.alloc (.cells zeroRegs 26)) y3.heap.size zeroRegs (regC F (nx pc) m) 26 (0, 0) (heap_alloc_at y3 _)
    have htx : Below y3.heap.size y3 ((y3.alloc (.cells zeroRegs 26)).setRow y3.heap.size (regC F (nx pc) m)) := hbx.trans (below_setRow' _ _ (Nat.le_refl _) _)
    unfold zeroRegs at hbx hgx htx
    generalize World.setRow _ _ _ = g at *
    have HG : Hid (LS w g A y3.heap.size X F pc m (accA true 8 k sv)) := ⟨keepB HL.out.1 htx, keepB HL.out.2.1 htx, hgx, HL.out.2.2.trans (htx.mono HL.out.2.2.size)⟩
    clear hbx hgx htx HL
    generalize y3.heap.size = B at *
    go_wp2_with fail
    go_loopw [15] (fun p wr => ∃ i : Nat, i ≤ 16 ∧ p = .int .i64 i ∧ Hid (LS w wr A B X F pc m (accA true 8 k sv))) (fun p _ => 16 - (intOf p).toNat)
    case atStart => exact ⟨0, by omega, rfl, HG⟩
    case round =>
      obtain ⟨i, hi, rfl, HI⟩ := hrel
      clear HG
      by_cases hi6 : i < 16
      · have hi6' : (i : Int) < 16 := by omega
        have hi0 : (0 : Int) ≤ i := by omega
        have cF : wr.cell? ⟨B, i, none⟩ = some (.int .u64 (F i)) := (cell_at HI.out.fb i).trans (regC_at F _ m i hi6)
        have cX : wr.cell? ⟨w.heap.size, i, none⟩ = some (.int .u64 (X i)) := (cell_at HI.out.rg i).trans (regC_at X pc m i hi6)
        have cA : wr.cell? ⟨A, 0, none⟩ = some (.bool true) := (cell_at HI.out.ea 0).trans rfl
        have lB := lt_of_heap HI.out.fb
        have lX := lt_of_heap HI.out.rg
        have lA := lt_of_heap HI.out.ea
        have HF : Hid (LS w wr A B X F pc m (accA true 8 k sv)) := HI.out
        have HFd : Hid (LS w wr.drew A B X F pc m (accA true 8 k sv)) := HI.out.below (below_drew' _)
        rw [hF2.out i hi6] at cF
        clear HI
        by_cases e : i = k
        · have ek : ((i : Int) == (k : Int)) = true := by simp [e]
          clear e
          go_wp2_with fail
          go_region
          go_wp2_with fail
          go_roundw
          case rel => exact ⟨i + 1, by omega, by go_num, HFd⟩
          case measure => simp [intOf]; omega
        · have ek : ((i : Int) == (k : Int)) = false := beq_false_of_ne (by omega)
          clear e
          go_wp2_with fail
          go_region
          go_wp2_with fail
          go_roundw
          case rel => exact ⟨i + 1, by omega, by go_num, HFd⟩
          case measure => simp [intOf]; omega
      · obtain rfl : i = 16 := by omega
        have r16 : wr.cell? ⟨w.heap.size, 16, none⟩ = some (.int .u64 pc) := (cell_at HI.out.rg 16).trans rfl
        have r17 : wr.cell? ⟨w.heap.size, 17, none⟩ = some (.int .i64 m) := (cell_at HI.out.rg 17).trans rfl
        have s16 : wr.cell? ⟨B, 16, none⟩ = some (.int .u64 (IntKind.u64.wrap (pc + 4))) := (cell_at HI.out.fb 16).trans rfl
        have s17 : wr.cell? ⟨B, 17, none⟩ = some (.int .i64 m) := (cell_at HI.out.fb 17).trans rfl
        have lB := lt_of_heap HI.out.fb
        have lX := lt_of_heap HI.out.rg
        go_wp2_with fail
        go_ret
        exact ⟨rfl, HI.out.bl⟩
set_option maxHeartbeats 6400000 in
theorem stores_27 (op rg0 : Int) (k : Nat) (hk : k ≤ 15) (X : Nat → Int) (hX : ∀ n, n < 16 → U (X n)) (pc m : Int) (hop : wrap64 (23 + (wrap64 (op.tmod 6 + 6)).tmod 6) = 27) (hrg : bits .and .i64 rg0 15 = (k : Int)) (w : World) (hz : SZ w) : Calls Tryd.prog 4 #[.agg (regC X pc m), .int .i64 op, .int .i64 rg0] w fun e w' => e = .returned (.bool true) ∧ Below w.heap.size w w' := by
  obtain ⟨x, hx⟩ : ∃ x, w.alloc (.cells (regC X pc m) 26) = x := ⟨_, rfl⟩
  have b0 : Below w.heap.size w x := by rw [← hx]; exact below_box _ _
  have a0 : x.heap[w.heap.size]? = some (.cells (regC X pc m) 26 (0, 0)) := by rw [← hx]; exact heap_alloc_at _ _
  have b2 : Below x.heap.size x (x.alloc (.cells #[.int .i64 27, .int .i64 0, .int .i64 7, .int .i64 k, .int .i64 0] 41)) := below_box _ _
  have HA0 : Hid ((x.alloc (.cells #[.int .i64 27, .int .i64 0, .int .i64 7, .int .i64 k, .int .i64 0] 41)).heap[w.heap.size]? = some (.cells (regC X pc m) 26 (0, 0))) := keepB a0 b2
  have HB0 : Hid (Below w.heap.size w (x.alloc (.cells #[.int .i64 27, .int .i64 0, .int .i64 7, .int .i64 k, .int .i64 0] 41))) := b0.trans (b2.mono b0.size)
  have HZ0 : Hid (SZ (x.alloc (.cells #[.int .i64 27, .int .i64 0, .int .i64 7, .int .i64 k, .int .i64 0] 41))) := (hz.below b0).below b2
  have EN := enc_st ⟨1, by decide⟩ ⟨k, by omega⟩
  simp only at EN
  have C1 := I.rencode_any 27 0 7 k 0 (x.alloc (.cells #[.int .i64 27, .int .i64 0, .int .i64 7, .int .i64 k, .int .i64 0] 41))
  unfold I.ins at C1
  obtain ⟨aw, haw⟩ : ∃ aw, I.encW 27 0 7 k 0 = aw := ⟨_, rfl⟩
  have EN2 : I.encE 27 0 7 k 0 = 0 ∧ I.validW aw = true ∧ I.opW aw = 27 ∧ I.rs2W aw = (k : Int) ∧ 0 ≤ aw ∧ aw ≤ 4294967295 := by rw [← haw]; exact EN
  obtain ⟨n0, n1, n2, n3, n4, n5⟩ := EN2
  rw [haw, n0] at C1
  have C2 := fun w => decode_any aw n4 n5 X pc m hX w
  have ed : decE aw = 0 := by unfold decE; rw [if_pos ⟨n1, by omega, by omega⟩]
  obtain ⟨sv, hsv⟩ : ∃ sv, storedP X k 4 = sv := ⟨_, rfl⟩
  have ep : (decP aw X).arr = accA true 4 k sv := by
    unfold decP
    rw [if_pos n1, n2, n3, Int.toNat_natCast]
    unfold wantP
    rw [if_pos (by decide), show widthP 27 = 4 from rfl, hsv]
    rfl
  rw [ed, ep] at C2
  obtain ⟨u0, u1⟩ := hX k (by omega)
  have hm : k ≠ 0 → bits .and .u64 (X k) 4294967295 = sv := fun hk0 => by
    rw [← hsv]
    unfold storedP
    rw [if_neg hk0]
    exact bits_mask .u64 64 (by decide) wraps_u64 32 (by decide) (X k) u0 (by omega)
  have hs0 : k = 0 → sv = 0 := fun hk0 => by rw [← hsv]; unfold storedP; rw [if_pos hk0]
  have k0 : (0 : Int) ≤ k := by omega
  have k1 : (k : Int) < 16 := by omega
  have kk0 : k ≠ 0 → ((k : Int) == 0) = false := fun h => beq_false_of_ne (by omega)
  have kk1 : k = 0 → ((k : Int) == 0) = true := fun h => by simp [h]
  have hF := fin_at X true 4 k hk (by decide)
  have hm0 : bits .and .u64 0 4294967295 = 0 := by decide
  have HX : Hid (_) := hX
  clear EN haw n0 n1 n2 n3 n4 n5 ed ep hsv a0 b0 b2 hz hX
  unfold accA at C2
  go_enter Tryd.func4, Tryd.ntmps4
  go_wp2_with fail
  clear hx
  refine C1.mono ?_
  rintro e y ⟨rfl, b1⟩
  clear C1
  have HA1 : Hid (_) := keepB HA0.out b1
  have HB1 : Hid (_) := HB0.out.trans (b1.mono HB0.out.size)
  have HZ1 : Hid (_) := HZ0.out.below b1
  clear HA0 HB0 HZ0 b1
  go_wp2_with (first
    | (refine wpList_load_row rfl 26 _ rfl w.heap.size rfl 26 (regC X pc m) (0, 0) _ HA1.out Tryd.underlying26 rfl inf25 ?_)
    | fail)
  refine (C2 _).mono ?_
  rintro e y2 ⟨rfl, b1⟩
  clear C2
  have bz : Below y2.heap.size y2 (y2.alloc (.cells #[.bool true, .int .i64 4, .int .i64 k, .int .u64 sv] 28)) := below_box _ _
  have HA : Hid ((y2.alloc (.cells #[.bool true, .int .i64 4, .int .i64 k, .int .u64 sv] 28)).heap[y2.heap.size]? = some (.cells (accA true 4 k sv) 28 (0, 0))) := heap_alloc_at _ _
  have HR : Hid ((y2.alloc (.cells #[.bool true, .int .i64 4, .int .i64 k, .int .u64 sv] 28)).heap[w.heap.size]? = some (.cells (regC X pc m) 26 (0, 0))) := keepB (keepB HA1.out b1) bz
  have HB : Hid (Below w.heap.size w (y2.alloc (.cells #[.bool true, .int .i64 4, .int .i64 k, .int .u64 sv] 28))) := HB1.out.trans ((b1.trans (bz.mono b1.size)).mono HB1.out.size)
  have HZ : Hid (SZ (y2.alloc (.cells #[.bool true, .int .i64 4, .int .i64 k, .int .u64 sv] 28))) := (HZ1.out.below b1).below bz
  clear HA1 HB1 HZ1 b1 bz
  go_upto_region 9 with fail
  generalize hz : (y2.alloc (.cells #[.bool true, .int .i64 4, .int .i64 k, .int .u64 sv] 28)) = z at *
  clear hz
  generalize y2.heap.size = A at *
  have q0 : z.cell? ⟨A, 0, none⟩ = some (.bool true) := (cell_at HA.out 0).trans rfl
  have q1 : z.cell? ⟨A, 1, none⟩ = some (.int .i64 4) := (cell_at HA.out 1).trans rfl
  have q2 : z.cell? ⟨A, 2, none⟩ = some (.int .i64 k) := (cell_at HA.out 2).trans rfl
  have q3 : z.cell? ⟨A, 3, none⟩ = some (.int .u64 sv) := (cell_at HA.out 3).trans rfl
  have ck : z.cell? ⟨w.heap.size, k, none⟩ = some (.int .u64 (X k)) := (cell_at HR.out k).trans (regC_at X pc m k (by omega))
  have la := lt_of_heap HA.out
  have lr := lt_of_heap HR.out
  have C3 := fun w hz => finish_any X pc m true 4 k sv 5 (by decide) (by decide) w hz
  obtain ⟨F, hFF⟩ : ∃ F, finX X true 4 k 5 = F := ⟨_, rfl⟩
  rw [hFF] at C3 hF
  clear hFF
  unfold accA at C3
  by_cases hk0 : k = 0
  · have kz := kk1 hk0
    have hsv0 := hs0 hk0
    subst hsv0
    have hF2 : Hid (∀ i, i < 16 → F i = X i) := fun i hi => by rw [hF i]; rw [if_neg (by simp)]
    clear hm hs0 kk0 kk1 hF hk0
    have bs : Below z.heap.size z (z.alloc (.cells #[.int .u64 18446744073709551615, .int .u64 4294967295, .int .u64 255] 23)) := below_box _ _
    have HR2 : Hid ((z.alloc (.cells #[.int .u64 18446744073709551615, .int .u64 4294967295, .int .u64 255] 23)).heap[w.heap.size]? = some (.cells (regC X pc m) 26 (0, 0))) := keepB HR.out bs
    have C4 := C3 (z.alloc (.cells #[.int .u64 18446744073709551615, .int .u64 4294967295, .int .u64 255] 23)) (HZ.out.below bs)
    have HBS : Hid (_) := bs
    clear bs C3
    go_wp2_with (first
      | (refine wpList_load_row rfl 26 _ rfl w.heap.size rfl 26 (regC X pc m) (0, 0) _ HR2.out Tryd.underlying26 rfl inf25 ?_)
      | fail)
    refine C4.mono ?_
    rintro e y3 ⟨rfl, b3⟩
    clear C4 q0 q1 q2 q3 ck la lr
    have bs := HBS.out
    have HL : Hid (y3.heap[w.heap.size]? = some (.cells (regC X pc m) 26 (0, 0)) ∧ y3.heap[A]? = some (.cells (accA true 4 k 0) 28 (0, 0)) ∧ Below w.heap.size w y3) := ⟨keepB (keepB HR.out bs) b3, keepB (keepB HA.out bs) b3, HB.out.trans ((bs.trans (b3.mono bs.size)).mono HB.out.size)⟩
    clear HR HR2 HA HB HZ HBS bs b3
    go_upto_region 18 with (first
      | (refine wpList_store_row rfl 26 _ _ rfl y3.heap.size (regC F (nx pc) m) rfl rfl 26 _ (heap_alloc_at y3 _) inf25 rfl (regC_one _ _ _) ?_)
      | fail)
    simp only [Act.put]
    have hbx := below_box y3 (.cells zeroRegs 26)
    have hgx := setRow_heap (y3.alloc (.cells zeroRegs 26)) y3.heap.size zeroRegs (regC F (nx pc) m) 26 (0, 0) (heap_alloc_at y3 _)
    have htx : Below y3.heap.size y3 ((y3.alloc (.cells zeroRegs 26)).setRow y3.heap.size (regC F (nx pc) m)) := hbx.trans (below_setRow' _ _ (Nat.le_refl _) _)
    unfold zeroRegs at hbx hgx htx
    generalize World.setRow _ _ _ = g at *
    have HG : Hid (LS w g A y3.heap.size X F pc m (accA true 4 k 0)) := ⟨keepB HL.out.1 htx, keepB HL.out.2.1 htx, hgx, HL.out.2.2.trans (htx.mono HL.out.2.2.size)⟩
    clear hbx hgx htx HL
    generalize y3.heap.size = B at *
    go_wp2_with fail
    go_loopw [15] (fun p wr => ∃ i : Nat, i ≤ 16 ∧ p = .int .i64 i ∧ Hid (LS w wr A B X F pc m (accA true 4 k 0))) (fun p _ => 16 - (intOf p).toNat)
    case atStart => exact ⟨0, by omega, rfl, HG⟩
    case round =>
      obtain ⟨i, hi, rfl, HI⟩ := hrel
      clear HG
      by_cases hi6 : i < 16
      · have hi6' : (i : Int) < 16 := by omega
        have hi0 : (0 : Int) ≤ i := by omega
        have cF : wr.cell? ⟨B, i, none⟩ = some (.int .u64 (F i)) := (cell_at HI.out.fb i).trans (regC_at F _ m i hi6)
        have cX : wr.cell? ⟨w.heap.size, i, none⟩ = some (.int .u64 (X i)) := (cell_at HI.out.rg i).trans (regC_at X pc m i hi6)
        have cA : wr.cell? ⟨A, 0, none⟩ = some (.bool true) := (cell_at HI.out.ea 0).trans rfl
        have lB := lt_of_heap HI.out.fb
        have lX := lt_of_heap HI.out.rg
        have lA := lt_of_heap HI.out.ea
        have HF : Hid (LS w wr A B X F pc m (accA true 4 k 0)) := HI.out
        have HFd : Hid (LS w wr.drew A B X F pc m (accA true 4 k 0)) := HI.out.below (below_drew' _)
        rw [hF2.out i hi6] at cF
        clear HI
        by_cases e : i = k
        · have ek : ((i : Int) == (k : Int)) = true := by simp [e]
          clear e
          go_wp2_with fail
          go_region
          go_wp2_with fail
          go_roundw
          case rel => exact ⟨i + 1, by omega, by go_num, HFd⟩
          case measure => simp [intOf]; omega
        · have ek : ((i : Int) == (k : Int)) = false := beq_false_of_ne (by omega)
          clear e
          go_wp2_with fail
          go_region
          go_wp2_with fail
          go_roundw
          case rel => exact ⟨i + 1, by omega, by go_num, HFd⟩
          case measure => simp [intOf]; omega
      · obtain rfl : i = 16 := by omega
        have r16 : wr.cell? ⟨w.heap.size, 16, none⟩ = some (.int .u64 pc) := (cell_at HI.out.rg 16).trans rfl
        have r17 : wr.cell? ⟨w.heap.size, 17, none⟩ = some (.int .i64 m) := (cell_at HI.out.rg 17).trans rfl
        have s16 : wr.cell? ⟨B, 16, none⟩ = some (.int .u64 (IntKind.u64.wrap (pc + 4))) := (cell_at HI.out.fb 16).trans rfl
        have s17 : wr.cell? ⟨B, 17, none⟩ = some (.int .i64 m) := (cell_at HI.out.fb 17).trans rfl
        have lB := lt_of_heap HI.out.fb
        have lX := lt_of_heap HI.out.rg
        go_wp2_with fail
        go_ret
        exact ⟨rfl, HI.out.bl⟩
  · have kz := kk0 hk0
    have hmk := hm hk0
    have hF2 : Hid (∀ i, i < 16 → F i = X i) := fun i hi => by rw [hF i]; rw [if_neg (by simp)]
    clear hm hs0 kk0 kk1 hF hk0
    have bs : Below z.heap.size z (z.alloc (.cells #[.int .u64 18446744073709551615, .int .u64 4294967295, .int .u64 255] 23)) := below_box _ _
    have HR2 : Hid ((z.alloc (.cells #[.int .u64 18446744073709551615, .int .u64 4294967295, .int .u64 255] 23)).heap[w.heap.size]? = some (.cells (regC X pc m) 26 (0, 0))) := keepB HR.out bs
    have C4 := C3 (z.alloc (.cells #[.int .u64 18446744073709551615, .int .u64 4294967295, .int .u64 255] 23)) (HZ.out.below bs)
    have HBS : Hid (_) := bs
    clear bs C3
    go_wp2_with (first
      | (refine wpList_load_row rfl 26 _ rfl w.heap.size rfl 26 (regC X pc m) (0, 0) _ HR2.out Tryd.underlying26 rfl inf25 ?_)
      | fail)
    refine C4.mono ?_
    rintro e y3 ⟨rfl, b3⟩
    clear C4 q0 q1 q2 q3 ck la lr
    have bs := HBS.out
    have HL : Hid (y3.heap[w.heap.size]? = some (.cells (regC X pc m) 26 (0, 0)) ∧ y3.heap[A]? = some (.cells (accA true 4 k sv) 28 (0, 0)) ∧ Below w.heap.size w y3) := ⟨keepB (keepB HR.out bs) b3, keepB (keepB HA.out bs) b3, HB.out.trans ((bs.trans (b3.mono bs.size)).mono HB.out.size)⟩
    clear HR HR2 HA HB HZ HBS bs b3
    go_upto_region 18 with (first
      | (refine wpList_store_row rfl 26 _ _ rfl y3.heap.size (regC F (nx pc) m) rfl rfl 26 _ (heap_alloc_at y3 _) inf25 rfl (regC_one _ _ _) ?_)
      | fail)
    simp only [Act.put]
    have hbx := below_box y3 (.cells zeroRegs 26)
    have hgx := setRow_heap (y3.alloc (.cells zeroRegs 26)) y3.heap.size zeroRegs (regC F (nx pc) m) 26 (0, 0) (heap_alloc_at y3 _)
    have htx : Below y3.heap.size y3 ((y3.alloc (.cells zeroRegs 26)).setRow y3.heap.size (regC F (nx pc) m)) := hbx.trans (below_setRow' _ _ (Nat.le_refl _) _)
    unfold zeroRegs at hbx hgx htx
    generalize World.setRow _ _ _ = g at *
    have HG : Hid (LS w g A y3.heap.size X F pc m (accA true 4 k sv)) := ⟨keepB HL.out.1 htx, keepB HL.out.2.1 htx, hgx, HL.out.2.2.trans (htx.mono HL.out.2.2.size)⟩
    clear hbx hgx htx HL
    generalize y3.heap.size = B at *
    go_wp2_with fail
    go_loopw [15] (fun p wr => ∃ i : Nat, i ≤ 16 ∧ p = .int .i64 i ∧ Hid (LS w wr A B X F pc m (accA true 4 k sv))) (fun p _ => 16 - (intOf p).toNat)
    case atStart => exact ⟨0, by omega, rfl, HG⟩
    case round =>
      obtain ⟨i, hi, rfl, HI⟩ := hrel
      clear HG
      by_cases hi6 : i < 16
      · have hi6' : (i : Int) < 16 := by omega
        have hi0 : (0 : Int) ≤ i := by omega
        have cF : wr.cell? ⟨B, i, none⟩ = some (.int .u64 (F i)) := (cell_at HI.out.fb i).trans (regC_at F _ m i hi6)
        have cX : wr.cell? ⟨w.heap.size, i, none⟩ = some (.int .u64 (X i)) := (cell_at HI.out.rg i).trans (regC_at X pc m i hi6)
        have cA : wr.cell? ⟨A, 0, none⟩ = some (.bool true) := (cell_at HI.out.ea 0).trans rfl
        have lB := lt_of_heap HI.out.fb
        have lX := lt_of_heap HI.out.rg
        have lA := lt_of_heap HI.out.ea
        have HF : Hid (LS w wr A B X F pc m (accA true 4 k sv)) := HI.out
        have HFd : Hid (LS w wr.drew A B X F pc m (accA true 4 k sv)) := HI.out.below (below_drew' _)
        rw [hF2.out i hi6] at cF
        clear HI
        by_cases e : i = k
        · have ek : ((i : Int) == (k : Int)) = true := by simp [e]
          clear e
          go_wp2_with fail
          go_region
          go_wp2_with fail
          go_roundw
          case rel => exact ⟨i + 1, by omega, by go_num, HFd⟩
          case measure => simp [intOf]; omega
        · have ek : ((i : Int) == (k : Int)) = false := beq_false_of_ne (by omega)
          clear e
          go_wp2_with fail
          go_region
          go_wp2_with fail
          go_roundw
          case rel => exact ⟨i + 1, by omega, by go_num, HFd⟩
          case measure => simp [intOf]; omega
      · obtain rfl : i = 16 := by omega
        have r16 : wr.cell? ⟨w.heap.size, 16, none⟩ = some (.int .u64 pc) := (cell_at HI.out.rg 16).trans rfl
        have r17 : wr.cell? ⟨w.heap.size, 17, none⟩ = some (.int .i64 m) := (cell_at HI.out.rg 17).trans rfl
        have s16 : wr.cell? ⟨B, 16, none⟩ = some (.int .u64 (IntKind.u64.wrap (pc + 4))) := (cell_at HI.out.fb 16).trans rfl
        have s17 : wr.cell? ⟨B, 17, none⟩ = some (.int .i64 m) := (cell_at HI.out.fb 17).trans rfl
        have lB := lt_of_heap HI.out.fb
        have lX := lt_of_heap HI.out.rg
        go_wp2_with fail
        go_ret
        exact ⟨rfl, HI.out.bl⟩
set_option maxHeartbeats 6400000 in
theorem stores_28 (op rg0 : Int) (k : Nat) (hk : k ≤ 15) (X : Nat → Int) (hX : ∀ n, n < 16 → U (X n)) (pc m : Int) (hop : wrap64 (23 + (wrap64 (op.tmod 6 + 6)).tmod 6) = 28) (hrg : bits .and .i64 rg0 15 = (k : Int)) (w : World) (hz : SZ w) : Calls Tryd.prog 4 #[.agg (regC X pc m), .int .i64 op, .int .i64 rg0] w fun e w' => e = .returned (.bool true) ∧ Below w.heap.size w w' := by
  obtain ⟨x, hx⟩ : ∃ x, w.alloc (.cells (regC X pc m) 26) = x := ⟨_, rfl⟩
  have b0 : Below w.heap.size w x := by rw [← hx]; exact below_box _ _
  have a0 : x.heap[w.heap.size]? = some (.cells (regC X pc m) 26 (0, 0)) := by rw [← hx]; exact heap_alloc_at _ _
  have b2 : Below x.heap.size x (x.alloc (.cells #[.int .i64 28, .int .i64 0, .int .i64 7, .int .i64 k, .int .i64 0] 41)) := below_box _ _
  have HA0 : Hid ((x.alloc (.cells #[.int .i64 28, .int .i64 0, .int .i64 7, .int .i64 k, .int .i64 0] 41)).heap[w.heap.size]? = some (.cells (regC X pc m) 26 (0, 0))) := keepB a0 b2
  have HB0 : Hid (Below w.heap.size w (x.alloc (.cells #[.int .i64 28, .int .i64 0, .int .i64 7, .int .i64 k, .int .i64 0] 41))) := b0.trans (b2.mono b0.size)
  have HZ0 : Hid (SZ (x.alloc (.cells #[.int .i64 28, .int .i64 0, .int .i64 7, .int .i64 k, .int .i64 0] 41))) := (hz.below b0).below b2
  have EN := enc_st ⟨2, by decide⟩ ⟨k, by omega⟩
  simp only at EN
  have C1 := I.rencode_any 28 0 7 k 0 (x.alloc (.cells #[.int .i64 28, .int .i64 0, .int .i64 7, .int .i64 k, .int .i64 0] 41))
  unfold I.ins at C1
  obtain ⟨aw, haw⟩ : ∃ aw, I.encW 28 0 7 k 0 = aw := ⟨_, rfl⟩
  have EN2 : I.encE 28 0 7 k 0 = 0 ∧ I.validW aw = true ∧ I.opW aw = 28 ∧ I.rs2W aw = (k : Int) ∧ 0 ≤ aw ∧ aw ≤ 4294967295 := by rw [← haw]; exact EN
  obtain ⟨n0, n1, n2, n3, n4, n5⟩ := EN2
  rw [haw, n0] at C1
  have C2 := fun w => decode_any aw n4 n5 X pc m hX w
  have ed : decE aw = 0 := by unfold decE; rw [if_pos ⟨n1, by omega, by omega⟩]
  obtain ⟨sv, hsv⟩ : ∃ sv, storedP X k 1 = sv := ⟨_, rfl⟩
  have ep : (decP aw X).arr = accA true 1 k sv := by
    unfold decP
    rw [if_pos n1, n2, n3, Int.toNat_natCast]
    unfold wantP
    rw [if_pos (by decide), show widthP 28 = 1 from rfl, hsv]
    rfl
  rw [ed, ep] at C2
  obtain ⟨u0, u1⟩ := hX k (by omega)
  have hm : k ≠ 0 → bits .and .u64 (X k) 255 = sv := fun hk0 => by
    rw [← hsv]
    unfold storedP
    rw [if_neg hk0]
    exact bits_mask .u64 64 (by decide) wraps_u64 8 (by decide) (X k) u0 (by omega)
  have hs0 : k = 0 → sv = 0 := fun hk0 => by rw [← hsv]; unfold storedP; rw [if_pos hk0]
  have k0 : (0 : Int) ≤ k := by omega
  have k1 : (k : Int) < 16 := by omega
  have kk0 : k ≠ 0 → ((k : Int) == 0) = false := fun h => beq_false_of_ne (by omega)
  have kk1 : k = 0 → ((k : Int) == 0) = true := fun h => by simp [h]
  have hF := fin_at X true 1 k hk (by decide)
  have hm0 : bits .and .u64 0 255 = 0 := by decide
  have HX : Hid (_) := hX
  clear EN haw n0 n1 n2 n3 n4 n5 ed ep hsv a0 b0 b2 hz hX
  unfold accA at C2
  go_enter Tryd.func4, Tryd.ntmps4
  go_wp2_with fail
  clear hx
  refine C1.mono ?_
  rintro e y ⟨rfl, b1⟩
  clear C1
  have HA1 : Hid (_) := keepB HA0.out b1
  have HB1 : Hid (_) := HB0.out.trans (b1.mono HB0.out.size)
  have HZ1 : Hid (_) := HZ0.out.below b1
  clear HA0 HB0 HZ0 b1
  go_wp2_with (first
    | (refine wpList_load_row rfl 26 _ rfl w.heap.size rfl 26 (regC X pc m) (0, 0) _ HA1.out Tryd.underlying26 rfl inf25 ?_)
    | fail)
  refine (C2 _).mono ?_
  rintro e y2 ⟨rfl, b1⟩
  clear C2
  have bz : Below y2.heap.size y2 (y2.alloc (.cells #[.bool true, .int .i64 1, .int .i64 k, .int .u64 sv] 28)) := below_box _ _
  have HA : Hid ((y2.alloc (.cells #[.bool true, .int .i64 1, .int .i64 k, .int .u64 sv] 28)).heap[y2.heap.size]? = some (.cells (accA true 1 k sv) 28 (0, 0))) := heap_alloc_at _ _
  have HR : Hid ((y2.alloc (.cells #[.bool true, .int .i64 1, .int .i64 k, .int .u64 sv] 28)).heap[w.heap.size]? = some (.cells (regC X pc m) 26 (0, 0))) := keepB (keepB HA1.out b1) bz
  have HB : Hid (Below w.heap.size w (y2.alloc (.cells #[.bool true, .int .i64 1, .int .i64 k, .int .u64 sv] 28))) := HB1.out.trans ((b1.trans (bz.mono b1.size)).mono HB1.out.size)
  have HZ : Hid (SZ (y2.alloc (.cells #[.bool true, .int .i64 1, .int .i64 k, .int .u64 sv] 28))) := (HZ1.out.below b1).below bz
  clear HA1 HB1 HZ1 b1 bz
  go_upto_region 9 with fail
  generalize hz : (y2.alloc (.cells #[.bool true, .int .i64 1, .int .i64 k, .int .u64 sv] 28)) = z at *
  clear hz
  generalize y2.heap.size = A at *
  have q0 : z.cell? ⟨A, 0, none⟩ = some (.bool true) := (cell_at HA.out 0).trans rfl
  have q1 : z.cell? ⟨A, 1, none⟩ = some (.int .i64 1) := (cell_at HA.out 1).trans rfl
  have q2 : z.cell? ⟨A, 2, none⟩ = some (.int .i64 k) := (cell_at HA.out 2).trans rfl
  have q3 : z.cell? ⟨A, 3, none⟩ = some (.int .u64 sv) := (cell_at HA.out 3).trans rfl
  have ck : z.cell? ⟨w.heap.size, k, none⟩ = some (.int .u64 (X k)) := (cell_at HR.out k).trans (regC_at X pc m k (by omega))
  have la := lt_of_heap HA.out
  have lr := lt_of_heap HR.out
  have C3 := fun w hz => finish_any X pc m true 1 k sv 5 (by decide) (by decide) w hz
  obtain ⟨F, hFF⟩ : ∃ F, finX X true 1 k 5 = F := ⟨_, rfl⟩
  rw [hFF] at C3 hF
  clear hFF
  unfold accA at C3
  by_cases hk0 : k = 0
  · have kz := kk1 hk0
    have hsv0 := hs0 hk0
    subst hsv0
    have hF2 : Hid (∀ i, i < 16 → F i = X i) := fun i hi => by rw [hF i]; rw [if_neg (by simp)]
    clear hm hs0 kk0 kk1 hF hk0
    have bs : Below z.heap.size z (z.alloc (.cells #[.int .u64 18446744073709551615, .int .u64 4294967295, .int .u64 255] 23)) := below_box _ _
    have HR2 : Hid ((z.alloc (.cells #[.int .u64 18446744073709551615, .int .u64 4294967295, .int .u64 255] 23)).heap[w.heap.size]? = some (.cells (regC X pc m) 26 (0, 0))) := keepB HR.out bs
    have C4 := C3 (z.alloc (.cells #[.int .u64 18446744073709551615, .int .u64 4294967295, .int .u64 255] 23)) (HZ.out.below bs)
    have HBS : Hid (_) := bs
    clear bs C3
    go_wp2_with (first
      | (refine wpList_load_row rfl 26 _ rfl w.heap.size rfl 26 (regC X pc m) (0, 0) _ HR2.out Tryd.underlying26 rfl inf25 ?_)
      | fail)
    refine C4.mono ?_
    rintro e y3 ⟨rfl, b3⟩
    clear C4 q0 q1 q2 q3 ck la lr
    have bs := HBS.out
    have HL : Hid (y3.heap[w.heap.size]? = some (.cells (regC X pc m) 26 (0, 0)) ∧ y3.heap[A]? = some (.cells (accA true 1 k 0) 28 (0, 0)) ∧ Below w.heap.size w y3) := ⟨keepB (keepB HR.out bs) b3, keepB (keepB HA.out bs) b3, HB.out.trans ((bs.trans (b3.mono bs.size)).mono HB.out.size)⟩
    clear HR HR2 HA HB HZ HBS bs b3
    go_upto_region 18 with (first
      | (refine wpList_store_row rfl 26 _ _ rfl y3.heap.size (regC F (nx pc) m) rfl rfl 26 _ (heap_alloc_at y3 _) inf25 rfl (regC_one _ _ _) ?_)
      | fail)
    simp only [Act.put]
    have hbx := below_box y3 (.cells zeroRegs 26)
    have hgx := setRow_heap (y3.alloc (.cells zeroRegs 26)) y3.heap.size zeroRegs (regC F (nx pc) m) 26 (0, 0) (heap_alloc_at y3 _)
    have htx : Below y3.heap.size y3 ((y3.alloc (.cells zeroRegs 26)).setRow y3.heap.size (regC F (nx pc) m)) := hbx.trans (below_setRow' _ _ (Nat.le_refl _) _)
    unfold zeroRegs at hbx hgx htx
    generalize World.setRow _ _ _ = g at *
    have HG : Hid (LS w g A y3.heap.size X F pc m (accA true 1 k 0)) := ⟨keepB HL.out.1 htx, keepB HL.out.2.1 htx, hgx, HL.out.2.2.trans (htx.mono HL.out.2.2.size)⟩
    clear hbx hgx htx HL
    generalize y3.heap.size = B at *
    go_wp2_with fail
    go_loopw [15] (fun p wr => ∃ i : Nat, i ≤ 16 ∧ p = .int .i64 i ∧ Hid (LS w wr A B X F pc m (accA true 1 k 0))) (fun p _ => 16 - (intOf p).toNat)
    case atStart => exact ⟨0, by omega, rfl, HG⟩
    case round =>
      obtain ⟨i, hi, rfl, HI⟩ := hrel
      clear HG
      by_cases hi6 : i < 16
      · have hi6' : (i : Int) < 16 := by omega
        have hi0 : (0 : Int) ≤ i := by omega
        have cF : wr.cell? ⟨B, i, none⟩ = some (.int .u64 (F i)) := (cell_at HI.out.fb i).trans (regC_at F _ m i hi6)
        have cX : wr.cell? ⟨w.heap.size, i, none⟩ = some (.int .u64 (X i)) := (cell_at HI.out.rg i).trans (regC_at X pc m i hi6)
        have cA : wr.cell? ⟨A, 0, none⟩ = some (.bool true) := (cell_at HI.out.ea 0).trans rfl
        have lB := lt_of_heap HI.out.fb
        have lX := lt_of_heap HI.out.rg
        have lA := lt_of_heap HI.out.ea
        have HF : Hid (LS w wr A B X F pc m (accA true 1 k 0)) := HI.out
        have HFd : Hid (LS w wr.drew A B X F pc m (accA true 1 k 0)) := HI.out.below (below_drew' _)
        rw [hF2.out i hi6] at cF
        clear HI
        by_cases e : i = k
        · have ek : ((i : Int) == (k : Int)) = true := by simp [e]
          clear e
          go_wp2_with fail
          go_region
          go_wp2_with fail
          go_roundw
          case rel => exact ⟨i + 1, by omega, by go_num, HFd⟩
          case measure => simp [intOf]; omega
        · have ek : ((i : Int) == (k : Int)) = false := beq_false_of_ne (by omega)
          clear e
          go_wp2_with fail
          go_region
          go_wp2_with fail
          go_roundw
          case rel => exact ⟨i + 1, by omega, by go_num, HFd⟩
          case measure => simp [intOf]; omega
      · obtain rfl : i = 16 := by omega
        have r16 : wr.cell? ⟨w.heap.size, 16, none⟩ = some (.int .u64 pc) := (cell_at HI.out.rg 16).trans rfl
        have r17 : wr.cell? ⟨w.heap.size, 17, none⟩ = some (.int .i64 m) := (cell_at HI.out.rg 17).trans rfl
        have s16 : wr.cell? ⟨B, 16, none⟩ = some (.int .u64 (IntKind.u64.wrap (pc + 4))) := (cell_at HI.out.fb 16).trans rfl
        have s17 : wr.cell? ⟨B, 17, none⟩ = some (.int .i64 m) := (cell_at HI.out.fb 17).trans rfl
        have lB := lt_of_heap HI.out.fb
        have lX := lt_of_heap HI.out.rg
        go_wp2_with fail
        go_ret
        exact ⟨rfl, HI.out.bl⟩
  · have kz := kk0 hk0
    have hmk := hm hk0
    have hF2 : Hid (∀ i, i < 16 → F i = X i) := fun i hi => by rw [hF i]; rw [if_neg (by simp)]
    clear hm hs0 kk0 kk1 hF hk0
    have bs : Below z.heap.size z (z.alloc (.cells #[.int .u64 18446744073709551615, .int .u64 4294967295, .int .u64 255] 23)) := below_box _ _
    have HR2 : Hid ((z.alloc (.cells #[.int .u64 18446744073709551615, .int .u64 4294967295, .int .u64 255] 23)).heap[w.heap.size]? = some (.cells (regC X pc m) 26 (0, 0))) := keepB HR.out bs
    have C4 := C3 (z.alloc (.cells #[.int .u64 18446744073709551615, .int .u64 4294967295, .int .u64 255] 23)) (HZ.out.below bs)
    have HBS : Hid (_) := bs
    clear bs C3
    go_wp2_with (first
      | (refine wpList_load_row rfl 26 _ rfl w.heap.size rfl 26 (regC X pc m) (0, 0) _ HR2.out Tryd.underlying26 rfl inf25 ?_)
      | fail)
    refine C4.mono ?_
    rintro e y3 ⟨rfl, b3⟩
    clear C4 q0 q1 q2 q3 ck la lr
    have bs := HBS.out
    have HL : Hid (y3.heap[w.heap.size]? = some (.cells (regC X pc m) 26 (0, 0)) ∧ y3.heap[A]? = some (.cells (accA true 1 k sv) 28 (0, 0)) ∧ Below w.heap.size w y3) := ⟨keepB (keepB HR.out bs) b3, keepB (keepB HA.out bs) b3, HB.out.trans ((bs.trans (b3.mono bs.size)).mono HB.out.size)⟩
    clear HR HR2 HA HB HZ HBS bs b3
    go_upto_region 18 with (first
      | (refine wpList_store_row rfl 26 _ _ rfl y3.heap.size (regC F (nx pc) m) rfl rfl 26 _ (heap_alloc_at y3 _) inf25 rfl (regC_one _ _ _) ?_)
      | fail)
    simp only [Act.put]
    have hbx := below_box y3 (.cells zeroRegs 26)
    have hgx := setRow_heap (y3.alloc (.cells zeroRegs 26)) y3.heap.size zeroRegs (regC F (nx pc) m) 26 (0, 0) (heap_alloc_at y3 _)
    have htx : Below y3.heap.size y3 ((y3.alloc (.cells zeroRegs 26)).setRow y3.heap.size (regC F (nx pc) m)) := hbx.trans (below_setRow' _ _ (Nat.le_refl _) _)
    unfold zeroRegs at hbx hgx htx
    generalize World.setRow _ _ _ = g at *
    have HG : Hid (LS w g A y3.heap.size X F pc m (accA true 1 k sv)) := ⟨keepB HL.out.1 htx, keepB HL.out.2.1 htx, hgx, HL.out.2.2.trans (htx.mono HL.out.2.2.size)⟩
    clear hbx hgx htx HL
    generalize y3.heap.size = B at *
    go_wp2_with fail
    go_loopw [15] (fun p wr => ∃ i : Nat, i ≤ 16 ∧ p = .int .i64 i ∧ Hid (LS w wr A B X F pc m (accA true 1 k sv))) (fun p _ => 16 - (intOf p).toNat)
    case atStart => exact ⟨0, by omega, rfl, HG⟩
    case round =>
      obtain ⟨i, hi, rfl, HI⟩ := hrel
      clear HG
      by_cases hi6 : i < 16
      · have hi6' : (i : Int) < 16 := by omega
        have hi0 : (0 : Int) ≤ i := by omega
        have cF : wr.cell? ⟨B, i, none⟩ = some (.int .u64 (F i)) := (cell_at HI.out.fb i).trans (regC_at F _ m i hi6)
        have cX : wr.cell? ⟨w.heap.size, i, none⟩ = some (.int .u64 (X i)) := (cell_at HI.out.rg i).trans (regC_at X pc m i hi6)
        have cA : wr.cell? ⟨A, 0, none⟩ = some (.bool true) := (cell_at HI.out.ea 0).trans rfl
        have lB := lt_of_heap HI.out.fb
        have lX := lt_of_heap HI.out.rg
        have lA := lt_of_heap HI.out.ea
        have HF : Hid (LS w wr A B X F pc m (accA true 1 k sv)) := HI.out
        have HFd : Hid (LS w wr.drew A B X F pc m (accA true 1 k sv)) := HI.out.below (below_drew' _)
        rw [hF2.out i hi6] at cF
        clear HI
        by_cases e : i = k
        · have ek : ((i : Int) == (k : Int)) = true := by simp [e]
          clear e
          go_wp2_with fail
          go_region
          go_wp2_with fail
          go_roundw
          case rel => exact ⟨i + 1, by omega, by go_num, HFd⟩
          case measure => simp [intOf]; omega
        · have ek : ((i : Int) == (k : Int)) = false := beq_false_of_ne (by omega)
          clear e
          go_wp2_with fail
          go_region
          go_wp2_with fail
          go_roundw
          case rel => exact ⟨i + 1, by omega, by go_num, HFd⟩
          case measure => simp [intOf]; omega
      · obtain rfl : i = 16 := by omega
        have r16 : wr.cell? ⟨w.heap.size, 16, none⟩ = some (.int .u64 pc) := (cell_at HI.out.rg 16).trans rfl
        have r17 : wr.cell? ⟨w.heap.size, 17, none⟩ = some (.int .i64 m) := (cell_at HI.out.rg 17).trans rfl
        have s16 : wr.cell? ⟨B, 16, none⟩ = some (.int .u64 (IntKind.u64.wrap (pc + 4))) := (cell_at HI.out.fb 16).trans rfl
        have s17 : wr.cell? ⟨B, 17, none⟩ = some (.int .i64 m) := (cell_at HI.out.fb 17).trans rfl
        have lB := lt_of_heap HI.out.fb
        have lX := lt_of_heap HI.out.rg
        go_wp2_with fail
        go_ret
        exact ⟨rfl, HI.out.bl⟩
end Go.Proofs.YtkckobbedpccfaaDoor.K
