/-
  The walk of EmulateDecodes.
-/
import Derived.Test.YtkckobbedpccfaaDoorKDr
import Derived.Test.YtkckobbedpccfaaDoorKQt
namespace Go.Proofs.YtkckobbedpccfaaDoor.K
open Go.RowKit Go.Maps
set_option linter.unusedVariables false
set_option maxRecDepth 100000
theorem eqg26 : Tryd.prog.eqGuardType Tryd.prog.depth 26 = false := by kernel_rfl
/-- what stands through the walk -/
structure ED (w d : World) (A B : Nat) (X : Nat → Int) (pc m : Int) (a : Acc) : Prop where
  rg : d.heap[w.heap.size]? = some (.cells (regC X pc m) 26 (0, 0))
  ea : d.heap[A]? = some (.cells (accA a.wr a.wd a.rg a.vl) 28 (0, 0))
  eb : d.heap[B]? = some (.cells (accA a.wr a.wd a.rg a.vl) 32 (0, 0))
  bl : Below w.heap.size w d
  sz : SZ d
theorem ED.below {w d d' : World} {A B : Nat} {X : Nat → Int} {pc m : Int} {a : Acc} (h : ED w d A B X pc m a) (hb : Below d.heap.size d d') : ED w d' A B X pc m a := ⟨keepB h.rg hb, keepB h.ea hb, keepB h.eb hb, h.bl.trans (hb.mono h.bl.size), h.sz.below hb⟩
set_option maxHeartbeats 6400000 in
theorem decodesWalk (a : Int) (ha : 0 ≤ a) (ha' : a ≤ 4294967295) (X : Nat → Int) (hX : ∀ n, n < 16 → U (X n)) (pc m v : Int) (h0 : 0 ≤ v) (h1 : v < 18446744073709551616) (w : World) (hz : SZ w) : Calls Tryd.prog 3 #[.int .u32 a, .agg (regC X pc m), .int .u64 v] w fun e w' => e = .returned (.bool true) ∧ Below w.heap.size w w' := by
  obtain ⟨x, hx⟩ : ∃ x, w.alloc (.cells (regC X pc m) 26) = x := ⟨_, rfl⟩
  have b0 : Below w.heap.size w x := by rw [← hx]; exact below_box _ _
  have a0 : x.heap[w.heap.size]? = some (.cells (regC X pc m) 26 (0, 0)) := by rw [← hx]; exact heap_alloc_at _ _
  have C1 := decode_any a ha ha' X pc m hX x
  have C2 := fun w => rdecode_any a ha ha' X pc m hX w
  obtain ⟨ac, hac⟩ : ∃ ac, decP a X = ac := ⟨_, rfl⟩
  rw [hac] at C1 C2
  generalize decE a = er at *
  have HA0 : Hid (_) := a0
  have HB0 : Hid (_) := b0
  have HZ0 : Hid (SZ x) := hz.below b0
  clear a0 b0 hz hX
  unfold Acc.arr at C1 C2
  have HV : Hid (0 ≤ v ∧ v < 18446744073709551616) := ⟨h0, h1⟩
  clear h0 h1 hac
  obtain ⟨wr, wd, rg, vl⟩ := ac
  dsimp only at C1 C2
  unfold accA at C1 C2
  go_enter Tryd.func3, Tryd.ntmps3
  go_wp2_with (first
    | (refine wpList_load_row rfl 26 _ rfl w.heap.size rfl 26 (regC X pc m) (0, 0) _ HA0.out Tryd.underlying26 rfl inf25 ?_)
    | fail)
  clear hx
  refine C1.mono ?_
  rintro e y ⟨rfl, b1⟩
  clear C1
  obtain ⟨z, hz⟩ : ∃ z, y.alloc (.cells #[.bool wr, .int .i64 wd, .int .i64 rg, .int .u64 vl] 28) = z := ⟨_, rfl⟩
  have bz : Below y.heap.size y z := by rw [← hz]; exact below_box _ _
  have HA : Hid (z.heap[y.heap.size]? = some (.cells (accA wr wd rg vl) 28 (0, 0))) := by rw [← hz]; exact heap_alloc_at _ _
  have HR : Hid (z.heap[w.heap.size]? = some (.cells (regC X pc m) 26 (0, 0))) := keepB (keepB HA0.out b1) bz
  have HB : Hid (Below w.heap.size w z) := HB0.out.trans ((b1.trans (bz.mono b1.size)).mono HB0.out.size)
  have HZ : Hid (SZ z) := (HZ0.out.below b1).below bz
  clear HA0 HB0 HZ0 b1 bz
  go_wp2_with (first
    | (refine wpList_load_row rfl 26 _ rfl w.heap.size rfl 26 (regC X pc m) (0, 0) _ HR.out Tryd.underlying26 rfl inf25 ?_)
    | fail)
  clear hz
  generalize y.heap.size = A at *
  refine (C2 _).mono ?_
  rintro e y2 ⟨rfl, b1⟩
  clear C2
  obtain ⟨d, hd⟩ : ∃ d, y2.alloc (.cells #[.bool wr, .int .i64 wd, .int .i64 rg, .int .u64 vl] 32) = d := ⟨_, rfl⟩
  have bd : Below y2.heap.size y2 d := by rw [← hd]; exact below_box _ _
  have HE : Hid (ED w d A y2.heap.size X pc m ⟨wr, wd, rg, vl⟩) := ⟨keepB (keepB HR.out b1) bd, keepB (keepB HA.out b1) bd, by rw [← hd]; exact heap_alloc_at _ _, HB.out.trans ((b1.trans (bd.mono b1.size)).mono HB.out.size), (HZ.out.below b1).below bd⟩
  have q0 : d.cell? ⟨A, 0, none⟩ = some (.bool wr) := (cell_at HE.out.ea 0).trans rfl
  have q1 : d.cell? ⟨A, 1, none⟩ = some (.int .i64 wd) := (cell_at HE.out.ea 1).trans rfl
  have q2 : d.cell? ⟨A, 2, none⟩ = some (.int .i64 rg) := (cell_at HE.out.ea 2).trans rfl
  have q3 : d.cell? ⟨A, 3, none⟩ = some (.int .u64 vl) := (cell_at HE.out.ea 3).trans rfl
  have p0 : d.cell? ⟨y2.heap.size, 0, none⟩ = some (.bool wr) := (cell_at HE.out.eb 0).trans rfl
  have p1 : d.cell? ⟨y2.heap.size, 1, none⟩ = some (.int .i64 wd) := (cell_at HE.out.eb 1).trans rfl
  have p2 : d.cell? ⟨y2.heap.size, 2, none⟩ = some (.int .i64 rg) := (cell_at HE.out.eb 2).trans rfl
  have p3 : d.cell? ⟨y2.heap.size, 3, none⟩ = some (.int .u64 vl) := (cell_at HE.out.eb 3).trans rfl
  have la := lt_of_heap HE.out.ea
  have lb := lt_of_heap HE.out.eb
  clear HR HA HB HZ b1 bd
  go_upto_region 3 with fail
  clear hd
  generalize y2.heap.size = B at *
  go_wp2_with fail
  clear q0 q1 q2 q3 p0 p1 p2 p3 la lb
  obtain ⟨wb, hwb⟩ : ∃ wb, wb = wr := ⟨_, rfl⟩
  subst hwb
  go_loopw [11] (fun p wr => ∃ j : Int, -1 ≤ j ∧ j ≤ 17 ∧ p = .int .i64 j ∧ Hid (ED w wr A B X pc m ⟨wb, wd, rg, vl⟩)) (fun p _ => (17 - intOf p).toNat)
  case atStart => exact ⟨-1, by omega, by omega, rfl, HE⟩
  case round =>
    obtain ⟨j, hj1, hj2, rfl, HJ⟩ := hrel
    clear HE
    by_cases hj : j ≤ 16
    · obtain ⟨S, hS⟩ : ∃ S, wr.heap.size = S := ⟨_, rfl⟩
      obtain ⟨f, hf⟩ : ∃ f, wr.alloc (.cells #[.int .i64 0, .int .i64 1, .int .i64 2, .int .i64 4, .int .i64 8, .int .i64 9] 3) = f := ⟨_, rfl⟩
      have bf : Below wr.heap.size wr f := by rw [← hf]; exact below_box _ _
      have hf2 : f.heap[S]? = some (.cells #[.int .i64 0, .int .i64 1, .int .i64 2, .int .i64 4, .int .i64 8, .int .i64 9] 3 (0, 0)) := by rw [← hf, ← hS]; exact heap_alloc_at _ _
      have HF : Hid (ED w f A B X pc m ⟨wb, wd, rg, vl⟩ ∧ f.heap[S]? = some (.cells #[.int .i64 0, .int .i64 1, .int .i64 2, .int .i64 4, .int .i64 8, .int .i64 9] 3 (0, 0))) := ⟨HJ.out.below bf, hf2⟩
      clear bf hf2 HJ
      go_wp2_with fail
      simp only [hS] at *
      go_loopw [43] (fun p wr => ∃ k : Nat, k ≤ 6 ∧ p = .int .i64 k ∧ Hid (ED w wr A B X pc m ⟨wb, wd, rg, vl⟩ ∧ wr.heap[S]? = some (.cells #[.int .i64 0, .int .i64 1, .int .i64 2, .int .i64 4, .int .i64 8, .int .i64 9] 3 (0, 0)))) (fun p _ => 6 - (intOf p).toNat)
      case atStart =>
        first | (rw [hf]; exact ⟨0, by omega, rfl, HF⟩) | exact ⟨0, by omega, rfl, HF⟩
      case round =>
        obtain ⟨k, hk, rfl, HK⟩ := hrel
        clear HF hf hS
        by_cases hk6 : k < 6
        · have hk6' : (k : Int) < 6 := by omega
          have hk0 : (0 : Int) ≤ k := by omega
          obtain ⟨wi, he⟩ : ∃ wi : Int, (#[.int .i64 0, .int .i64 1, .int .i64 2, .int .i64 4, .int .i64 8, .int .i64 9] : Array Value)[k]? = some (.int .i64 wi) := by
            match k, hk6 with
            | 0, _ => exact ⟨0, rfl⟩
            | 1, _ => exact ⟨1, rfl⟩
            | 2, _ => exact ⟨2, rfl⟩
            | 3, _ => exact ⟨4, rfl⟩
            | 4, _ => exact ⟨8, rfl⟩
            | 5, _ => exact ⟨9, rfl⟩
          have cS : wr.cell? ⟨S, k, none⟩ = some (.int .i64 wi) := (cell_at HK.out.2 k).trans he
          have lS := lt_of_heap HK.out.2
          clear he
          go_upto_region 12 with fail
          generalize hbl : (bits .and .u64 v 1 == 1) = bl at *
          clear hbl
          obtain ⟨g, hg⟩ : ∃ g, wr.alloc (.cells #[.bool bl, .int .i64 wi, .int .i64 j, .int .u64 0] 28) = g := ⟨_, rfl⟩
          have bg : Below wr.heap.size wr g := by rw [← hg]; exact below_box _ _
          have HG : Hid (ED w g A B X pc m ⟨wb, wd, rg, vl⟩ ∧ g.heap[S]? = some (.cells #[.int .i64 0, .int .i64 1, .int .i64 2, .int .i64 4, .int .i64 8, .int .i64 9] 3 (0, 0)) ∧ g.heap[wr.heap.size]? = some (.cells (accA bl wi j 0) 28 (0, 0))) := ⟨HK.out.1.below bg, keepB HK.out.2 bg, by rw [← hg]; exact heap_alloc_at _ _⟩
          clear bg HK cS lS
          rw [hg]
          clear hg
          generalize wr.heap.size = T at *
          have hne := above_here g
          have hab : ∀ (s : Above g) b o, b < g.heap.size → s.wld.cell? ⟨b, o, none⟩ = g.cell? ⟨b, o, none⟩ := fun s b o h => s.bel.cell (p := ⟨b, o, none⟩) h
          have hsz : ∀ (s : Above g) b, b < g.heap.size → b < s.wld.heap.size := fun s b h => Nat.lt_of_lt_of_le h s.bel.size
          have E1 := fun s : Above g => finish_any X pc m bl wi j 0 v HV.out.1 HV.out.2 s.wld (HG.out.1.sz.below s.bel)
          have E2 := fun s : Above g => rfinish_any X pc m bl wi j 0 v HV.out.1 HV.out.2 s.wld (HG.out.1.sz.below s.bel)
          have HQ1 : Hid (∀ s : Above g, s.wld.rangeAt w.heap.size 0 (regC X pc m).toList) := fun s => range_of (keepB HG.out.1.rg s.bel)
          have infga : (Tryd.prog.info? 28).map (·.size) = some (accA bl wi j 0).toList.length := inf28
          have HQ2 : Hid (∀ s : Above g, s.wld.rangeAt T 0 (accA bl wi j 0).toList) := fun s => range_of (keepB HG.out.2.2 s.bel)
          have ER := eq_regs (regC (finX X bl wi j v) (nx pc) m) (finX X bl wi j v) (nx pc) m (fun n hn => regC_at _ _ _ n hn) rfl rfl
          generalize regC (finX X bl wi j v) (nx pc) m = rc at *
          generalize accA bl wi j 0 = ga at *
          refine wp_region_above (by kernel_rfl) (by kernel_rfl) ?_
          repeat (first
            | go_big_quiet_skip
            | (go_big_quiet_want; refine quiet_load 26 _ rfl (w.heap.size) 0 rfl (regC X pc m).toList _ (fun w' ⟨s, hs⟩ => by rw [hs]; exact HQ1.out s) Tryd.underlying26 rfl inf25 ?_; simp only [Act.put, List.setIfInBounds_toArray, List.set_cons_zero, List.set_cons_succ]; go_big_quiet_on)
            | (go_big_quiet_want; refine quiet_load 28 _ rfl (T) 0 rfl (ga).toList _ (fun w' ⟨s, hs⟩ => by rw [hs]; exact HQ2.out s) Tryd.underlying28 rfl infga ?_; simp only [Act.put, List.setIfInBounds_toArray, List.set_cons_zero, List.set_cons_succ]; go_big_quiet_on)
            | (go_big_quiet_want; refine quiet_neq 26 _ _ rfl (rc) (rc) rfl rfl eqg26 true ER ?_; simp only [Act.put, Bool.not_true, List.setIfInBounds_toArray, List.set_cons_zero, List.set_cons_succ]; go_big_quiet_on)
            | (go_big_quiet_want; go_big_quiet_op; go_big_quiet_on)
            | (go_big_quiet_want; go_big_quiet_op; apply Exists.intro; refine ⟨fun s => ?_, ?_⟩; exact above_call s (E1 s); go_big_quiet_on)
            | (go_big_quiet_want; go_big_quiet_op; apply Exists.intro; refine ⟨fun s => ?_, ?_⟩; exact above_call s (E2 s); go_big_quiet_on))
          refine wpQuiet_nil ?_
          rintro _ ⟨s, rfl⟩
          have HF : Hid (ED w s.wld A B X pc m ⟨wb, wd, rg, vl⟩ ∧ s.wld.heap[S]? = some (.cells #[.int .i64 0, .int .i64 1, .int .i64 2, .int .i64 4, .int .i64 8, .int .i64 9] 3 (0, 0))) := ⟨HG.out.1.below s.bel, keepB HG.out.2.1 s.bel⟩
          clear HG HQ1 HQ2 ER E1 E2 hab hsz hne
          go_wp2_with fail
          go_roundw
          case rel => exact ⟨k + 1, by omega, by go_num, HF⟩
          case measure => simp [intOf]; omega
        · obtain rfl : k = 6 := by omega
          go_wp2_with fail
          go_roundw
          case rel => exact ⟨j + 1, by omega, by omega, by go_num, HK.out.1⟩
          case measure => simp [intOf]; omega
    · obtain rfl : j = 17 := by omega
      go_upto_region 15 with fail
      have HE : Hid (ED w wr A B X pc m ⟨wb, wd, rg, vl⟩) := HJ.out
      clear HJ
      have hne := above_here wr
      have hab : ∀ (s : Above wr) b o, b < wr.heap.size → s.wld.cell? ⟨b, o, none⟩ = wr.cell? ⟨b, o, none⟩ := fun s b o h => s.bel.cell (p := ⟨b, o, none⟩) h
      have hsz : ∀ (s : Above wr) b, b < wr.heap.size → b < s.wld.heap.size := fun s b h => Nat.lt_of_lt_of_le h s.bel.size
      have E1 := fun s : Above wr => finish_any X pc m wb wd rg vl v HV.out.1 HV.out.2 s.wld (HE.out.sz.below s.bel)
      have E2 := fun s : Above wr => rfinish_any X pc m wb wd rg vl v HV.out.1 HV.out.2 s.wld (HE.out.sz.below s.bel)
      have E3 := fun s : Above wr => skip_any X pc m s.wld
      have E4 := fun s : Above wr => rskip_any X pc m s.wld
      have HQ1 : Hid (∀ s : Above wr, s.wld.rangeAt w.heap.size 0 (regC X pc m).toList) := fun s => range_of (keepB HE.out.rg s.bel)
      have HQ2 : Hid (∀ s : Above wr, s.wld.rangeAt A 0 (accA wb wd rg vl).toList) := fun s => range_of (keepB HE.out.ea s.bel)
      have HQ3 : Hid (∀ s : Above wr, s.wld.rangeAt B 0 (accA wb wd rg vl).toList) := fun s => range_of (keepB HE.out.eb s.bel)
      have infga : (Tryd.prog.info? 28).map (·.size) = some (accA wb wd rg vl).toList.length := inf28
      have infgb : (Tryd.prog.info? 32).map (·.size) = some (accA wb wd rg vl).toList.length := inf32
      have ER := eq_regs (regC (finX X wb wd rg v) (nx pc) m) (finX X wb wd rg v) (nx pc) m (fun n hn => regC_at _ _ _ n hn) rfl rfl
      have ES := eq_regs (regC X (nx pc) m) X (nx pc) m (fun n hn => regC_at _ _ _ n hn) rfl rfl
      generalize regC (finX X wb wd rg v) (nx pc) m = rc at *
      generalize regC X (nx pc) m = rs at *
      generalize accA wb wd rg vl = ga at *
      refine wp_region_above (by kernel_rfl) (by kernel_rfl) ?_
      repeat (first
        | go_big_quiet_skip
        | (go_big_quiet_want; refine quiet_load 26 _ rfl (w.heap.size) 0 rfl (regC X pc m).toList _ (fun w' ⟨s, hs⟩ => by rw [hs]; exact HQ1.out s) Tryd.underlying26 rfl inf25 ?_; simp only [Act.put, List.setIfInBounds_toArray, List.set_cons_zero, List.set_cons_succ]; go_big_quiet_on)
        | (go_big_quiet_want; refine quiet_load 28 _ rfl (A) 0 rfl (ga).toList _ (fun w' ⟨s, hs⟩ => by rw [hs]; exact HQ2.out s) Tryd.underlying28 rfl infga ?_; simp only [Act.put, List.setIfInBounds_toArray, List.set_cons_zero, List.set_cons_succ]; go_big_quiet_on)
        | (go_big_quiet_want; refine quiet_load 32 _ rfl (B) 0 rfl (ga).toList _ (fun w' ⟨s, hs⟩ => by rw [hs]; exact HQ3.out s) Tryd.underlying32 rfl infgb ?_; simp only [Act.put, List.setIfInBounds_toArray, List.set_cons_zero, List.set_cons_succ]; go_big_quiet_on)
        | (go_big_quiet_want; refine quiet_eql 26 _ _ rfl (rc) (rc) rfl rfl eqg26 true ER ?_; simp only [Act.put, List.setIfInBounds_toArray, List.set_cons_zero, List.set_cons_succ]; go_big_quiet_on)
        | (go_big_quiet_want; refine quiet_eql 26 _ _ rfl (rs) (rs) rfl rfl eqg26 true ES ?_; simp only [Act.put, List.setIfInBounds_toArray, List.set_cons_zero, List.set_cons_succ]; go_big_quiet_on)
        | (go_big_quiet_want; go_big_quiet_op; go_big_quiet_on)
        | (go_big_quiet_want; go_big_quiet_op; apply Exists.intro; refine ⟨fun s => ?_, ?_⟩; exact above_call s (E1 s); go_big_quiet_on)
        | (go_big_quiet_want; go_big_quiet_op; apply Exists.intro; refine ⟨fun s => ?_, ?_⟩; exact above_call s (E2 s); go_big_quiet_on)
        | (go_big_quiet_want; go_big_quiet_op; apply Exists.intro; refine ⟨fun s => ?_, ?_⟩; exact above_call s (E3 s); go_big_quiet_on)
        | (go_big_quiet_want; go_big_quiet_op; apply Exists.intro; refine ⟨fun s => ?_, ?_⟩; exact above_call s (E4 s); go_big_quiet_on))
      refine wpQuiet_nil ?_
      rintro _ ⟨s, rfl⟩
      have HF : Hid (Below w.heap.size w s.wld) := HE.out.bl.trans (s.bel.mono HE.out.bl.size)
      clear HE HQ1 HQ2 HQ3 ER ES E1 E2 E3 E4 hab hsz hne
      go_wp2_with fail
      go_ret
      exact ⟨rfl, HF.out⟩
end Go.Proofs.YtkckobbedpccfaaDoor.K
