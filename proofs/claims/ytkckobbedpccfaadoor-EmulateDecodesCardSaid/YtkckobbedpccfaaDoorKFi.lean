/-
  Finish of emulate: its contract.
-/
import Derived.Test.YtkckobbedpccfaaDoorKEm
import Derived.Test.YtkckobbedpccfaaDoorBytes
namespace Go.Proofs.YtkckobbedpccfaaDoor.K
open Go.RowKit
set_option linter.unusedVariables false
set_option maxRecDepth 100000
theorem _root_.Go.Proofs.YtkckobbedpccfaaDoor.SZ.below {w w' : World} (h : SZ w) (hb : Below w.heap.size w w') : SZ w' := by
  have hs := hb.size
  obtain ⟨hc, _⟩ := bcell hb
  obtain ⟨c0, c1, c2, c3, c4, c5, hp⟩ := h
  exact ⟨(hc _ _ hp).trans c0, (hc _ _ hp).trans c1, (hc _ _ hp).trans c2, (hc _ _ hp).trans c3, (hc _ _ hp).trans c4, (hc _ _ hp).trans c5, by omega⟩
/-- what a load of a number's lowest bytes brings -/
def ldV (v n : Int) : Int := if n = 1 ∨ n = 4 ∨ n = 8 then extW n (v % 2 ^ (8 * n.toNat)) else 0
/-- bytes that a load of this width reads so -/
def BS (w : World) (ad : Option Addr) (len : Nat) (v n : Int) : Prop := ∃ zs, SL w ad len zs ∧ valW zs len 0 n = ldV v n ∧ len ≤ maxLen
theorem bs_yes {w : World} {base g cap : Nat} {v : Int} {N : Nat} (hN : (N : Int) = 1 ∨ (N : Int) = 4 ∨ (N : Int) = 8) (h : w.ownsRow base 5 1 (.slice (some ⟨g, 0, none⟩) N cap) N ((bytesOf v N).map (Value.int .u8))) : BS w (some ⟨g, 0, none⟩) N v N := by
  refine ⟨bytesOf v N, SL.own h (bytesOf_bytes v N), ?_, by unfold maxLen; omega⟩
  unfold valW ldV okW
  rw [if_pos (by simpa using hN), if_pos hN]
  have : leFrom (bytesOf v N) (0 : Int).toNat (N : Int).toNat = v % 2 ^ (8 * (N : Int).toNat) := by
    rw [Int.toNat_natCast]
    exact le_bytes v N N (Nat.le_refl _)
  rw [this]
theorem bs_no (w : World) {v n : Int} (hn : ¬ (n = 1 ∨ n = 4 ∨ n = 8)) : BS w none 0 v n := by
  refine ⟨[], ⟨rfl, fun i => by simp, .inl rfl⟩, ?_, by decide⟩
  unfold valW ldV okW
  rw [if_neg hn, if_neg (by simpa using fun h => absurd h hn)]
theorem store_any (v n : Int) (w : World) (hz : SZ w) (h0 : 0 ≤ v) (h1 : v < 18446744073709551616) : Calls Tryd.prog 16 #[.int .u64 v, .int .i64 n] w fun e w' => (∃ ad len cap, e = .returned (.slice ad len cap) ∧ BS w' ad len v n) ∧ Below w.heap.size w w' := by
  by_cases hn : n = 1 ∨ n = 4 ∨ n = 8
  · obtain ⟨N, rfl⟩ := Int.eq_ofNat_of_zero_le (show 0 ≤ n by omega)
    exact (store_yes v N w hz hn h0 h1).mono fun e w' ⟨g, h, ho, hb⟩ => ⟨⟨_, _, _, h, bs_yes hn ho⟩, hb⟩
  · exact (store_no v n w hz hn).mono fun e w' ⟨h, hb⟩ => ⟨⟨_, _, _, h, bs_no w' hn⟩, hb⟩
theorem rstore_any (v n : Int) (w : World) (h0 : 0 ≤ v) (h1 : v < 18446744073709551616) : Calls Tryd.prog 18 #[.int .u64 v, .int .i64 n] w fun e w' => (∃ ad len cap, e = .returned (.slice ad len cap) ∧ BS w' ad len v n) ∧ Below w.heap.size w w' := by
  by_cases hn : n = 1 ∨ n = 4 ∨ n = 8
  · obtain ⟨N, rfl⟩ := Int.eq_ofNat_of_zero_le (show 0 ≤ n by omega)
    exact (rstore_yes v N w hn h0 h1).mono fun e w' ⟨g, cap, h, ho, hb⟩ => ⟨⟨_, _, _, h, bs_yes hn ho⟩, hb⟩
  · exact (rstore_no v n w hn).mono fun e w' ⟨h, hb⟩ => ⟨⟨_, _, _, h, bs_no w' hn⟩, by rw [hb]; exact Below.refl _ _⟩
theorem load_bs {w : World} {ad : Option Addr} {len : Nat} {v n : Int} (h : BS w ad len v n) (hz : SZ w) (cap : Nat) : Calls Tryd.prog 15 #[.slice ad len cap, .int .i64 0, .int .i64 n] w fun e w' => (∃ ok, e = .returned (.tuple #[.int .u64 (ldV v n), .bool ok])) ∧ Below w.heap.size w w' := by
  obtain ⟨zs, hs, hv, hl⟩ := h
  exact (load_any ad len cap zs 0 n w hz hs hl).mono fun e w' ⟨he, hb⟩ => ⟨⟨okW len 0 n, he.trans (by rw [hv])⟩, hb⟩
theorem rload_bs {w : World} {ad : Option Addr} {len : Nat} {v n : Int} (h : BS w ad len v n) (cap : Nat) : Calls Tryd.prog 17 #[.slice ad len cap, .int .i64 0, .int .i64 n] w fun e w' => (∃ ok, e = .returned (.tuple #[.int .u64 (ldV v n), .bool ok])) ∧ Below w.heap.size w w' := by
  obtain ⟨zs, hs, hv, hl⟩ := h
  exact (rload_any ad len cap zs 0 n w hs hl).mono fun e w' ⟨he, hb⟩ => ⟨⟨okW len 0 n, he.trans (by rw [hv])⟩, by rw [hb]; exact Below.refl _ _⟩
/-- an access -/
def accA (wr : Bool) (wd rg vl : Int) : Array Value := #[.bool wr, .int .i64 wd, .int .i64 rg, .int .u64 vl]
/-- the registers behind it -/
def finX (X : Nat → Int) (wr : Bool) (wd rg v : Int) : Nat → Int := if wr = false ∧ 1 ≤ rg ∧ rg ≤ 15 then upd X rg.toNat (ldV v wd) else X
theorem three_at {w x : World} {cs ds es : Array Value} {t s r : TypeId} (h : ((w.alloc (.cells cs t)).alloc (.cells ds s)).alloc (.cells es r) = x) : Below w.heap.size w x ∧ x.heap[w.heap.size]? = some (.cells cs t (0, 0)) ∧ x.heap[w.heap.size + 1]? = some (.cells ds s (0, 0)) ∧ x.heap[w.heap.size + 1 + 1]? = some (.cells es r (0, 0)) := by
  obtain ⟨y, hy⟩ : ∃ y, (w.alloc (.cells cs t)).alloc (.cells ds s) = y := ⟨_, rfl⟩
  obtain ⟨b, a0, a1, z⟩ := two_at hy
  rw [hy] at h
  subst h
  refine ⟨b.trans ((below_box y _).mono (by omega)), keepB a0 (below_box y _), keepB a1 (below_box y _), ?_⟩
  rw [← z]
  exact heap_alloc_at _ _
theorem below_drew' (w : World) : Below w.heap.size w w.drew := (Below.refl _ _).drew
/-- what stands while the bytes are made and read -/
structure FS (w W : World) (acc : Array Value) (t : TypeId) : Prop where
  a0 : ∃ Z pc m, W.heap[w.heap.size]? = some (.cells (regC Z pc m) 26 (0, 0))
  a1 : W.heap[w.heap.size + 1]? = some (.cells acc t (0, 0))
  a2 : W.heap[w.heap.size + 1 + 1]? = some (.cells zeroRegs 26 (0, 0))
  bl : Below w.heap.size w W
  sz : SZ W
theorem FS.below {w W W' : World} {acc : Array Value} {t : TypeId} (h : FS w W acc t) (hb : Below W.heap.size W W') : FS w W' acc t :=
  ⟨let ⟨Z, pc, m, h0⟩ := h.a0; ⟨Z, pc, m, keepB h0 hb⟩, keepB h.a1 hb, keepB h.a2 hb, h.bl.trans (hb.mono h.bl.size), h.sz.below hb⟩
theorem FS.set {w W W' : World} {acc : Array Value} {t : TypeId} (h : FS w W acc t) (ht : Trn (fun k => k = w.heap.size) W W') {Z : Nat → Int} {pc m : Int} (h0 : W'.heap[w.heap.size]? = some (.cells (regC Z pc m) 26 (0, 0))) (hw : 0 < w.heap.size) : FS w W' acc t := by
  have e0 : W'.heap[0]? = W.heap[0]? := ht.block 0 h.sz.pos (by omega)
  have ec : ∀ o, W'.cell? ⟨0, o, none⟩ = W.cell? ⟨0, o, none⟩ := fun o => World.cell?_of_block e0
  exact ⟨⟨_, _, _, h0⟩, (ht.block _ (lt_of_heap h.a1) (by omega)).trans h.a1, (ht.block _ (lt_of_heap h.a2) (by omega)).trans h.a2, h.bl.trans (ht.below h.bl.size fun k e => by omega), ⟨(ec 0).trans h.sz.c0, (ec 1).trans h.sz.c1, (ec 2).trans h.sz.c2, (ec 3).trans h.sz.c3, (ec 4).trans h.sz.c4, (ec 5).trans h.sz.c5, by have := h.sz.pos; have := ht.size; omega⟩⟩
theorem finish_no (X : Nat → Int) (pc m : Int) (wr : Bool) (wd rg vl v : Int) (hn : wr = true ∨ rg < 1 ∨ 15 < rg) (w : World) : Calls Tryd.prog 7 #[.agg (regC X pc m), .agg (accA wr wd rg vl), .int .u64 v] w fun r w' => r = .returned (.agg (regC X (nx pc) m)) ∧ Below w.heap.size w w' := by
  obtain ⟨x, hx⟩ : ∃ x, ((w.alloc (.cells (regC X pc m) 26)).alloc (.cells (accA wr wd rg vl) 28)).alloc (.cells zeroRegs 26) = x := ⟨_, rfl⟩
  obtain ⟨b0, a0, a1, a2⟩ := three_at hx
  have q0 : x.cell? ⟨w.heap.size + 1, 0, none⟩ = some (.bool wr) := (cell_at a1 0).trans rfl
  have q2 : x.cell? ⟨w.heap.size + 1, 2, none⟩ = some (.int .i64 rg) := (cell_at a1 2).trans rfl
  have l1 := lt_of_heap a1
  have C1 := skip_any X pc m x
  have HA0 : Hid (_) := a0
  have HA2 : Hid (_) := a2
  have HB0 : Hid (_) := b0
  clear a0 a1 a2 b0
  unfold zeroRegs accA at hx
  unfold accA
  have hn' : wr = true ∨ wr = false ∧ rg < 1 ∨ wr = false ∧ 1 ≤ rg ∧ 15 < rg := by
    cases wr
    · rcases hn with h | h | h
      · cases h
      · exact .inr (.inl ⟨rfl, h⟩)
      · by_cases h1 : rg < 1
        · exact .inr (.inl ⟨rfl, h1⟩)
        · exact .inr (.inr ⟨rfl, by omega, h⟩)
    · exact .inl rfl
  clear hn
  rcases hn' with rfl | ⟨rfl, h1⟩ | ⟨rfl, h1, h2⟩
  all_goals
    go_enter Tryd.func7, Tryd.ntmps7
    go_wp2_with (first
      | (refine wpList_load_row rfl 26 _ rfl w.heap.size rfl 26 (regC X pc m) (0, 0) _ HA0.out Tryd.underlying26 rfl inf25 ?_)
      | fail)
    clear hx q0 q2 l1
    refine C1.mono ?_
    rintro r y ⟨rfl, b1⟩
    have HS : Hid (_) := (b1.block _ (lt_of_heap HA2.out)).trans HA2.out
    have HB : Hid (_) := HB0.out.trans (b1.mono HB0.out.size)
    clear C1 b1 HA0 HA2 HB0
    go_wp2_with (first
      | (refine wpList_store_row rfl 26 _ _ rfl (w.heap.size + 1 + 1) (regC X (nx pc) m) rfl rfl 26 zeroRegs HS.out inf25 rfl (regC_one _ _ _) ?_)
      | fail)
    refine bodyPost_ret (v := _) (results_cell_row Tryd.results7 _ _ _ _ _ _ _ rfl (setRow_heap _ _ _ _ _ _ HS.out) Tryd.underlying26 rfl inf25) rfl ⟨rfl, HB.out.trans (below_setRow' _ _ (by omega) _)⟩
set_option maxHeartbeats 1600000 in
theorem finish_yes (X : Nat → Int) (pc m : Int) (wd : Int) (k : Nat) (vl v : Int) (hk1 : 1 ≤ k) (hk2 : k ≤ 15) (h0 : 0 ≤ v) (h1 : v < 18446744073709551616) (w : World) (hz : SZ w) : Calls Tryd.prog 7 #[.agg (regC X pc m), .agg (accA false wd k vl), .int .u64 v] w fun r w' => r = .returned (.agg (regC (upd X k (ldV v wd)) (nx pc) m)) ∧ Below w.heap.size w w' := by
  obtain ⟨x, hx⟩ : ∃ x, ((w.alloc (.cells (regC X pc m) 26)).alloc (.cells (accA false wd k vl) 28)).alloc (.cells zeroRegs 26) = x := ⟨_, rfl⟩
  obtain ⟨b0, a0, a1, a2⟩ := three_at hx
  have hw0 := hz.pos
  have k0 : (0 : Int) ≤ k := by omega
  have k1 : (1 : Int) ≤ k := by omega
  have k2 : (k : Int) < 16 := by omega
  have k3 : (k : Int) ≤ 15 := by omega
  have q0 : x.cell? ⟨w.heap.size + 1, 0, none⟩ = some (.bool false) := (cell_at a1 0).trans rfl
  have q2 : x.cell? ⟨w.heap.size + 1, 2, none⟩ = some (.int .i64 k) := (cell_at a1 2).trans rfl
  have l1 := lt_of_heap a1
  have hS0 : FS w x.drew (accA false wd k vl) 28 := ⟨⟨_, _, _, a0⟩, a1, a2, b0.drew, (hz.below b0).below (below_drew' _)⟩
  have HX0 : Hid (x.drew.heap[w.heap.size]? = some (.cells (regC X pc m) 26 (0, 0))) := a0
  clear a0 a1 a2 b0 hz
  unfold zeroRegs accA at hx
  unfold accA
  go_enter Tryd.func7, Tryd.ntmps7
  go_upto_region 2 with fail
  clear hx q0 q2 l1
  have hS0 := hS0
  refine wp_region_held_drew (S := (fun W : World => FS w W (accA false wd k vl) 28)) (by kernel_rfl) hS0 (fun _ => ?_)
  refine wpAnyH_take (i := 0) (v := .pointer (some ⟨w.heap.size + 1, 2, none⟩)) rfl (by kernel_rfl) (by kernel_rfl) (by kernel_rfl) (fun _ _ _ h => h) (Or.inl ⟨by rfl, ?_⟩) hS0 ?_
  · intro wq hw
    go_simp
  try simp only [Act.put, List.getElem_toArray, List.getElem_cons_zero, List.setIfInBounds_toArray, List.set_cons_zero, List.set_cons_succ]
  refine wpAnyH_take (i := 1) (v := .int .i64 k) rfl (by kernel_rfl) (by kernel_rfl) (by kernel_rfl) (fun _ _ _ h => h) (Or.inl ⟨by rfl, ?_⟩) hS0 ?_
  · intro wq hw
    have hc : wq.cell? ⟨w.heap.size + 1, 2, none⟩ = some (.int .i64 k) := (cell_at hw.a1 2).trans rfl
    have hl := lt_cell hc
    go_simp
  try simp only [Act.put, List.getElem_toArray, List.getElem_cons_succ, List.getElem_cons_zero, List.setIfInBounds_toArray, List.set_cons_zero, List.set_cons_succ]
  refine wpAnyH_take (i := 2) (v := .int .u64 v) rfl (by kernel_rfl) (by kernel_rfl) (by kernel_rfl) (fun _ _ _ h => h) (Or.inl ⟨by rfl, ?_⟩) hS0 ?_
  · intro wq hw
    go_simp
  try simp only [Act.put, List.getElem_toArray, List.getElem_cons_succ, List.getElem_cons_zero, List.setIfInBounds_toArray, List.set_cons_zero, List.set_cons_succ]
  refine wpAnyH_take (i := 3) (v := .pointer (some ⟨w.heap.size + 1, 1, none⟩)) rfl (by kernel_rfl) (by kernel_rfl) (by kernel_rfl) (fun _ _ _ h => h) (Or.inl ⟨by rfl, ?_⟩) hS0 ?_
  · intro wq hw
    go_simp
  try simp only [Act.put, List.getElem_toArray, List.getElem_cons_succ, List.getElem_cons_zero, List.setIfInBounds_toArray, List.set_cons_zero, List.set_cons_succ]
  refine wpAnyH_take (i := 4) (v := .int .i64 wd) rfl (by kernel_rfl) (by kernel_rfl) (by kernel_rfl) (fun _ _ _ h => h) (Or.inl ⟨by rfl, ?_⟩) hS0 ?_
  · intro wq hw
    have hc : wq.cell? ⟨w.heap.size + 1, 1, none⟩ = some (.int .i64 wd) := (cell_at hw.a1 1).trans rfl
    have hl := lt_cell hc
    go_simp
  try simp only [Act.put, List.getElem_toArray, List.getElem_cons_succ, List.getElem_cons_zero, List.setIfInBounds_toArray, List.set_cons_zero, List.set_cons_succ]
  refine wpAnyH_take (i := 6) (v := .pointer (some ⟨w.heap.size + 1, 1, none⟩)) rfl (by kernel_rfl) (by kernel_rfl) (by kernel_rfl) (fun _ _ _ h => h) (Or.inl ⟨by rfl, ?_⟩) hS0 ?_
  · intro wq hw
    go_simp
  try simp only [Act.put, List.getElem_toArray, List.getElem_cons_succ, List.getElem_cons_zero, List.setIfInBounds_toArray, List.set_cons_zero, List.set_cons_succ]
  refine wpAnyH_take (i := 7) (v := .int .i64 wd) rfl (by kernel_rfl) (by kernel_rfl) (by kernel_rfl) (fun _ _ _ h => h) (Or.inl ⟨by rfl, ?_⟩) hS0 ?_
  · intro wq hw
    have hc : wq.cell? ⟨w.heap.size + 1, 1, none⟩ = some (.int .i64 wd) := (cell_at hw.a1 1).trans rfl
    have hl := lt_cell hc
    go_simp
  try simp only [Act.put, List.getElem_toArray, List.getElem_cons_succ, List.getElem_cons_zero, List.setIfInBounds_toArray, List.set_cons_zero, List.set_cons_succ]
  refine wpAnyH_take (i := 12) (v := .pointer (some ⟨w.heap.size, 0, none⟩)) rfl (by kernel_rfl) (by kernel_rfl) (by kernel_rfl) (fun _ _ _ h => h) (Or.inl ⟨by rfl, ?_⟩) hS0 ?_
  · intro wq hw
    go_simp
  try simp only [Act.put, List.getElem_toArray, List.getElem_cons_succ, List.getElem_cons_zero, List.setIfInBounds_toArray, List.set_cons_zero, List.set_cons_succ]
  refine wpAnyH_ready (rs := [5]) (by kernel_rfl) (by simp) ?_
  refine AllReadyH.cons rfl (fun K hK => ?_) AllReadyH.nil
  have CC := store_any v wd _ hS0.sz h0 h1
  go_simp
  go_wp2_with (go_at_call 16; refine CC.mono ?_; rintro e y1 ⟨⟨ad, len, cap, rfl, hbs⟩, b1⟩)
  have HY1 : Hid (_) := keepB HX0.out b1
  refine hK.out _ _ (hS0.below b1) (fun hS1 => ?_)
  clear hK K CC hS0 b1 HX0
  try simp only [Act.put, List.getElem_toArray, List.getElem_cons_succ, List.getElem_cons_zero, List.setIfInBounds_toArray, List.set_cons_zero, List.set_cons_succ]
  refine wpAnyH_ready (rs := [8]) (by kernel_rfl) (by simp) ?_
  refine AllReadyH.cons rfl (fun K hK => ?_) AllReadyH.nil
  have CC := load_bs hbs hS1.sz cap
  go_simp
  go_wp2_with (go_at_call 15; refine CC.mono ?_; rintro e y2 ⟨⟨ok, rfl⟩, b2⟩)
  have HY2 : Hid (_) := keepB HY1.out b2
  refine hK.out _ _ (hS1.below b2) (fun hS2 => ?_)
  clear hK K CC hS1 b2 hbs HY1
  try simp only [Act.put, List.getElem_toArray, List.getElem_cons_succ, List.getElem_cons_zero, List.setIfInBounds_toArray, List.set_cons_zero, List.set_cons_succ]
  refine wpAnyH_take (i := 9) (v := .tuple #[.int .u64 (ldV v wd), .bool ok]) rfl (by kernel_rfl) (by kernel_rfl) (by kernel_rfl) (fun _ _ _ h => h) (Or.inl ⟨by rfl, ?_⟩) hS2 ?_
  · intro wq hw
    go_simp
  try simp only [Act.put, List.getElem_toArray, List.getElem_cons_succ, List.getElem_cons_zero, List.setIfInBounds_toArray, List.set_cons_zero, List.set_cons_succ]
  refine wpAnyH_take (i := 10) (v := .int .u64 (ldV v wd)) rfl (by kernel_rfl) (by kernel_rfl) (by kernel_rfl) (fun _ _ _ h => h) (Or.inl ⟨by rfl, ?_⟩) hS2 ?_
  · intro wq hw
    go_simp
  try simp only [Act.put, List.getElem_toArray, List.getElem_cons_succ, List.getElem_cons_zero, List.setIfInBounds_toArray, List.set_cons_zero, List.set_cons_succ]
  refine wpAnyH_take (i := 11) (v := .bool ok) rfl (by kernel_rfl) (by kernel_rfl) (by kernel_rfl) (fun _ _ _ h => h) (Or.inl ⟨by rfl, ?_⟩) hS2 ?_
  · intro wq hw
    go_simp
  try simp only [Act.put, List.getElem_toArray, List.getElem_cons_succ, List.getElem_cons_zero, List.setIfInBounds_toArray, List.set_cons_zero, List.set_cons_succ]
  refine wpAnyH_take (i := 13) (v := .pointer (some ⟨w.heap.size, k, none⟩)) rfl (by kernel_rfl) (by kernel_rfl) (by kernel_rfl) (fun _ _ _ h => h) (Or.inl ⟨by rfl, ?_⟩) hS2 ?_
  · intro wq hw
    go_simp
  try simp only [Act.put, List.getElem_toArray, List.getElem_cons_succ, List.getElem_cons_zero, List.setIfInBounds_toArray, List.set_cons_zero, List.set_cons_succ]
  refine wpAnyH_ready (rs := [14]) (by kernel_rfl) (by simp) ?_
  refine AllReadyH.cons rfl (fun K hK => ?_) AllReadyH.nil
  have ck : y2.cell? ⟨w.heap.size, k, none⟩ = some (.int .u64 (X k)) := (cell_at HY2.out k).trans (regC_at X pc m k (by omega))
  have cf := fz_at HY2.out k
  have cl := lt_of_heap HY2.out
  have z0 := heap_setCell HY2.out k (.int .u64 (ldV v wd))
  rw [regC_set _ _ _ k (by omega)] at z0
  have HZ : Hid (_) := z0
  have zt := trn_set1 HY2.out k (.int .u64 (ldV v wd))
  have hS3 := hS2.set zt z0 hw0
  clear z0 zt HY2 hS2
  go_simp
  go_wp2_with fail
  refine hK.out _ _ hS3 (fun hS4 => ?_)
  clear hK K ck cf cl hS4
  refine wpAnyH_done (by kernel_rfl) ?_ _
  generalize hZ9 : upd X k (ldV v wd) = Z at *
  have C1 := skip_any Z pc m (y2.setCell ⟨w.heap.size, k, none⟩ (.int .u64 (ldV v wd)))
  have HB0 : Hid (_) := hS3.bl
  have HA2 : Hid (_) := hS3.a2
  clear hS3
  go_wp2_with (first
    | (refine wpList_load_row rfl 26 _ rfl w.heap.size rfl 26 (regC Z pc m) (0, 0) _ HZ.out Tryd.underlying26 rfl inf25 ?_)
    | fail)
  refine C1.mono ?_
  rintro r y ⟨rfl, b1⟩
  have HS : Hid (_) := (b1.block _ (lt_of_heap HA2.out)).trans HA2.out
  have HB : Hid (_) := HB0.out.trans (b1.mono HB0.out.size)
  clear C1 b1 HA2 HB0 HZ
  go_wp2_with (first
    | (refine wpList_store_row rfl 26 _ _ rfl (w.heap.size + 1 + 1) (regC Z (nx pc) m) rfl rfl 26 zeroRegs HS.out inf25 rfl (regC_one _ _ _) ?_)
    | fail)
  refine bodyPost_ret (v := _) (results_cell_row Tryd.results7 _ _ _ _ _ _ _ rfl (setRow_heap _ _ _ _ _ _ HS.out) Tryd.underlying26 rfl inf25) rfl ⟨by rw [hZ9], HB.out.trans (below_setRow' _ _ (by omega) _)⟩
theorem rfinish_no (X : Nat → Int) (pc m : Int) (wr : Bool) (wd rg vl v : Int) (hn : wr = true ∨ rg < 1 ∨ 15 < rg) (w : World) : Calls Tryd.prog 8 #[.agg (regC X pc m), .agg (accA wr wd rg vl), .int .u64 v] w fun r w' => r = .returned (.agg (regC X (nx pc) m)) ∧ Below w.heap.size w w' := by
  obtain ⟨x, hx⟩ : ∃ x, ((w.alloc (.cells (regC X pc m) 26)).alloc (.cells (accA wr wd rg vl) 32)).alloc (.cells zeroRegs 26) = x := ⟨_, rfl⟩
  obtain ⟨b0, a0, a1, a2⟩ := three_at hx
  have C1 := rskip_any X pc m x
  have HA0 : Hid (_) := a0
  have HA1 : Hid (_) := a1
  have HA2 : Hid (_) := a2
  have HB0 : Hid (_) := b0
  clear a0 a1 a2 b0
  unfold zeroRegs accA at hx
  unfold accA
  have hn' : wr = true ∨ wr = false ∧ rg < 1 ∨ wr = false ∧ 1 ≤ rg ∧ 15 < rg := by
    cases wr
    · rcases hn with h | h | h
      · cases h
      · exact .inr (.inl ⟨rfl, h⟩)
      · by_cases h1 : rg < 1
        · exact .inr (.inl ⟨rfl, h1⟩)
        · exact .inr (.inr ⟨rfl, by omega, h⟩)
    · exact .inl rfl
  clear hn
  go_enter Tryd.func8, Tryd.ntmps8
  go_wp2_with (first
    | (refine wpList_load_row rfl 26 _ rfl w.heap.size rfl 26 (regC X pc m) (0, 0) _ HA0.out Tryd.underlying26 rfl inf25 ?_)
    | fail)
  clear hx
  refine C1.mono ?_
  rintro r y ⟨rfl, b1⟩
  have c0 := (b1.block _ (lt_of_heap HA0.out)).trans HA0.out
  have c1 := (b1.block _ (lt_of_heap HA1.out)).trans HA1.out
  have c2 := (b1.block _ (lt_of_heap HA2.out)).trans HA2.out
  have HC0 : Hid (_) := c0
  obtain ⟨z, hz9⟩ : ∃ z, y.setRow w.heap.size (regC X (nx pc) m) = z := ⟨_, rfl⟩
  have t1 : Trn (fun k => k = w.heap.size) y z := by rw [← hz9]; exact trn_setRow (S := fun k => k = w.heap.size) _ _ rfl _
  have d0 : z.heap[w.heap.size]? = some (.cells (regC X (nx pc) m) 26 (0, 0)) := by rw [← hz9]; exact setRow_heap _ _ _ _ _ _ c0
  have d1 := (t1.block (w.heap.size + 1) (lt_of_heap c1) (by omega)).trans c1
  have d2 := (t1.block (w.heap.size + 1 + 1) (lt_of_heap c2) (by omega)).trans c2
  have HB : Hid (Below w.heap.size w z) := (HB0.out.trans (b1.mono HB0.out.size)).trans (t1.below (Nat.le_trans HB0.out.size b1.size) fun k e => by omega)
  have q0 : z.cell? ⟨w.heap.size + 1, 0, none⟩ = some (.bool wr) := (cell_at d1 0).trans rfl
  have q2 : z.cell? ⟨w.heap.size + 1, 2, none⟩ = some (.int .i64 rg) := (cell_at d1 2).trans rfl
  have l1 := lt_of_heap d1
  have HL : Hid (_) := d0
  have HD1 : Hid (_) := d1
  have HS : Hid (_) := d2
  clear C1 b1 c0 c1 c2 t1 d0 d1 d2 HB0 HA0 HA1 HA2
  rcases hn' with rfl | ⟨rfl, h1⟩ | ⟨rfl, h1, h2⟩
  all_goals
    go_wp2_with (first
      | (refine wpList_store_row rfl 26 _ _ rfl w.heap.size (regC X (nx pc) m) rfl rfl 26 (regC X pc m) HC0.out inf25 rfl (regC_one _ _ _) ?_
         rw [hz9]
         clear hz9 HC0)
      | (refine wpList_load_row rfl 26 _ rfl w.heap.size rfl 26 (regC X (nx pc) m) (0, 0) _ HL.out Tryd.underlying26 rfl inf25 ?_)
      | (refine wpList_store_row rfl 26 _ _ rfl (w.heap.size + 1 + 1) (regC X (nx pc) m) rfl rfl 26 zeroRegs HS.out inf25 rfl (regC_one _ _ _) ?_)
      | fail)
    refine bodyPost_ret (v := _) (results_cell_row Tryd.results8 _ _ _ _ _ _ _ rfl (setRow_heap _ _ _ _ _ _ HS.out) Tryd.underlying26 rfl inf25) rfl ⟨rfl, HB.out.trans (below_setRow' _ _ (by omega) _)⟩
set_option maxHeartbeats 1600000 in
theorem rfinish_yes (X : Nat → Int) (pc m : Int) (wd : Int) (k : Nat) (vl v : Int) (hk1 : 1 ≤ k) (hk2 : k ≤ 15) (h0 : 0 ≤ v) (h1 : v < 18446744073709551616) (w : World) (hz : SZ w) : Calls Tryd.prog 8 #[.agg (regC X pc m), .agg (accA false wd k vl), .int .u64 v] w fun r w' => r = .returned (.agg (regC (upd X k (ldV v wd)) (nx pc) m)) ∧ Below w.heap.size w w' := by
  obtain ⟨x, hx⟩ : ∃ x, ((w.alloc (.cells (regC X pc m) 26)).alloc (.cells (accA false wd k vl) 32)).alloc (.cells zeroRegs 26) = x := ⟨_, rfl⟩
  obtain ⟨b0, a0, a1, a2⟩ := three_at hx
  have hw0 := hz.pos
  have k0 : (0 : Int) ≤ k := by omega
  have k1 : (1 : Int) ≤ k := by omega
  have k2 : (k : Int) < 16 := by omega
  have k3 : (k : Int) ≤ 15 := by omega
  have hN : Hid (SZ w) := hz
  have C1 := rskip_any X pc m x
  have HA0 : Hid (_) := a0
  have HA1 : Hid (_) := a1
  have HA2 : Hid (_) := a2
  have HB0 : Hid (_) := b0
  clear a0 a1 a2 b0 hz
  unfold zeroRegs accA at hx
  unfold accA
  go_enter Tryd.func8, Tryd.ntmps8
  go_wp2_with (first
    | (refine wpList_load_row rfl 26 _ rfl w.heap.size rfl 26 (regC X pc m) (0, 0) _ HA0.out Tryd.underlying26 rfl inf25 ?_)
    | fail)
  clear hx
  refine C1.mono ?_
  rintro r y ⟨rfl, b1⟩
  have c0 := (b1.block _ (lt_of_heap HA0.out)).trans HA0.out
  have c1 := (b1.block _ (lt_of_heap HA1.out)).trans HA1.out
  have c2 := (b1.block _ (lt_of_heap HA2.out)).trans HA2.out
  have HC0 : Hid (_) := c0
  obtain ⟨z, hz9⟩ : ∃ z, y.setRow w.heap.size (regC X (nx pc) m) = z := ⟨_, rfl⟩
  have t1 : Trn (fun k => k = w.heap.size) y z := by rw [← hz9]; exact trn_setRow (S := fun k => k = w.heap.size) _ _ rfl _
  have d0 : z.heap[w.heap.size]? = some (.cells (regC X (nx pc) m) 26 (0, 0)) := by rw [← hz9]; exact setRow_heap _ _ _ _ _ _ c0
  have d1 := (t1.block (w.heap.size + 1) (lt_of_heap c1) (by omega)).trans c1
  have d2 := (t1.block (w.heap.size + 1 + 1) (lt_of_heap c2) (by omega)).trans c2
  have HB : Hid (Below w.heap.size w z) := (HB0.out.trans (b1.mono HB0.out.size)).trans (t1.below (Nat.le_trans HB0.out.size b1.size) fun j e => by omega)
  have q0 : z.cell? ⟨w.heap.size + 1, 0, none⟩ = some (.bool false) := (cell_at d1 0).trans rfl
  have q2 : z.cell? ⟨w.heap.size + 1, 2, none⟩ = some (.int .i64 k) := (cell_at d1 2).trans rfl
  have l1 := lt_of_heap d1
  have HL : Hid (_) := d0
  have HD1 : Hid (_) := d1
  have HS : Hid (_) := d2
  clear C1 b1 c0 c1 c2 t1 d0 d1 d2 HB0 HA0 HA1 HA2
  have hS0 : FS w z.drew (accA false wd k vl) 32 := ⟨⟨_, _, _, HL.out⟩, HD1.out, HS.out, HB.out.drew, (hN.out.below HB.out).below (below_drew' _)⟩
  have HX0 : Hid (z.drew.heap[w.heap.size]? = some (.cells (regC X (nx pc) m) 26 (0, 0))) := HL.out
  go_upto_region 4 with (first
    | (refine wpList_store_row rfl 26 _ _ rfl w.heap.size (regC X (nx pc) m) rfl rfl 26 (regC X pc m) HC0.out inf25 rfl (regC_one _ _ _) ?_
       rw [hz9]
       clear hz9 HC0)
    | fail)
  clear q0 q2 l1 HL HS HD1 HB hN
  refine wp_region_held_drew (S := (fun W : World => FS w W (accA false wd k vl) 32)) (by kernel_rfl) hS0 (fun _ => ?_)
  refine wpAnyH_take (i := 0) (v := .pointer (some ⟨w.heap.size + 1, 2, none⟩)) rfl (by kernel_rfl) (by kernel_rfl) (by kernel_rfl) (fun _ _ _ h => h) (Or.inl ⟨by rfl, ?_⟩) hS0 ?_
  · intro wq hw
    go_simp
  try simp only [Act.put, List.getElem_toArray, List.getElem_cons_zero, List.setIfInBounds_toArray, List.set_cons_zero, List.set_cons_succ]
  refine wpAnyH_take (i := 1) (v := .int .i64 k) rfl (by kernel_rfl) (by kernel_rfl) (by kernel_rfl) (fun _ _ _ h => h) (Or.inl ⟨by rfl, ?_⟩) hS0 ?_
  · intro wq hw
    have hc : wq.cell? ⟨w.heap.size + 1, 2, none⟩ = some (.int .i64 k) := (cell_at hw.a1 2).trans rfl
    have hl := lt_cell hc
    go_simp
  try simp only [Act.put, List.getElem_toArray, List.getElem_cons_succ, List.getElem_cons_zero, List.setIfInBounds_toArray, List.set_cons_zero, List.set_cons_succ]
  refine wpAnyH_take (i := 2) (v := .int .u64 v) rfl (by kernel_rfl) (by kernel_rfl) (by kernel_rfl) (fun _ _ _ h => h) (Or.inl ⟨by rfl, ?_⟩) hS0 ?_
  · intro wq hw
    go_simp
  try simp only [Act.put, List.getElem_toArray, List.getElem_cons_succ, List.getElem_cons_zero, List.setIfInBounds_toArray, List.set_cons_zero, List.set_cons_succ]
  refine wpAnyH_take (i := 3) (v := .pointer (some ⟨w.heap.size + 1, 1, none⟩)) rfl (by kernel_rfl) (by kernel_rfl) (by kernel_rfl) (fun _ _ _ h => h) (Or.inl ⟨by rfl, ?_⟩) hS0 ?_
  · intro wq hw
    go_simp
  try simp only [Act.put, List.getElem_toArray, List.getElem_cons_succ, List.getElem_cons_zero, List.setIfInBounds_toArray, List.set_cons_zero, List.set_cons_succ]
  refine wpAnyH_take (i := 4) (v := .int .i64 wd) rfl (by kernel_rfl) (by kernel_rfl) (by kernel_rfl) (fun _ _ _ h => h) (Or.inl ⟨by rfl, ?_⟩) hS0 ?_
  · intro wq hw
    have hc : wq.cell? ⟨w.heap.size + 1, 1, none⟩ = some (.int .i64 wd) := (cell_at hw.a1 1).trans rfl
    have hl := lt_cell hc
    go_simp
  try simp only [Act.put, List.getElem_toArray, List.getElem_cons_succ, List.getElem_cons_zero, List.setIfInBounds_toArray, List.set_cons_zero, List.set_cons_succ]
  refine wpAnyH_take (i := 6) (v := .pointer (some ⟨w.heap.size + 1, 1, none⟩)) rfl (by kernel_rfl) (by kernel_rfl) (by kernel_rfl) (fun _ _ _ h => h) (Or.inl ⟨by rfl, ?_⟩) hS0 ?_
  · intro wq hw
    go_simp
  try simp only [Act.put, List.getElem_toArray, List.getElem_cons_succ, List.getElem_cons_zero, List.setIfInBounds_toArray, List.set_cons_zero, List.set_cons_succ]
  refine wpAnyH_take (i := 7) (v := .int .i64 wd) rfl (by kernel_rfl) (by kernel_rfl) (by kernel_rfl) (fun _ _ _ h => h) (Or.inl ⟨by rfl, ?_⟩) hS0 ?_
  · intro wq hw
    have hc : wq.cell? ⟨w.heap.size + 1, 1, none⟩ = some (.int .i64 wd) := (cell_at hw.a1 1).trans rfl
    have hl := lt_cell hc
    go_simp
  try simp only [Act.put, List.getElem_toArray, List.getElem_cons_succ, List.getElem_cons_zero, List.setIfInBounds_toArray, List.set_cons_zero, List.set_cons_succ]
  refine wpAnyH_take (i := 12) (v := .pointer (some ⟨w.heap.size, 0, none⟩)) rfl (by kernel_rfl) (by kernel_rfl) (by kernel_rfl) (fun _ _ _ h => h) (Or.inl ⟨by rfl, ?_⟩) hS0 ?_
  · intro wq hw
    go_simp
  try simp only [Act.put, List.getElem_toArray, List.getElem_cons_succ, List.getElem_cons_zero, List.setIfInBounds_toArray, List.set_cons_zero, List.set_cons_succ]
  refine wpAnyH_ready (rs := [5]) (by kernel_rfl) (by simp) ?_
  refine AllReadyH.cons rfl (fun K hK => ?_) AllReadyH.nil
  have CC := rstore_any v wd z.drew h0 h1
  go_simp
  go_wp2_with (go_at_call 18; refine CC.mono ?_; rintro e y1 ⟨⟨ad, len, cap, rfl, hbs⟩, b1⟩)
  have HY1 : Hid (_) := keepB HX0.out b1
  refine hK.out _ _ (hS0.below b1) (fun hS1 => ?_)
  clear hK K CC hS0 b1 HX0
  try simp only [Act.put, List.getElem_toArray, List.getElem_cons_succ, List.getElem_cons_zero, List.setIfInBounds_toArray, List.set_cons_zero, List.set_cons_succ]
  refine wpAnyH_ready (rs := [8]) (by kernel_rfl) (by simp) ?_
  refine AllReadyH.cons rfl (fun K hK => ?_) AllReadyH.nil
  have CC := rload_bs hbs cap
  go_simp
  go_wp2_with (go_at_call 17; refine CC.mono ?_; rintro e y2 ⟨⟨ok, rfl⟩, b2⟩)
  have HY2 : Hid (_) := keepB HY1.out b2
  refine hK.out _ _ (hS1.below b2) (fun hS2 => ?_)
  clear hK K CC hS1 b2 hbs HY1
  try simp only [Act.put, List.getElem_toArray, List.getElem_cons_succ, List.getElem_cons_zero, List.setIfInBounds_toArray, List.set_cons_zero, List.set_cons_succ]
  refine wpAnyH_take (i := 9) (v := .tuple #[.int .u64 (ldV v wd), .bool ok]) rfl (by kernel_rfl) (by kernel_rfl) (by kernel_rfl) (fun _ _ _ h => h) (Or.inl ⟨by rfl, ?_⟩) hS2 ?_
  · intro wq hw
    go_simp
  try simp only [Act.put, List.getElem_toArray, List.getElem_cons_succ, List.getElem_cons_zero, List.setIfInBounds_toArray, List.set_cons_zero, List.set_cons_succ]
  refine wpAnyH_take (i := 10) (v := .int .u64 (ldV v wd)) rfl (by kernel_rfl) (by kernel_rfl) (by kernel_rfl) (fun _ _ _ h => h) (Or.inl ⟨by rfl, ?_⟩) hS2 ?_
  · intro wq hw
    go_simp
  try simp only [Act.put, List.getElem_toArray, List.getElem_cons_succ, List.getElem_cons_zero, List.setIfInBounds_toArray, List.set_cons_zero, List.set_cons_succ]
  refine wpAnyH_take (i := 11) (v := .bool ok) rfl (by kernel_rfl) (by kernel_rfl) (by kernel_rfl) (fun _ _ _ h => h) (Or.inl ⟨by rfl, ?_⟩) hS2 ?_
  · intro wq hw
    go_simp
  try simp only [Act.put, List.getElem_toArray, List.getElem_cons_succ, List.getElem_cons_zero, List.setIfInBounds_toArray, List.set_cons_zero, List.set_cons_succ]
  refine wpAnyH_take (i := 13) (v := .pointer (some ⟨w.heap.size, k, none⟩)) rfl (by kernel_rfl) (by kernel_rfl) (by kernel_rfl) (fun _ _ _ h => h) (Or.inl ⟨by rfl, ?_⟩) hS2 ?_
  · intro wq hw
    go_simp
  try simp only [Act.put, List.getElem_toArray, List.getElem_cons_succ, List.getElem_cons_zero, List.setIfInBounds_toArray, List.set_cons_zero, List.set_cons_succ]
  refine wpAnyH_ready (rs := [14]) (by kernel_rfl) (by simp) ?_
  refine AllReadyH.cons rfl (fun K hK => ?_) AllReadyH.nil
  have ck : y2.cell? ⟨w.heap.size, k, none⟩ = some (.int .u64 (X k)) := (cell_at HY2.out k).trans (regC_at X (nx pc) m k (by omega))
  have cf := fz_at HY2.out k
  have cl := lt_of_heap HY2.out
  have z0 := heap_setCell HY2.out k (.int .u64 (ldV v wd))
  rw [regC_set _ _ _ k (by omega)] at z0
  have HZ : Hid (_) := z0
  have zt := trn_set1 HY2.out k (.int .u64 (ldV v wd))
  have hS3 := hS2.set zt z0 hw0
  clear z0 zt HY2 hS2
  go_simp
  go_wp2_with fail
  refine hK.out _ _ hS3 (fun hS4 => ?_)
  clear hK K ck cf cl hS4
  refine wpAnyH_done (by kernel_rfl) ?_ _
  generalize hZ9 : upd X k (ldV v wd) = Z at *
  have HB0 : Hid (_) := hS3.bl
  have HA2 : Hid (_) := hS3.a2
  clear hS3
  go_wp2_with (first
    | (refine wpList_load_row rfl 26 _ rfl w.heap.size rfl 26 (regC Z (nx pc) m) (0, 0) _ HZ.out Tryd.underlying26 rfl inf25 ?_)
    | (refine wpList_store_row rfl 26 _ _ rfl (w.heap.size + 1 + 1) (regC Z (nx pc) m) rfl rfl 26 zeroRegs HA2.out inf25 rfl (regC_one _ _ _) ?_)
    | fail)
  refine bodyPost_ret (v := _) (results_cell_row Tryd.results8 _ _ _ _ _ _ _ rfl (setRow_heap _ _ _ _ _ _ HA2.out) Tryd.underlying26 rfl inf25) rfl ⟨by rw [hZ9], HB0.out.trans (below_setRow' _ _ (by omega) _)⟩
theorem finish_any (X : Nat → Int) (pc m : Int) (wr : Bool) (wd rg vl v : Int) (h0 : 0 ≤ v) (h1 : v < 18446744073709551616) (w : World) (hz : SZ w) : Calls Tryd.prog 7 #[.agg (regC X pc m), .agg (accA wr wd rg vl), .int .u64 v] w fun r w' => r = .returned (.agg (regC (finX X wr wd rg v) (nx pc) m)) ∧ Below w.heap.size w w' := by
  unfold finX
  by_cases h : wr = false ∧ 1 ≤ rg ∧ rg ≤ 15
  · rw [if_pos h]
    obtain ⟨rfl, h2, h3⟩ := h
    obtain ⟨k, rfl⟩ := Int.eq_ofNat_of_zero_le (show 0 ≤ rg by omega)
    exact finish_yes X pc m wd k vl v (by omega) (by omega) h0 h1 w hz
  · rw [if_neg h]
    exact finish_no X pc m wr wd rg vl v (by cases wr; · simp at h; omega
                                             · exact .inl rfl) w
theorem rfinish_any (X : Nat → Int) (pc m : Int) (wr : Bool) (wd rg vl v : Int) (h0 : 0 ≤ v) (h1 : v < 18446744073709551616) (w : World) (hz : SZ w) : Calls Tryd.prog 8 #[.agg (regC X pc m), .agg (accA wr wd rg vl), .int .u64 v] w fun r w' => r = .returned (.agg (regC (finX X wr wd rg v) (nx pc) m)) ∧ Below w.heap.size w w' := by
  unfold finX
  by_cases h : wr = false ∧ 1 ≤ rg ∧ rg ≤ 15
  · rw [if_pos h]
    obtain ⟨rfl, h2, h3⟩ := h
    obtain ⟨k, rfl⟩ := Int.eq_ofNat_of_zero_le (show 0 ≤ rg by omega)
    exact rfinish_yes X pc m wd k vl v (by omega) (by omega) h0 h1 w hz
  · rw [if_neg h]
    exact rfinish_no X pc m wr wd rg vl v (by cases wr; · simp at h; omega
                                              · exact .inl rfl) w
end Go.Proofs.YtkckobbedpccfaaDoor.K
