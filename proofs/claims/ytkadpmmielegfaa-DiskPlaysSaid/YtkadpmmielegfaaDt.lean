/-
  What transfer of a disk does.
-/
import Derived.Test.YtkadpmmielegfaaDq
namespace Go.Proofs.Ytkadpmmielegfaa
open Go.RowKit Go.Maps
set_option linter.unusedVariables false
set_option maxRecDepth 20000

theorem below_drewN {B : Nat} {a w : World} (h : Below B a w) : ∀ n, Below B a (w.drewN n)
  | 0 => h
  | n + 1 => (below_drewN h n).drew
/-- P12.3: the error, the disk's bytes and the memory's behind a request that is done -/
def trE (F : Nat) (r : Rq) : Int := if 0 ≤ r.f ∧ r.f < F then 0 else 12
def trZ (zs ms : List Int) (r : Rq) : List Int := if 0 ≤ r.f ∧ r.f < (ms.length / 256 : Nat) ∧ r.w = true then splice zs (r.b.toNat * 256) (piece ms r.f.toNat) else zs
def trM (zs ms : List Int) (r : Rq) : List Int := if 0 ≤ r.f ∧ r.f < (ms.length / 256 : Nat) ∧ r.w = false then splice ms (r.f.toNat * 256) (piece zs r.b.toNat) else ms
def SM (m g : Nat) : Nat → Prop := fun k => k = m ∨ k = g

theorem transfer_out (N0 D m B b g : Nat) (v : Value) (ps : List Rq) (zs ms : List Int) (r : Rq) (w : World) (h : DK N0 w D m B v ps zs) (hm : MM w b g ms) (ho : ¬ (0 ≤ r.f ∧ r.f < (ms.length / 256 : Nat))) :
    Calls Try.prog 32 #[.pointer (some ⟨D, 0, none⟩), .pointer (some ⟨b, 0, none⟩), rv r] w fun e w' => e = .returned (.int .i64 12) ∧ Below w.heap.size w w' := by
  have b0 : Below w.heap.size w (w.alloc (.cells (rc r).toArray 38)) := (Below.refl _ _).alloc (Nat.le_refl _) _
  have m0 := hm.below b0
  by_cases h0 : r.f < 0
  · have hd : decide (r.f < 0) = true := decide_eq_true h0
    clear h hm m0 ho
    simp only [rc, rv] at *
    go_enter Try.func32, Try.ntmps32
    go_wp2_with fail
    go_quiet (fail)
    go_wp2_with fail
    go_ret
    exact ⟨rfl, below_drewN b0 _⟩
  · have hd : decide (r.f < 0) = false := decide_eq_false h0
    have hf2 : ((ms.length : Int) / 256) ≤ r.f := by omega
    have hd2 : decide (((ms.length : Int) / 256) ≤ r.f) = true := decide_eq_true hf2
    have FR : ∀ k, Calls Try.prog 30 #[.pointer (some ⟨b, 0, none⟩)] ((w.alloc (.cells (rc r).toArray 38)).drewN k) fun e w' => e = .returned (.int .i64 (ms.length / 256 : Int)) ∧ w' = (w.alloc (.cells (rc r).toArray 38)).drewN k := fun k =>
      frames_any _ _ _ _ _ hm.len (m0.below (below_drewN (Below.refl _ _) k)).hv
    clear h hm m0 ho
    simp only [rc, rv] at *
    generalize (ms.length : Int) / 256 = F at *
    go_enter Try.func32, Try.ntmps32
    go_wp2_with fail
    go_quiet ((go_at_call 30; exact Calls.quiet_of_same (FR _)))
    go_wp2_with fail
    go_ret
    exact ⟨rfl, below_drewN b0 _⟩

theorem piece_in {ms : List Int} {f : Nat} (h : f < ms.length / 256) : f * 256 + 256 ≤ ms.length := by omega
set_option maxHeartbeats 800000 in
theorem transfer_write (N0 D m B b g : Nat) (v : Value) (ps : List Rq) (zs ms : List Int) (i : Int) (n f : Nat) (w : World) (h : DK N0 w D m B v ps zs) (hm : MM w b g ms) (hn : n < B) (hf : f < ms.length / 256) (hN : N0 ≤ w.heap.size) (hg : g < N0) :
    Calls Try.prog 32 #[.pointer (some ⟨D, 0, none⟩), .pointer (some ⟨b, 0, none⟩), rv ⟨i, true, n, f⟩] w fun e w' => e = .returned (.int .i64 0) ∧ DK N0 w' D m B v ps (splice zs (n * 256) (piece ms f)) ∧ MM w' b g ms ∧ Trn (SM m g) w w' := by
  have b0 : Below w.heap.size w (w.alloc (.cells (rc ⟨i, true, n, f⟩).toArray 38)) := (Below.refl _ _).alloc (Nat.le_refl _) _
  have m0 := hm.below b0
  have h0 := h.below b0
  have hl := hm.len
  have hd : decide ((f : Int) < 0) = false := decide_eq_false (by omega)
  have hd2 : decide (((ms.length : Int) / 256) ≤ (f : Int)) = false := decide_eq_false (by omega)
  have FR : ∀ k, Calls Try.prog 30 #[.pointer (some ⟨b, 0, none⟩)] ((w.alloc (.cells (rc ⟨i, true, n, f⟩).toArray 38)).drewN k) fun e w' => e = .returned (.int .i64 (ms.length / 256 : Int)) ∧ w' = (w.alloc (.cells (rc ⟨i, true, n, f⟩).toArray 38)).drewN k := fun k =>
    frames_any _ _ _ _ _ hm.len (m0.below (below_drewN (Below.refl _ _) k)).hv
  have hin := piece_in hf
  have hfb : f < 65536 := by omega
  have BY : ∀ k, Calls Try.prog 23 #[.pointer (some ⟨b, 0, none⟩), .int .u64 ((f * 256 : Nat) : Int), .int .i64 ((256 : Nat) : Int)] ((w.alloc (.cells (rc ⟨i, true, n, f⟩).toArray 38)).drewN k) _ := fun k => mbytes_yes b g ms (f * 256) 256 _ (m0.below (below_drewN (Below.refl _ _) k)) hin
  rw [show ((f * 256 : Nat) : Int) = (f : Int) * 256 by omega, show ((256 : Nat) : Int) = 256 from rfl] at BY
  have HH : Hid (DK N0 w D m B v ps zs ∧ MM w b g ms ∧ Below w.heap.size w (w.alloc (.cells (rc ⟨i, true, n, f⟩).toArray 38))) := ⟨h, hm, b0⟩
  clear h hm m0 h0 b0 hf hin hl
  simp only [rc, rv] at *
  generalize (ms.length : Int) / 256 = F at *
  go_enter Try.func32, Try.ntmps32
  go_wp2_with fail
  go_quiet ((go_at_call 30; exact Calls.quiet_of_same (FR _)))
  clear FR
  go_wp2_with fail
  refine (BY _).mono ?_
  rintro e w1 ⟨g', rfl, own1, k1⟩
  clear BY
  obtain ⟨h, hm, b0⟩ := HH.out
  have bw : Below w.heap.size w w1 := (below_drewN b0 _).trans (k1.mono (below_drewN b0 _).size)
  obtain ⟨oh, ol, og⟩ := own_heap own1
  have sl := sl_row oh (bytes_mid hm.bytes _ _)
  rw [ol] at sl
  have h1 := h.below bw
  have m1 := hm.below bw
  have PU := put_dk N0 D m B v ps zs _ n (some ⟨g', 0, none⟩) 256 256 w1 h1 sl (by have := bw.size; omega)
  rw [show putE B n ((List.drop (f * 256) ms).take 256).length = 0 by rw [ol]; simp [putE]; omega, show putZ B zs n ((List.drop (f * 256) ms).take 256) = splice zs (n * 256) (piece ms f) by simp only [putZ]; rw [ol, show putE B n 256 = 0 by simp [putE]; omega]; simp [piece]] at PU
  have d2 : w1.cell? ⟨w.heap.size, 2, none⟩ = some (.int .i64 n) := ((bcell k1).1 w.heap.size 2 (by simp)).trans (by simp)
  have dl : w.heap.size < w1.heap.size := by have := k1.size; simp at this; omega
  have HW : Hid (MM w1 b g ms ∧ Trn (SM m g) w w1 ∧ DK N0 w1 D m B v ps zs) := ⟨m1, Trn.of_below bw, h1⟩
  clear h hm b0 bw oh ol og sl h1 m1 own1 k1 HH
  go_wp2_with fail
  refine PU.mono ?_
  rintro e w2 ⟨rfl, h2, g2⟩
  clear PU
  go_wp2_with fail
  go_ret
  obtain ⟨m1, t1, h1⟩ := HW.out
  obtain ⟨es, cl, hmm⟩ := h1.mtyp
  exact ⟨rfl, h2, m1.kept g2 (fun e => ne_map m1.cell hmm (Option.some.inj e)) (fun e => ne_map m1.row hmm (Option.some.inj e)), t1.trans (Trn.of_grown g2 (.inl rfl))⟩

set_option maxHeartbeats 800000 in
theorem transfer_read (N0 D m B b g : Nat) (v : Value) (ps : List Rq) (zs ms : List Int) (i : Int) (n f : Nat) (w : World) (h : DK N0 w D m B v ps zs) (hm : MM w b g ms) (hn : n < B) (hf : f < ms.length / 256) (hN : N0 ≤ w.heap.size) (hg : g < N0) :
    Calls Try.prog 32 #[.pointer (some ⟨D, 0, none⟩), .pointer (some ⟨b, 0, none⟩), rv ⟨i, false, n, f⟩] w fun e w' => e = .returned (.int .i64 0) ∧ DK N0 w' D m B v ps zs ∧ MM w' b g (splice ms (f * 256) (piece zs n)) ∧ Trn (SM m g) w w' := by
  have b0 : Below w.heap.size w (w.alloc (.cells (rc ⟨i, false, n, f⟩).toArray 38)) := (Below.refl _ _).alloc (Nat.le_refl _) _
  have m0 := hm.below b0
  have h0 := h.below b0
  have hl := hm.len
  have hd : decide ((f : Int) < 0) = false := decide_eq_false (by omega)
  have hd2 : decide (((ms.length : Int) / 256) ≤ (f : Int)) = false := decide_eq_false (by omega)
  have FR : ∀ k, Calls Try.prog 30 #[.pointer (some ⟨b, 0, none⟩)] ((w.alloc (.cells (rc ⟨i, false, n, f⟩).toArray 38)).drewN k) fun e w' => e = .returned (.int .i64 (ms.length / 256 : Int)) ∧ w' = (w.alloc (.cells (rc ⟨i, false, n, f⟩).toArray 38)).drewN k := fun k =>
    frames_any _ _ _ _ _ hm.len (m0.below (below_drewN (Below.refl _ _) k)).hv
  have hin := piece_in hf
  have hfb : f < 65536 := by omega
  have BL : ∀ k, Calls Try.prog 20 #[.pointer (some ⟨D, 0, none⟩), .int .i64 n] ((w.alloc (.cells (rc ⟨i, false, n, f⟩).toArray 38)).drewN k) _ := fun k => block_yes N0 D m B v ps zs n _ (h0.below (below_drewN (Below.refl _ _) k)) hn
  have HH : Hid (DK N0 w D m B v ps zs ∧ MM w b g ms ∧ Below w.heap.size w (w.alloc (.cells (rc ⟨i, false, n, f⟩).toArray 38))) := ⟨h, hm, b0⟩
  clear h hm m0 h0 b0 hf hl
  simp only [rc, rv] at *
  generalize (ms.length : Int) / 256 = F at *
  go_enter Try.func32, Try.ntmps32
  go_wp2_with fail
  go_quiet ((go_at_call 30; exact Calls.quiet_of_same (FR _)))
  clear FR
  go_wp2_with fail
  refine (BL _).mono ?_
  rintro e w1 ⟨g', rfl, oh, og, k1⟩
  clear BL
  obtain ⟨h, hm, b0⟩ := HH.out
  have bw : Below w.heap.size w w1 := (below_drewN b0 _).trans (k1.mono (below_drewN b0 _).size)
  have pl := piece_len h.len hn
  have sl := sl_row oh (bytes_mid h.bytes _ _)
  rw [pl] at sl
  have h1 := h.below bw
  have m1 := hm.below bw
  have PU := mput_mm b g ms (piece zs n) ((f * 256 : Nat) : Int) (some ⟨g', 0, none⟩) 256 256 w1 m1 sl (by omega) (by omega) (by omega)
  rw [show plcE ms.length ((f * 256 : Nat) : Int) (piece zs n).length = 0 by rw [pl]; simp [plcE]; omega, show putV ms ((f * 256 : Nat) : Int) (piece zs n) = splice ms (f * 256) (piece zs n) by rw [putV, pl, if_pos (by simp [plcE]; omega)]; rfl, show ((f * 256 : Nat) : Int) = (f : Int) * 256 by omega] at PU
  have HW : Hid (DK N0 w1 D m B v ps zs ∧ Trn (SM m g) w w1 ∧ MM w1 b g ms) := ⟨h1, Trn.of_below bw, m1⟩
  clear h hm b0 bw oh og sl h1 m1 k1 HH hin pl
  go_wp2_with fail
  refine PU.mono ?_
  rintro e w2 ⟨rfl, m2, g2⟩
  clear PU
  go_wp2_with fail
  go_ret
  obtain ⟨h1, t1, m1⟩ := HW.out
  exact ⟨rfl, h1.bytesTurned m1.row hg g2, m2, t1.trans (Trn.of_grown g2 (.inr rfl))⟩

theorem transfer_dk (N0 D m B b g : Nat) (v : Value) (ps : List Rq) (zs ms : List Int) (r : Rq) (w : World) (h : DK N0 w D m B v ps zs) (hm : MM w b g ms) (hb : 0 ≤ r.b ∧ r.b < B) (hN : N0 ≤ w.heap.size) (hg : g < N0) :
    Calls Try.prog 32 #[.pointer (some ⟨D, 0, none⟩), .pointer (some ⟨b, 0, none⟩), rv r] w fun e w' => e = .returned (.int .i64 (trE (ms.length / 256) r)) ∧ DK N0 w' D m B v ps (trZ zs ms r) ∧ MM w' b g (trM zs ms r) ∧ Trn (SM m g) w w' := by
  obtain ⟨i, wr, rb, rf⟩ := r
  obtain ⟨n, rfl⟩ := Int.eq_ofNat_of_zero_le hb.1
  by_cases hf : 0 ≤ rf ∧ rf < (ms.length / 256 : Nat)
  · obtain ⟨f, rfl⟩ := Int.eq_ofNat_of_zero_le hf.1
    have hf' : f < ms.length / 256 := by omega
    have hn : n < B := by have := hb.2; simpa using this
    cases wr
    · rw [show trE (ms.length / 256) ⟨i, false, n, f⟩ = 0 by simp [trE]; omega, show trZ zs ms ⟨i, false, n, f⟩ = zs by simp [trZ], show trM zs ms ⟨i, false, n, f⟩ = splice ms (f * 256) (piece zs n) by rw [trM, if_pos ⟨hf.1, hf.2, rfl⟩]; rfl]
      exact transfer_read N0 D m B b g v ps zs ms i n f w h hm hn hf' hN hg
    · rw [show trE (ms.length / 256) ⟨i, true, n, f⟩ = 0 by simp [trE]; omega, show trM zs ms ⟨i, true, n, f⟩ = ms by simp [trM], show trZ zs ms ⟨i, true, n, f⟩ = splice zs (n * 256) (piece ms f) by rw [trZ, if_pos ⟨hf.1, hf.2, rfl⟩]; rfl]
      exact transfer_write N0 D m B b g v ps zs ms i n f w h hm hn hf' hN hg
  · rw [show trE (ms.length / 256) ⟨i, wr, n, rf⟩ = 12 by rw [trE, if_neg hf], show trZ zs ms ⟨i, wr, n, rf⟩ = zs by rw [trZ, if_neg (fun e => hf ⟨e.1, e.2.1⟩)], show trM zs ms ⟨i, wr, n, rf⟩ = ms by rw [trM, if_neg (fun e => hf ⟨e.1, e.2.1⟩)]]
    refine (transfer_out N0 D m B b g v ps zs ms ⟨i, wr, n, rf⟩ w h hm hf).mono ?_
    rintro e w1 ⟨rfl, b1⟩
    exact ⟨rfl, h.below b1, hm.below b1, Trn.of_below b1⟩
end Go.Proofs.Ytkadpmmielegfaa
