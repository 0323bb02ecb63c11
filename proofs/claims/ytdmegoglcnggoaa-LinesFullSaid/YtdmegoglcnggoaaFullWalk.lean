/-
  The walk of LinesFull.
-/
import Derived.Test.YtdmegoglcnggoaaSd
import Derived.Test.YtdmegoglcnggoaaNw
import Derived.Test.YtdmegoglcnggoaaIns
namespace Go.Proofs.Ytdmegoglcnggoaa.linesFull
open Go.RowKit
set_option linter.unusedVariables false
set_option maxRecDepth 20000
/-- the state between the rounds -/
def FS (w wr : World) (l b : Nat) (C : Nat → Nat) (c : Nat) (zs : List Int) (j : Nat) : Prop := LW w.heap.size wr l b 4 C (upd (fun _ => l0) c ⟨zs.take (min j 16), 0, 0, false⟩) ∧ Below w.heap.size w wr
theorem FS.send {w wr : World} {l b : Nat} {C : Nat → Nat} {c : Nat} {zs : List Int} {j : Nat} (h : FS w wr l b C c zs j) (hc : c < 4) (hj : j < zs.length) (h16 : j < 16) :
    Calls Try.prog 11 #[.pointer (some ⟨l, 0, none⟩), .int .i64 c, .int .i64 (zs.getD j 0)] wr fun e w' => e = .returned (.int .i64 0) ∧ FS w w' l b C c zs (j + 1) := by
  have e0 : min j 16 = j := by omega
  have e1 : min (j + 1) 16 = j + 1 := by omega
  refine (send_room h.1 hc (zs.getD j 0) (by rw [upd_self]; simp; omega)).mono fun e w' ⟨he, hl, ht⟩ => ⟨he, ?_, h.2.trans (h.1.to ht)⟩
  rw [upd_self, upd_upd] at hl
  rw [e1, take_next zs j hj]
  rw [e0] at hl
  exact hl
theorem FS.full {w wr : World} {l b : Nat} {C : Nat → Nat} {c : Nat} {zs : List Int} {j : Nat} (h : FS w wr l b C c zs j) (hc : c < 4) (hj : j < zs.length) (h16 : 16 ≤ j) (x : Int) :
    Calls Try.prog 11 #[.pointer (some ⟨l, 0, none⟩), .int .i64 c, .int .i64 x] wr fun e w' => e = .returned (.int .i64 18) ∧ FS w w' l b C c zs (j + 1) := by
  have e0 : min j 16 = 16 := by omega
  have e1 : min (j + 1) 16 = 16 := by omega
  refine (send_full h.1 hc x (by rw [upd_self]; simp; omega)).mono fun e w' ⟨he, hl⟩ => ⟨he, ?_⟩
  subst hl
  unfold FS at *
  rw [e1]
  rw [e0] at h
  exact h
theorem FS.wait {w wr : World} {l b : Nat} {C : Nat → Nat} {c : Nat} {zs : List Int} {j : Nat} (h : FS w wr l b C c zs j) (hc : c < 4) (hj : j ≤ zs.length) (m : Int) (hm : m = min j 16) :
    Calls Try.prog 21 #[.pointer (some ⟨l, 0, none⟩), .int .i64 c] wr fun e w' => e = .returned (.int .i64 m) ∧ w' = wr := by
  refine (waiting_ok h.1 hc).mono fun e w' ⟨he, hl⟩ => ⟨?_, hl⟩
  rw [he, upd_self, hm]
  apply ret_int
  simp
  omega
set_option maxHeartbeats 1600000 in
theorem walk (a : Option Addr) (n cp : Nat) (zs : List Int) (core : Int) (w : World) (hK : NumsIn .i64 w a n zs) (hn : n < 9223372036854775808) :
    Calls Try.prog 7 #[.slice a n cp, .int .i64 core] w fun e w' => e = .returned (.bool true) ∧ Below w.heap.size w w' := by
  have C1 := new_ok 4 (by omega) (by omega)
  have HK : Hid (NumsIn .i64 w a n zs) := hK
  obtain ⟨c, hc, hce⟩ := and_low core 3 3 (by decide) (by decide)
  clear hK
  go_enter Try.func7, Try.ntmps7
  go_wp2_with fail
  refine (C1 _).mono ?_
  rintro e w1 ⟨l, b, C, rfl, hL, hb1⟩
  have E0 : Hid (FS w w1 l b C c zs 0) := ⟨hL.congr fun i hi => by by_cases h : i = c <;> simp [upd, h, l0], hb1⟩
  clear C1 hL hb1
  go_wp2_with fail
  go_loopw [7] (fun q wr => ∃ j : Nat, j ≤ n ∧ q = .int .i64 j ∧ Hid (FS w wr l b C c zs j)) (fun q _ => n - (intOf q).toNat)
  case atStart => exact ⟨0, by omega, rfl, E0⟩
  case round =>
    obtain ⟨j, hj, rfl, HS⟩ := hrel
    clear E0
    have hzl : zs.length = n := HK.out.1
    by_cases hgo : j < n ∧ j < 100
    · obtain ⟨hjn, hj1⟩ := hgo
      have hjn' : (j : Int) < (n : Int) := by omega
      have hj1' : (j : Int) < 100 := by omega
      obtain ⟨kb, off, rfl, hkb, hd0⟩ := HK.out.at hjn
      have k0 : wr.cell? ⟨kb, off + j, none⟩ = some (.int .i64 (zs.getD j 0)) := ((bcell HS.out.2).1 _ _ hkb).trans hd0
      have hkbr : kb < wr.heap.size := by have := HS.out.2.size; omega
      by_cases h16 : j < 16
      · have h16' : (j : Int) < 16 := by omega
        have CS := HS.out.send (by omega) (by omega) h16
        obtain ⟨x, hx⟩ : ∃ x, Hid (x = zs.getD j 0) := ⟨_, rfl⟩
        rw [← hx.out] at k0 CS
        clear hd0
        go_wp2_with fail
        refine CS.mono ?_
        rintro e w2 ⟨rfl, hF2⟩
        have CW := hF2.wait (m := (j : Int) + 1) (by omega) (by omega) (by omega)
        have HF : Hid (FS w w2 l b C c zs (j + 1)) := hF2
        clear CS HS k0 hF2
        go_wp2_with fail
        refine CW.mono ?_
        rintro e w2 ⟨rfl, rfl⟩
        go_wp2_with fail
        go_roundw
        case rel => exact ⟨j + 1, by omega, by go_num, HF⟩
        case measure => simp [intOf]; omega
      · have h16' : (16 : Int) ≤ (j : Int) := by omega
        have CS := HS.out.full (by omega) (by omega) (by omega) (zs.getD j 0)
        obtain ⟨x, hx⟩ : ∃ x, Hid (x = zs.getD j 0) := ⟨_, rfl⟩
        rw [← hx.out] at k0 CS
        clear hd0
        go_wp2_with fail
        refine CS.mono ?_
        rintro e w2 ⟨rfl, hF2⟩
        have CW := hF2.wait (m := 16) (by omega) (by omega) (by omega)
        have HF : Hid (FS w w2 l b C c zs (j + 1)) := hF2
        clear CS HS k0 hF2
        go_wp2_with fail
        refine CW.mono ?_
        rintro e w2 ⟨rfl, rfl⟩
        go_wp2_with fail
        go_roundw
        case rel => exact ⟨j + 1, by omega, by go_num, HF⟩
        case measure => simp [intOf]; omega
    · by_cases h17 : n < 17
      · obtain rfl : j = n := by omega
        have h17' : (j : Int) < 17 := by omega
        go_wp2_with fail
        go_ret
        exact ⟨rfl, HS.out.2⟩
      · obtain ⟨kb, off, rfl, hkb, hd0⟩ := HK.out.at (j := 0) (by omega)
        have k0 : wr.cell? ⟨kb, off, none⟩ = some (.int .i64 (zs.getD 0 0)) := ((bcell HS.out.2).1 _ _ hkb).trans hd0
        have hkbr : kb < wr.heap.size := by have := HS.out.2.size; omega
        have h17' : ¬ ((n : Int) < 17) := by omega
        obtain ⟨x, q, hq, hx, hql⟩ : ∃ x q, zs.take (min j 16) = x :: q ∧ zs.getD 0 0 = x ∧ q.length = 15 := by
          have e : min j 16 = 16 := by omega
          rw [e]
          match zs, hzl with
          | [], h => simp at h; omega
          | x :: r, h => exact ⟨x, r.take 15, rfl, rfl, by simp at h ⊢; omega⟩
        rw [hx] at k0
        have hd : (j : Int) < (n : Int) → ¬ ((j : Int) < 100) := fun h => by omega
        by_cases hjn : (j : Int) < (n : Int)
        · have h100 := hd hjn
          clear hd
          have CT := take_some HS.out.1 (i := c) (by omega) x q (by rw [upd_self]; exact hq)
          have HB : Hid (Below w.heap.size w wr) := HS.out.2
          have HL : Hid (LW w.heap.size wr l b 4 C (upd (fun _ => l0) c ⟨zs.take (min j 16), 0, 0, false⟩)) := HS.out.1
          clear HS hd0 hq
          go_wp2_with fail
          refine CT.mono ?_
          rintro e w2 ⟨rfl, hL2, ht2⟩
          have hb2 := HL.out.to ht2
          have k2 : w2.cell? ⟨kb, off, none⟩ = some (.int .i64 x) := ((bcell hb2).1 _ _ hkb).trans k0
          have hk2 : kb < w2.heap.size := by have := hb2.size; omega
          rw [upd_self, upd_upd] at hL2
          have CW := waiting_ok hL2 (i := c) (by omega)
          rw [upd_self] at CW
          rw [hql] at CW
          have CS := send_room hL2 (i := c) (by omega) 5 (by rw [upd_self]; simp [hql])
          have HB2 : Hid (Below w.heap.size w w2) := HB.out.trans hb2
          have HL2 : Hid (LW w.heap.size w2 l b 4 C _) := hL2
          rw [upd_self, upd_upd] at CS
          clear CT hb2 ht2 hL2 k0 hkbr HL HB
          go_wp2_with fail
          refine CW.mono ?_
          rintro e w2 ⟨rfl, rfl⟩
          go_wp2_with fail
          refine CS.mono ?_
          rintro e w3 ⟨rfl, hL3, ht3⟩
          have CF := send_full hL3 (i := c) (by omega) 6 (by rw [upd_self]; simp [hql])
          have HB3 : Hid (Below w.heap.size w w3) := HB2.out.trans (HL2.out.to ht3)
          clear CS CW hL3 ht3 HB2 HL2
          go_wp2_with fail
          refine CF.mono ?_
          rintro e w3 ⟨rfl, rfl⟩
          go_wp2_with fail
          go_ret
          exact ⟨rfl, HB3.out⟩
        · clear hd
          have CT := take_some HS.out.1 (i := c) (by omega) x q (by rw [upd_self]; exact hq)
          have HB : Hid (Below w.heap.size w wr) := HS.out.2
          have HL : Hid (LW w.heap.size wr l b 4 C (upd (fun _ => l0) c ⟨zs.take (min j 16), 0, 0, false⟩)) := HS.out.1
          clear HS hd0 hq
          go_wp2_with fail
          refine CT.mono ?_
          rintro e w2 ⟨rfl, hL2, ht2⟩
          have hb2 := HL.out.to ht2
          have k2 : w2.cell? ⟨kb, off, none⟩ = some (.int .i64 x) := ((bcell hb2).1 _ _ hkb).trans k0
          have hk2 : kb < w2.heap.size := by have := hb2.size; omega
          rw [upd_self, upd_upd] at hL2
          have CW := waiting_ok hL2 (i := c) (by omega)
          rw [upd_self] at CW
          rw [hql] at CW
          have CS := send_room hL2 (i := c) (by omega) 5 (by rw [upd_self]; simp [hql])
          have HB2 : Hid (Below w.heap.size w w2) := HB.out.trans hb2
          have HL2 : Hid (LW w.heap.size w2 l b 4 C _) := hL2
          rw [upd_self, upd_upd] at CS
          clear CT hb2 ht2 hL2 k0 hkbr HL HB
          go_wp2_with fail
          refine CW.mono ?_
          rintro e w2 ⟨rfl, rfl⟩
          go_wp2_with fail
          refine CS.mono ?_
          rintro e w3 ⟨rfl, hL3, ht3⟩
          have CF := send_full hL3 (i := c) (by omega) 6 (by rw [upd_self]; simp [hql])
          have HB3 : Hid (Below w.heap.size w w3) := HB2.out.trans (HL2.out.to ht3)
          clear CS CW hL3 ht3 HB2 HL2
          go_wp2_with fail
          refine CF.mono ?_
          rintro e w3 ⟨rfl, rfl⟩
          go_wp2_with fail
          go_ret
          exact ⟨rfl, HB3.out⟩
end Go.Proofs.Ytdmegoglcnggoaa.linesFull
