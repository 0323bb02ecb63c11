/-
  The walk of LinesOrder.
-/
import Derived.Test.YtdmegoglcnggoaaSd
import Derived.Test.YtdmegoglcnggoaaTk
import Derived.Test.YtdmegoglcnggoaaNw
import Derived.Test.YtdmegoglcnggoaaIns
namespace Go.Proofs.Ytdmegoglcnggoaa.linesOrder
open Go.RowKit
set_option linter.unusedVariables false
set_option maxRecDepth 20000
/-- core 1 has these events, core 0 this clock and timer -/
def OS (w wr : World) (l b : Nat) (C : Nat → Nat) (q : List Int) (ck tm : Int) (on : Bool) : Prop := LW w.heap.size wr l b 2 C (upd (upd (fun _ => l0) 1 ⟨q, 0, 0, false⟩) 0 ⟨[], ck, tm, on⟩) ∧ Below w.heap.size w wr
section
variable {w wr w' : World} {l b : Nat} {C : Nat → Nat} {q : List Int} {ck tm : Int} {on : Bool}
theorem s1 (y : Ln) : upd (upd (fun _ => l0) 1 ⟨q, 0, 0, false⟩) 0 y 1 = ⟨q, 0, 0, false⟩ := by rw [upd_other _ _ _ (by decide), upd_self]
theorem s1u (y z : Ln) : upd (upd (upd (fun _ => l0) 1 z) 0 y) 1 ⟨q, 0, 0, false⟩ = upd (upd (fun _ => l0) 1 ⟨q, 0, 0, false⟩) 0 y := by
  funext k
  by_cases h1 : k = 1
  · subst h1; simp [upd]
  · by_cases h0 : k = 0
    · subst h0; simp [upd]
    · simp [upd, h1, h0]
theorem OS.send (h : OS w wr l b C q ck tm on) (x : Int) (hq : q.length < 16) : Calls Try.prog 11 #[.pointer (some ⟨l, 0, none⟩), .int .i64 1, .int .i64 x] wr fun e w' => e = .returned (.int .i64 0) ∧ OS w w' l b C (q ++ [x]) ck tm on := by
  refine (send_room h.1 (i := 1) (by omega) x (by rw [s1]; exact hq)).mono fun e w' ⟨he, hl, ht⟩ => ⟨he, ?_, h.2.trans (h.1.to ht)⟩
  rw [s1, s1u] at hl
  exact hl
theorem OS.full (h : OS w wr l b C q ck tm on) (x : Int) (hq : 16 ≤ q.length) : Calls Try.prog 11 #[.pointer (some ⟨l, 0, none⟩), .int .i64 1, .int .i64 x] wr fun e w' => e = .returned (.int .i64 18) ∧ w' = wr :=
  send_full h.1 (i := 1) (by omega) x (by rw [s1]; exact hq)
theorem OS.wait (h : OS w wr l b C q ck tm on) : Calls Try.prog 21 #[.pointer (some ⟨l, 0, none⟩), .int .i64 0] wr fun e w' => e = .returned (.int .i64 0) ∧ w' = wr :=
  (waiting_ok h.1 (i := 0) (by omega)).mono fun e w' ⟨he, hw⟩ => ⟨by rw [he, upd_self]; rfl, hw⟩
theorem OS.take {x : Int} (h : OS w wr l b C (x :: q) ck tm on) : Calls Try.prog 13 #[.pointer (some ⟨l, 0, none⟩), .int .i64 1] wr fun e w' => e = .returned (.tuple #[.int .i64 x, .bool true]) ∧ OS w w' l b C q ck tm on := by
  refine (take_some h.1 (i := 1) (by omega) x q (by rw [s1])).mono fun e w' ⟨he, hl, ht⟩ => ⟨he, ?_, h.2.trans (h.1.to ht)⟩
  rw [s1, s1u] at hl
  exact hl
theorem OS.empty (h : OS w wr l b C [] ck tm on) : Calls Try.prog 13 #[.pointer (some ⟨l, 0, none⟩), .int .i64 1] wr fun e w' => e = .returned (.tuple #[.int .i64 0, .bool false]) ∧ w' = wr :=
  take_none h.1 (i := 1) (by omega) (by rw [s1])
theorem OS.set (h : OS w wr l b C q ck tm on) (x : Int) : Calls Try.prog 15 #[.pointer (some ⟨l, 0, none⟩), .int .i64 0, .int .u64 x] wr fun e w' => e = .returned (.int .i64 0) ∧ OS w w' l b C q ck x true := by
  refine (set_ok h.1 (i := 0) (by omega) x).mono fun e w' ⟨he, hl, ht⟩ => ⟨he, ?_, h.2.trans (h.1.to ht)⟩
  rw [upd_self, upd_upd] at hl
  exact hl
theorem OS.tick (h : OS w wr l b C q ck tm on) (x : Int) (h0 : 0 ≤ x) (h1 : 0 ≤ ck) (h2 : ck + x ≤ 4611686018427387904) : Calls Try.prog 17 #[.pointer (some ⟨l, 0, none⟩), .int .i64 0, .int .u64 x] wr fun e w' => e = .returned (.tuple #[.bool (on && decide (tm ≤ ck + x)), .int .i64 0]) ∧ OS w w' l b C q (ck + x) (if on && decide (tm ≤ ck + x) then 0 else tm) (if on && decide (tm ≤ ck + x) then false else on) := by
  have e1 : ckP ck x = ck + x := by unfold ckP; rw [if_pos (by omega)]
  refine (tick_ok h.1 (i := 0) (by omega) x ⟨h0, by omega⟩).mono fun e w' ⟨he, hl, ht⟩ => ⟨?_, ?_, h.2.trans (h.1.to ht)⟩
  · rw [he, upd_self]
    simp only [dueP, e1]
  · rw [upd_self, upd_upd] at hl
    unfold tickP dueP at hl
    simp only [e1] at hl
    split at hl
    · rename_i hd; simp only [hd, if_true]; exact hl
    · rename_i hd; simp only [hd]; exact hl
theorem OS.now (h : OS w wr l b C q ck tm on) : Calls Try.prog 22 #[.pointer (some ⟨l, 0, none⟩), .int .i64 0] wr fun e w' => e = .returned (.int .u64 ck) ∧ w' = wr :=
  (now_ok h.1 (i := 0) (by omega)).mono fun e w' ⟨he, hw⟩ => ⟨by rw [he, upd_self], hw⟩
end
set_option maxHeartbeats 3200000 in
theorem walk (a : Option Addr) (n cp : Nat) (zs : List Int) (at0 : Int) (a2 : Option Addr) (n2 cp2 : Nat) (ys : List Int) (w : World) (hK : NumsIn .i64 w a n zs) (hn : n < 9223372036854775808) (hK2 : NumsIn .u64 w a2 n2 ys) (hn2 : n2 < 9223372036854775808) :
    Calls Try.prog 5 #[.slice a n cp, .int .u64 at0, .slice a2 n2 cp2] w fun e w' => e = .returned (.bool true) ∧ Below w.heap.size w w' := by
  have C1 := new_ok 2 (by omega) (by omega)
  have HK : Hid (NumsIn .i64 w a n zs) := hK
  have HK2 : Hid (NumsIn .u64 w a2 n2 ys) := hK2
  obtain ⟨t, ht, hte⟩ := and_lowu at0 1099511627775 1099511627775 (by decide) (by decide)
  obtain ⟨m, hmin, hmn, hm16, hmm⟩ : ∃ m : Nat, (if (16 : Int) < (n : Int) then 16 else (n : Int)) = (m : Int) ∧ m ≤ n ∧ m ≤ 16 ∧ (m = n ∨ m = 16) := by
    by_cases h : (16 : Int) < (n : Int)
    · exact ⟨16, by rw [if_pos h]; rfl, by omega, by omega, .inr rfl⟩
    · exact ⟨n, by rw [if_neg h], by omega, by omega, .inl rfl⟩
  have hzl : Hid (zs.length = n) := hK.1
  clear hK hK2
  go_enter Try.func5, Try.ntmps5
  go_wp2_with fail
  refine (C1 _).mono ?_
  rintro e w1 ⟨l, b, C, rfl, hL, hb1⟩
  have E0 : Hid (OS w w1 l b C (zs.take 0) 0 0 false) := ⟨hL.congr fun i hi => by
    obtain rfl | rfl : i = 0 ∨ i = 1 := by omega
    · rfl
    · rfl, hb1⟩
  clear C1 hL hb1
  go_wp2_with fail
  go_loopw [10] (fun q wr => ∃ j : Nat, j ≤ m ∧ q = .int .i64 j ∧ Hid (OS w wr l b C (zs.take j) 0 0 false)) (fun q _ => m - (intOf q).toNat)
  case atStart => exact ⟨0, by omega, rfl, E0⟩
  case round =>
    obtain ⟨j, hj, rfl, HS⟩ := hrel
    clear E0
    by_cases hjm : j < m
    · have hjm' : (j : Int) < (m : Int) := by omega
      have hjn' : (j : Int) < (n : Int) := by omega
      obtain ⟨kb, off, rfl, hkb, hd0⟩ := HK.out.at (j := j) (by omega)
      have k0 : wr.cell? ⟨kb, off + j, none⟩ = some (.int .i64 (zs.getD j 0)) := ((bcell HS.out.2).1 _ _ hkb).trans hd0
      have hkbr : kb < wr.heap.size := by have := HS.out.2.size; omega
      have CS := HS.out.send (zs.getD j 0) (by simp; omega)
      rw [← take_next zs j (by rw [hzl.out]; omega)] at CS
      obtain ⟨x, hx⟩ : ∃ x, Hid (x = zs.getD j 0) := ⟨_, rfl⟩
      rw [← hx.out] at k0 CS
      clear hd0 HS
      go_wp2_with fail
      refine CS.mono ?_
      rintro e w2 ⟨rfl, hF2⟩
      have HF : Hid (OS w w2 l b C (zs.take (j + 1)) 0 0 false) := hF2
      clear CS k0 hF2
      go_wp2_with fail
      go_roundw
      case rel => exact ⟨j + 1, by omega, by go_num, HF⟩
      case measure => simp [intOf]; omega
    · obtain rfl : m = j := by omega
      by_cases hm : m = 16
      · have hm' : (m : Int) = 16 := by omega
        have CF := HS.out.full 5 (by rw [List.length_take, hzl.out]; omega)
        go_wp2_with fail
        refine CF.mono ?_
        rintro e wr ⟨rfl, rfl⟩
        have CW := HS.out.wait
        go_wp2_with fail
        refine CW.mono ?_
        rintro e wr ⟨rfl, rfl⟩
        have E1 : Hid (OS w wr l b C ((zs.take m).drop 0) 0 0 false) := HS
        clear CW HS
        go_wp2_with fail
        go_loopw [11] (fun q wr => ∃ j : Nat, j ≤ m ∧ q = .int .i64 j ∧ Hid (OS w wr l b C ((zs.take m).drop j) 0 0 false)) (fun q _ => m - (intOf q).toNat)
        case atStart => exact ⟨0, by omega, rfl, E1⟩
        case round =>
          obtain ⟨j, hj, rfl, HS⟩ := hrel
          clear E1
          by_cases hjm : j < m
          · have hjm' : (j : Int) < (m : Int) := by omega
            have hjn' : (j : Int) < (n : Int) := by omega
            obtain ⟨kb, off, rfl, hkb, hd0⟩ := HK.out.at (j := j) (by omega)
            have k0 : wr.cell? ⟨kb, off + j, none⟩ = some (.int .i64 (zs.getD j 0)) := ((bcell HS.out.2).1 _ _ hkb).trans hd0
            have hkbr : kb < wr.heap.size := by have := HS.out.2.size; omega
            have hdr : (zs.take m).drop j = zs.getD j 0 :: (zs.take m).drop (j + 1) := by
              have hl : j < (zs.take m).length := by rw [List.length_take, hzl.out]; omega
              rw [List.drop_eq_getElem_cons hl]
              congr 1
              have hl2 : j < zs.length := by rw [hzl.out]; omega
              simp [hl2]
            have HS2 : Hid (OS w wr l b C (zs.getD j 0 :: (zs.take m).drop (j + 1)) 0 0 false) := hdr ▸ HS
            have CT := HS2.out.take
            obtain ⟨x, hx⟩ : ∃ x, Hid (x = zs.getD j 0) := ⟨_, rfl⟩
            rw [← hx.out] at k0 CT
            have hx0 : w.cell? ⟨kb, off + j, none⟩ = some (.int .i64 x) := by rw [hx.out]; exact hd0
            clear hd0 HS HS2 hdr k0
            go_wp2_with fail
            refine CT.mono ?_
            rintro e w2 ⟨rfl, hF2⟩
            have k2 : w2.cell? ⟨kb, off + j, none⟩ = some (.int .i64 x) := ((bcell hF2.2).1 _ _ hkb).trans hx0
            have hk2 : kb < w2.heap.size := by have := hF2.2.size; omega
            have HF : Hid (OS w w2 l b C ((zs.take m).drop (j + 1)) 0 0 false) := hF2
            clear CT hF2 hx0
            go_wp2_with fail
            go_roundw
            case rel => exact ⟨j + 1, by omega, by go_num, HF⟩
            case measure => simp [intOf]; omega
          · obtain rfl : m = j := by omega
            have HS1 : Hid (OS w wr l b C [] 0 0 false) := by
              have e : (zs.take m).drop m = [] := List.drop_eq_nil_of_le (by rw [List.length_take]; omega)
              have h := HS.out
              rw [e] at h
              exact h
            clear HS
            have CE := HS1.out.empty
            go_wp2_with fail
            refine CE.mono ?_
            rintro e wr ⟨rfl, rfl⟩
            have CS := HS1.out.set t
            clear CE HS1
            go_wp2_with fail
            refine CS.mono ?_
            rintro e w3 ⟨rfl, hS3⟩
            have E3 : Hid (OS w w3 l b C [] 0 (if false then 0 else (t : Int)) (!false)) := hS3
            clear hS3 CS
            go_wp2_with fail
            go_loopw [16, 17, 18] (fun a1 a2 a3 wr => ∃ (j : Nat) (now : Int) (told : Bool), j ≤ n2 ∧ j ≤ 1000 ∧ a3 = .int .i64 j ∧ a1 = .int .u64 now ∧ a2 = .bool told ∧ 0 ≤ now ∧ now ≤ (j : Int) * 1099511627776 ∧ Hid (OS w wr l b C [] now (if told then 0 else (t : Int)) (!told))) (fun _ _ q _ => n2 - (intOf q).toNat)
            case atStart => exact ⟨0, 0, false, by omega, by omega, rfl, rfl, rfl, by omega, by omega, E3⟩
            case round =>
              obtain ⟨j, now, told, hj, hj1, rfl, rfl, rfl, hn0, hn1, HS⟩ := hrel
              clear E3
              by_cases hgo : j < n2 ∧ j < 1000
              · obtain ⟨hjn, hjk⟩ := hgo
                have hjn' : (j : Int) < (n2 : Int) := by omega
                have hjk' : (j : Int) < 1000 := by omega
                obtain ⟨kb, off, rfl, hkb, hd0⟩ := HK2.out.at (j := j) (by omega)
                have k0 : wr.cell? ⟨kb, off + j, none⟩ = some (.int .u64 (ys.getD j 0)) := ((bcell HS.out.2).1 _ _ hkb).trans hd0
                have hkbr : kb < wr.heap.size := by have := HS.out.2.size; omega
                obtain ⟨x, hx⟩ : ∃ x, Hid (x = ys.getD j 0) := ⟨_, rfl⟩
                rw [← hx.out] at k0
                obtain ⟨d, hd, hde⟩ := and_lowu x 1099511627775 1099511627775 (by decide) (by decide)
                have CT := HS.out.tick (d : Int) (by omega) hn0 (by omega)
                clear hd0 HS
                cases told
                · by_cases hdue : (t : Int) ≤ now + (d : Int)
                  · simp only [Bool.not_false, Bool.true_and, Bool.false_eq_true, if_false, decide_eq_true hdue, if_true] at CT
                    go_wp2_with fail
                    refine CT.mono ?_
                    rintro e w4 ⟨rfl, h4⟩
                    have CN := h4.now
                    have H4 : Hid (OS w w4 l b C [] (now + (d : Int)) 0 false) := h4
                    clear h4 CT k0
                    go_wp2_with fail
                    refine CN.mono ?_
                    rintro e w4 ⟨rfl, rfl⟩
                    go_wp2_with fail
                    go_roundw
                    case rel => exact ⟨j + 1, now + (d : Int), true, by omega, by omega, by go_num, by go_num, by go_num, by omega, by omega, H4⟩
                    case measure => simp [intOf]; omega
                  · simp only [Bool.not_false, Bool.true_and, Bool.false_eq_true, if_false, decide_eq_false hdue] at CT
                    go_wp2_with fail
                    refine CT.mono ?_
                    rintro e w4 ⟨rfl, h4⟩
                    have CN := h4.now
                    have H4 : Hid (OS w w4 l b C [] (now + (d : Int)) t true) := h4
                    clear h4 CT k0
                    go_wp2_with fail
                    refine CN.mono ?_
                    rintro e w4 ⟨rfl, rfl⟩
                    go_wp2_with fail
                    go_roundw
                    case rel => exact ⟨j + 1, now + (d : Int), false, by omega, by omega, by go_num, by go_num, by go_num, by omega, by omega, H4⟩
                    case measure => simp [intOf]; omega
                · simp only [Bool.not_true, Bool.false_and, Bool.false_eq_true, if_false, if_true] at CT
                  go_wp2_with fail
                  refine CT.mono ?_
                  rintro e w4 ⟨rfl, h4⟩
                  have CN := h4.now
                  have H4 : Hid (OS w w4 l b C [] (now + (d : Int)) 0 false) := h4
                  clear h4 CT k0
                  go_wp2_with fail
                  refine CN.mono ?_
                  rintro e w4 ⟨rfl, rfl⟩
                  go_wp2_with fail
                  go_roundw
                  case rel => exact ⟨j + 1, now + (d : Int), true, by omega, by omega, by go_num, by go_num, by go_num, by omega, by omega, H4⟩
                  case measure => simp [intOf]; omega
              · by_cases hjn : (j : Int) < (n2 : Int)
                · have hjk : ¬ ((j : Int) < 1000) := by omega
                  go_wp2_with fail
                  go_ret
                  exact ⟨rfl, HS.out.2⟩
                · go_wp2_with fail
                  go_ret
                  exact ⟨rfl, HS.out.2⟩
      · have hm' : ¬ ((m : Int) = 16) := by omega
        have CW := HS.out.wait
        go_wp2_with fail
        refine CW.mono ?_
        rintro e wr ⟨rfl, rfl⟩
        have E1 : Hid (OS w wr l b C ((zs.take m).drop 0) 0 0 false) := HS
        clear CW HS
        go_wp2_with fail
        go_loopw [11] (fun q wr => ∃ j : Nat, j ≤ m ∧ q = .int .i64 j ∧ Hid (OS w wr l b C ((zs.take m).drop j) 0 0 false)) (fun q _ => m - (intOf q).toNat)
        case atStart => exact ⟨0, by omega, rfl, E1⟩
        case round =>
          obtain ⟨j, hj, rfl, HS⟩ := hrel
          clear E1
          by_cases hjm : j < m
          · have hjm' : (j : Int) < (m : Int) := by omega
            have hjn' : (j : Int) < (n : Int) := by omega
            obtain ⟨kb, off, rfl, hkb, hd0⟩ := HK.out.at (j := j) (by omega)
            have k0 : wr.cell? ⟨kb, off + j, none⟩ = some (.int .i64 (zs.getD j 0)) := ((bcell HS.out.2).1 _ _ hkb).trans hd0
            have hkbr : kb < wr.heap.size := by have := HS.out.2.size; omega
            have hdr : (zs.take m).drop j = zs.getD j 0 :: (zs.take m).drop (j + 1) := by
              have hl : j < (zs.take m).length := by rw [List.length_take, hzl.out]; omega
              rw [List.drop_eq_getElem_cons hl]
              congr 1
              have hl2 : j < zs.length := by rw [hzl.out]; omega
              simp [hl2]
            have HS2 : Hid (OS w wr l b C (zs.getD j 0 :: (zs.take m).drop (j + 1)) 0 0 false) := hdr ▸ HS
            have CT := HS2.out.take
            obtain ⟨x, hx⟩ : ∃ x, Hid (x = zs.getD j 0) := ⟨_, rfl⟩
            rw [← hx.out] at k0 CT
            have hx0 : w.cell? ⟨kb, off + j, none⟩ = some (.int .i64 x) := by rw [hx.out]; exact hd0
            clear hd0 HS HS2 hdr k0
            go_wp2_with fail
            refine CT.mono ?_
            rintro e w2 ⟨rfl, hF2⟩
            have k2 : w2.cell? ⟨kb, off + j, none⟩ = some (.int .i64 x) := ((bcell hF2.2).1 _ _ hkb).trans hx0
            have hk2 : kb < w2.heap.size := by have := hF2.2.size; omega
            have HF : Hid (OS w w2 l b C ((zs.take m).drop (j + 1)) 0 0 false) := hF2
            clear CT hF2 hx0
            go_wp2_with fail
            go_roundw
            case rel => exact ⟨j + 1, by omega, by go_num, HF⟩
            case measure => simp [intOf]; omega
          · obtain rfl : m = j := by omega
            have HS1 : Hid (OS w wr l b C [] 0 0 false) := by
              have e : (zs.take m).drop m = [] := List.drop_eq_nil_of_le (by rw [List.length_take]; omega)
              have h := HS.out
              rw [e] at h
              exact h
            clear HS
            have CE := HS1.out.empty
            go_wp2_with fail
            refine CE.mono ?_
            rintro e wr ⟨rfl, rfl⟩
            have CS := HS1.out.set t
            clear CE HS1
            go_wp2_with fail
            refine CS.mono ?_
            rintro e w3 ⟨rfl, hS3⟩
            have E3 : Hid (OS w w3 l b C [] 0 (if false then 0 else (t : Int)) (!false)) := hS3
            clear hS3 CS
            go_wp2_with fail
            go_loopw [16, 17, 18] (fun a1 a2 a3 wr => ∃ (j : Nat) (now : Int) (told : Bool), j ≤ n2 ∧ j ≤ 1000 ∧ a3 = .int .i64 j ∧ a1 = .int .u64 now ∧ a2 = .bool told ∧ 0 ≤ now ∧ now ≤ (j : Int) * 1099511627776 ∧ Hid (OS w wr l b C [] now (if told then 0 else (t : Int)) (!told))) (fun _ _ q _ => n2 - (intOf q).toNat)
            case atStart => exact ⟨0, 0, false, by omega, by omega, rfl, rfl, rfl, by omega, by omega, E3⟩
            case round =>
              obtain ⟨j, now, told, hj, hj1, rfl, rfl, rfl, hn0, hn1, HS⟩ := hrel
              clear E3
              by_cases hgo : j < n2 ∧ j < 1000
              · obtain ⟨hjn, hjk⟩ := hgo
                have hjn' : (j : Int) < (n2 : Int) := by omega
                have hjk' : (j : Int) < 1000 := by omega
                obtain ⟨kb, off, rfl, hkb, hd0⟩ := HK2.out.at (j := j) (by omega)
                have k0 : wr.cell? ⟨kb, off + j, none⟩ = some (.int .u64 (ys.getD j 0)) := ((bcell HS.out.2).1 _ _ hkb).trans hd0
                have hkbr : kb < wr.heap.size := by have := HS.out.2.size; omega
                obtain ⟨x, hx⟩ : ∃ x, Hid (x = ys.getD j 0) := ⟨_, rfl⟩
                rw [← hx.out] at k0
                obtain ⟨d, hd, hde⟩ := and_lowu x 1099511627775 1099511627775 (by decide) (by decide)
                have CT := HS.out.tick (d : Int) (by omega) hn0 (by omega)
                clear hd0 HS
                cases told
                · by_cases hdue : (t : Int) ≤ now + (d : Int)
                  · simp only [Bool.not_false, Bool.true_and, Bool.false_eq_true, if_false, decide_eq_true hdue, if_true] at CT
                    go_wp2_with fail
                    refine CT.mono ?_
                    rintro e w4 ⟨rfl, h4⟩
                    have CN := h4.now
                    have H4 : Hid (OS w w4 l b C [] (now + (d : Int)) 0 false) := h4
                    clear h4 CT k0
                    go_wp2_with fail
                    refine CN.mono ?_
                    rintro e w4 ⟨rfl, rfl⟩
                    go_wp2_with fail
                    go_roundw
                    case rel => exact ⟨j + 1, now + (d : Int), true, by omega, by omega, by go_num, by go_num, by go_num, by omega, by omega, H4⟩
                    case measure => simp [intOf]; omega
                  · simp only [Bool.not_false, Bool.true_and, Bool.false_eq_true, if_false, decide_eq_false hdue] at CT
                    go_wp2_with fail
                    refine CT.mono ?_
                    rintro e w4 ⟨rfl, h4⟩
                    have CN := h4.now
                    have H4 : Hid (OS w w4 l b C [] (now + (d : Int)) t true) := h4
                    clear h4 CT k0
                    go_wp2_with fail
                    refine CN.mono ?_
                    rintro e w4 ⟨rfl, rfl⟩
                    go_wp2_with fail
                    go_roundw
                    case rel => exact ⟨j + 1, now + (d : Int), false, by omega, by omega, by go_num, by go_num, by go_num, by omega, by omega, H4⟩
                    case measure => simp [intOf]; omega
                · simp only [Bool.not_true, Bool.false_and, Bool.false_eq_true, if_false, if_true] at CT
                  go_wp2_with fail
                  refine CT.mono ?_
                  rintro e w4 ⟨rfl, h4⟩
                  have CN := h4.now
                  have H4 : Hid (OS w w4 l b C [] (now + (d : Int)) 0 false) := h4
                  clear h4 CT k0
                  go_wp2_with fail
                  refine CN.mono ?_
                  rintro e w4 ⟨rfl, rfl⟩
                  go_wp2_with fail
                  go_roundw
                  case rel => exact ⟨j + 1, now + (d : Int), true, by omega, by omega, by go_num, by go_num, by go_num, by omega, by omega, H4⟩
                  case measure => simp [intOf]; omega
              · by_cases hjn : (j : Int) < (n2 : Int)
                · have hjk : ¬ ((j : Int) < 1000) := by omega
                  go_wp2_with fail
                  go_ret
                  exact ⟨rfl, HS.out.2⟩
                · go_wp2_with fail
                  go_ret
                  exact ⟨rfl, HS.out.2⟩
end Go.Proofs.Ytdmegoglcnggoaa.linesOrder
