/-
  The document's console: a block of five cells, two of them strings; what Input, Take, Write do.
-/
import Derived.Test.YtbncgmjjkoedhaaStr
import Derived.Test.YtbncgmjjkoedhaaIn
namespace Go.Proofs.Ytbncgmjjkoedhaa
open Go.RowKit
set_option linter.unusedVariables false
set_option maxRecDepth 20000
/-- the document's console of block b -/
structure RC (w : World) (b : Nat) (W O : List Int) (m d r : Int) : Prop where
  ob : w.heap[b]? = some (.cells #[.string (strOfNums W), .string (strOfNums O), .int .i64 m, .int .i64 d, .int .i64 r] 27 (0, 0))
  lw : W.length ≤ 4096
  lo : O.length ≤ 1048576
section
variable {w w' : World} {b : Nat} {W O : List Int} {m d r : Int}
theorem RC.lt (h : RC w b W O m d r) : b < w.heap.size := lt_of_heap h.ob
theorem RC.cells (h : RC w b W O m d r) : w.cell? ⟨b, 0, none⟩ = some (.string (strOfNums W)) ∧ w.cell? ⟨b, 1, none⟩ = some (.string (strOfNums O)) ∧ w.cell? ⟨b, 2, none⟩ = some (.int .i64 m) ∧ w.cell? ⟨b, 3, none⟩ = some (.int .i64 d) ∧ w.cell? ⟨b, 4, none⟩ = some (.int .i64 r) := by
  simp [cell_at h.ob]
theorem RC.fz (h : RC w b W O m d r) (o : Nat) : w.frozen? ⟨b, o, none⟩ = false := by simp [World.frozen?, h.ob]
theorem RC.keep (h : RC w b W O m d r) (hk : w'.heap[b]? = w.heap[b]?) : RC w' b W O m d r := ⟨hk.trans h.ob, h.lw, h.lo⟩
theorem frozen_set {w : World} {b : Nat} {cs : Array Value} {t : TypeId} (h : w.heap[b]? = some (.cells cs t (0, 0))) (o : Nat) : w.frozen? ⟨b, o, none⟩ = false := by simp [World.frozen?, h]
set_option maxHeartbeats 1600000 in
theorem rinput_rc (h : RC w b W O m d r) {a : Option Addr} {len cap : Nat} {zs : List Int} (hs : SL w a len zs) (hlc : len ≤ cap) (hlen : len ≤ 140737488351232) :
    Calls Try.prog 9 #[.pointer (some ⟨b, 0, none⟩), .slice a len cap] w fun e w' => e = .returned (.int .i64 (tkn (4096 - W.length) len)) ∧ RC w' b (W ++ zs.take (tkn (4096 - W.length) len)) O (wrap64 (m + tkn (4096 - W.length) len)) (wrap64 (wrap64 (d + len) - tkn (4096 - W.length) len)) r ∧ Trn (fun k => k = b) w w' := by
  obtain ⟨c0, c1, c2, c3, c4⟩ := h.cells
  have hlt := h.lt
  have hlw := h.lw
  have f0 := h.fz 0
  obtain ⟨T, hT⟩ : ∃ T, tkn (4096 - W.length) len = T := ⟨_, rfl⟩
  rw [hT]
  have hT1 : T ≤ len := by rw [← hT]; exact Nat.min_le_left _ _
  have hT2 : T ≤ 4096 - W.length := by rw [← hT]; exact Nat.min_le_right _ _
  have hT3 : (T = len ∧ len ≤ 4096 - W.length) ∨ (T = 4096 - W.length ∧ 4096 - W.length < len) := by rw [← hT]; unfold tkn; omega
  have hTc : T ≤ cap := by omega
  have sl : SL w.drew a T (zs.take T) := SL.first (h := hs) hT1
  have cv := conv_sl cap sl
  have hl : (zs.take T).length = T := by have := hs.1; simp; omega
  have cat : strOfNums W ++ strOfNums (zs.take T) = strOfNums (W ++ zs.take T) := str_append _ _
  have hs1 : (strOfNums W).size = W.length := strOfNums_size W
  have hs2 : (strOfNums (zs.take T)).size = T := by rw [strOfNums_size, hl]
  have k1 := heap_setCell h.ob 0 (.string (strOfNums (W ++ zs.take T)))
  have k2 := heap_setCell k1 2 (.int .i64 (wrap64 (m + T)))
  have k3 := heap_setCell k2 3 (.int .i64 (wrap64 (wrap64 (d + len) - T)))
  have t1 := trn_setCell (fun k => k = b) h.ob rfl 0 (.string (strOfNums (W ++ zs.take T)))
  have t2 := trn_setCell (fun k => k = b) k1 rfl 2 (.int .i64 (wrap64 (m + T)))
  have t3 := trn_setCell (fun k => k = b) k2 rfl 3 (.int .i64 (wrap64 (wrap64 (d + len) - T)))
  have tt := (t1.trans t2).trans t3
  have HF : Hid (RC (((w.setCell ⟨b, 0, none⟩ (.string (strOfNums (W ++ zs.take T)))).setCell ⟨b, 2, none⟩ (.int .i64 (wrap64 (m + T)))).setCell ⟨b, 3, none⟩ (.int .i64 (wrap64 (wrap64 (d + len) - T)))).drew b (W ++ zs.take T) O (wrap64 (m + T)) (wrap64 (wrap64 (d + len) - T)) r ∧
      Trn (fun k => k = b) w (((w.setCell ⟨b, 0, none⟩ (.string (strOfNums (W ++ zs.take T)))).setCell ⟨b, 2, none⟩ (.int .i64 (wrap64 (m + T)))).setCell ⟨b, 3, none⟩ (.int .i64 (wrap64 (wrap64 (d + len) - T)))).drew) :=
    ⟨⟨k3, by have := h.lw; simp; omega, h.lo⟩, tt.drew⟩
  have f2 := h.fz 2
  have f3 := h.fz 3
  clear k1 k2 k3 t1 t2 t3 tt h hs sl hl hT
  generalize strOfNums (W ++ zs.take T) = S1 at *
  generalize strOfNums (zs.take T) = SX at *
  generalize strOfNums W = SW at *
  rcases hT3 with ⟨rfl, hT3⟩ | ⟨hT4, hT3⟩
  · by_cases h7 : (T : Int) < 4096 - (W.length : Int)
    case' neg =>
      have h8 : (4096 - (W.length : Int)) = (T : Int) := by omega
      clear h7
    all_goals
      go_enter Try.func9, Try.ntmps9
      go_wp2_with fail
      go_region
      all_goals
        go_wp2_with fail
        go_ret
        exact ⟨rfl, HF.out⟩
  · have h6 : (4096 - (W.length : Int)) < (len : Int) := by omega
    have h7 : (4096 - (W.length : Int)) = (T : Int) := by omega
    clear hT4
    go_enter Try.func9, Try.ntmps9
    go_wp2_with fail
    go_region
    all_goals
      go_wp2_with fail
      go_ret
      exact ⟨rfl, HF.out⟩
set_option maxHeartbeats 1600000 in
theorem rwrite_rc (h : RC w b W O m d r) {a : Option Addr} {len cap : Nat} {zs : List Int} (hs : SL w a len zs) (hlc : len ≤ cap) (hlen : len ≤ 140737488351232) :
    Calls Try.prog 13 #[.pointer (some ⟨b, 0, none⟩), .slice a len cap] w fun e w' => e = .returned (.int .i64 (tkn (1048576 - O.length) len)) ∧ RC w' b W (O ++ zs.take (tkn (1048576 - O.length) len)) m d r ∧ Trn (fun k => k = b) w w' := by
  obtain ⟨c0, c1, c2, c3, c4⟩ := h.cells
  have hlt := h.lt
  have hlo := h.lo
  have f1 := h.fz 1
  obtain ⟨T, hT⟩ : ∃ T, tkn (1048576 - O.length) len = T := ⟨_, rfl⟩
  rw [hT]
  have hT1 : T ≤ len := by rw [← hT]; exact Nat.min_le_left _ _
  have hT2 : T ≤ 1048576 - O.length := by rw [← hT]; exact Nat.min_le_right _ _
  have hT3 : (T = len ∧ len ≤ 1048576 - O.length) ∨ (T = 1048576 - O.length ∧ 1048576 - O.length < len) := by rw [← hT]; unfold tkn; omega
  have hTc : T ≤ cap := by omega
  have sl : SL w.drew a T (zs.take T) := SL.first (h := hs) hT1
  have cv := conv_sl cap sl
  have hl : (zs.take T).length = T := by have := hs.1; simp; omega
  have cat : strOfNums O ++ strOfNums (zs.take T) = strOfNums (O ++ zs.take T) := str_append _ _
  have hs1 : (strOfNums O).size = O.length := strOfNums_size O
  have hs2 : (strOfNums (zs.take T)).size = T := by rw [strOfNums_size, hl]
  have k1 := heap_setCell h.ob 1 (.string (strOfNums (O ++ zs.take T)))
  have t1 := trn_setCell (fun k => k = b) h.ob rfl 1 (.string (strOfNums (O ++ zs.take T)))
  have HF : Hid (RC (w.setCell ⟨b, 1, none⟩ (.string (strOfNums (O ++ zs.take T)))).drew b W (O ++ zs.take T) m d r ∧
      Trn (fun k => k = b) w (w.setCell ⟨b, 1, none⟩ (.string (strOfNums (O ++ zs.take T)))).drew) :=
    ⟨⟨k1, h.lw, by have := h.lo; simp; omega⟩, t1.drew⟩
  clear k1 t1 h hs sl hl hT
  generalize strOfNums (O ++ zs.take T) = S1 at *
  generalize strOfNums (zs.take T) = SX at *
  generalize strOfNums O = SW at *
  rcases hT3 with ⟨rfl, hT3⟩ | ⟨hT4, hT3⟩
  · by_cases h7 : (T : Int) < 1048576 - (O.length : Int)
    case' neg =>
      have h8 : (1048576 - (O.length : Int)) = (T : Int) := by omega
      clear h7
    all_goals
      go_enter Try.func13, Try.ntmps13
      go_wp2_with fail
      go_region
      all_goals
        go_wp2_with fail
        go_ret
        exact ⟨rfl, HF.out⟩
  · have h6 : (1048576 - (O.length : Int)) < (len : Int) := by omega
    have h7 : (1048576 - (O.length : Int)) = (T : Int) := by omega
    clear hT4
    go_enter Try.func13, Try.ntmps13
    go_wp2_with fail
    go_region
    all_goals
      go_wp2_with fail
      go_ret
      exact ⟨rfl, HF.out⟩
set_option maxHeartbeats 1600000 in
theorem rtake_rc (h : RC w b W O m d r) (n : Int) (hr : wrap64 r = r) (hn : n < 9223372036854775808) :
    Calls Try.prog 11 #[.pointer (some ⟨b, 0, none⟩), .int .i64 n] w fun e w' => e = .returned (.string (strOfNums (W.take (min n.toNat W.length)))) ∧ RC w' b (W.drop (min n.toNat W.length)) O m d (wrap64 (r + (min n.toNat W.length : Nat))) ∧ Trn (fun k => k = b) w w' := by
  obtain ⟨c0, c1, c2, c3, c4⟩ := h.cells
  have hlt := h.lt
  have hlw := h.lw
  have f0 := h.fz 0
  have f4 := h.fz 4
  obtain ⟨k, hk⟩ : ∃ k, min n.toNat W.length = k := ⟨_, rfl⟩
  rw [hk]
  by_cases h1 : n < 1
  · obtain rfl : k = 0 := by omega
    have e0 : wrap64 (r + ((0 : Nat) : Int)) = r := by simpa using hr
    rw [e0, List.take_zero, List.drop_zero]
    have HF : Hid (RC w b W O m d r) := h
    have e1 : strOfNums [] = ByteArray.empty := rfl
    rw [e1]
    clear h e0 e1
    go_enter Try.func11, Try.ntmps11
    go_wp2_with fail
    go_ret
    exact ⟨rfl, HF.out, .refl _ _⟩
  · have hkW : k ≤ W.length := by omega
    have ex1 := str_take W k
    have ex2 := str_drop W k
    have hs1 : (strOfNums W).size = W.length := strOfNums_size W
    have k1 := heap_setCell h.ob 0 (.string (strOfNums (W.drop k)))
    have k2 := heap_setCell k1 4 (.int .i64 (wrap64 (r + k)))
    have t1 := trn_setCell (fun k => k = b) h.ob rfl 0 (.string (strOfNums (W.drop k)))
    have t2 := trn_setCell (fun k => k = b) k1 rfl 4 (.int .i64 (wrap64 (r + k)))
    have HF : Hid (RC ((w.setCell ⟨b, 0, none⟩ (.string (strOfNums (W.drop k)))).setCell ⟨b, 4, none⟩ (.int .i64 (wrap64 (r + k)))) b (W.drop k) O m d (wrap64 (r + k)) ∧
      Trn (fun k => k = b) w ((w.setCell ⟨b, 0, none⟩ (.string (strOfNums (W.drop k)))).setCell ⟨b, 4, none⟩ (.int .i64 (wrap64 (r + k))))) :=
      ⟨⟨k2, by have := h.lw; simp; omega, h.lo⟩, t1.trans t2⟩
    clear k1 k2 t1 t2 h hr
    generalize strOfNums (W.drop k) = S2 at *
    generalize strOfNums (W.take k) = S1 at *
    generalize strOfNums W = SW at *
    rcases (by omega : (n ≤ W.length ∧ n.toNat = k) ∨ ((W.length : Int) < n ∧ W.length = k)) with ⟨h6, h7⟩ | ⟨h6, h7⟩
    · have h8 : (k : Int) = n := by omega
      rw [h8] at HF ⊢
      clear hk h8
      go_enter Try.func11, Try.ntmps11
      go_wp2_with fail
      go_ret
      exact ⟨rfl, HF.out⟩
    · clear hk
      have h8 : (k : Int) < n := by omega
      rw [h7] at ex2 hs1
      obtain rfl : S2 = ByteArray.empty := by rw [← ex2]; simp
      clear h6 h7 hkW ex2
      go_enter Try.func11, Try.ntmps11
      go_wp2_with fail
      go_ret
      exact ⟨rfl, HF.out⟩
end
end Go.Proofs.Ytbncgmjjkoedhaa
