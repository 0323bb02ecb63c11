/-
  What of, Waiting, Join, joined, maySend do.
-/
import Derived.Test.YtnjkbpjkaignbaaBase
namespace Go.Proofs.Ytnjkbpjkaignbaa
open Go.RowKit Go.Conc
set_option linter.unusedVariables false
set_option maxRecDepth 20000

/-- the port is not to be had: of tells the error c -/
def Off (p : Value) (port c : Int) (w : World) : Prop := Calls Try.prog 24 #[p, .int .i64 port] w fun e w' => e = .returned (.tuple #[.pointer none, .int .i64 c]) ∧ w' = w
/-- it is -/
def Of (l b i : Nat) (w : World) : Prop := Calls Try.prog 24 #[.pointer (some ⟨l, 0, none⟩), .int .i64 i] w fun e w' => e = .returned (.tuple #[.pointer (some ⟨b, i * 2, none⟩), .int .i64 0]) ∧ w' = w
section
variable {B : Nat} {w w' : World} {l b n : Nat} {C : Nat → Nat} {G : Nat → Int} {Q : Nat → List Msg} {N : Nat → Prop}
theorem of_ok (h : WW B w l b n C G Q N) {i : Nat} (hi : i < n) : Of l b i w := by
  have c := h.c
  have hl := h.lt
  have h1 := h.n1
  have h8 := h.n32
  have hi' : (i : Int) < (n : Int) := by omega
  have h1' : ¬ ((n : Int) = 0) := by omega
  have h1'' : ¬ (n = 0) := by omega
  clear h
  unfold Of
  go_enter Try.func24, Try.ntmps24
  go_wp2
  go_ret2
  exact ⟨rfl, rfl⟩
theorem of_bad (h : WW B w l b n C G Q N) {port : Int} (hi : port < 0 ∨ (n : Int) ≤ port) : Off (.pointer (some ⟨l, 0, none⟩)) port 2 w := by
  have c := h.c
  have hl := h.lt
  have h1 := h.n1
  have h8 := h.n32
  have h1' : ¬ ((n : Int) = 0) := by omega
  have h1'' : ¬ (n = 0) := by omega
  clear h
  unfold Off
  rcases hi with hi | hi
  · go_enter Try.func24, Try.ntmps24
    go_wp2
    go_ret2
    exact ⟨rfl, rfl⟩
  · have hi' : ¬ port < 0 := by omega
    go_enter Try.func24, Try.ntmps24
    go_wp2
    go_ret2
    exact ⟨rfl, rfl⟩
end
/-- a wire that no call made: nil, or no ports -/
def UN (w : World) (p : Value) : Prop := p = .pointer none ∨ ∃ b, p = .pointer (some ⟨b, 0, none⟩) ∧ b < w.heap.size ∧ w.cell? ⟨b, 0, none⟩ = some (.slice none 0 0)
theorem of_un {w : World} {p : Value} (h : UN w p) (port : Int) : Off p port 1 w := by
  unfold Off
  rcases h with rfl | ⟨b, rfl, hlt, hc⟩
  all_goals
    go_enter Try.func24, Try.ntmps24
    go_wp2
    go_ret2
    exact ⟨rfl, rfl⟩
section
variable {w : World} {p : Value} {port c : Int}
theorem waiting_off (h : Off p port c w) (hc : ¬ c = 0) : Calls Try.prog 19 #[p, .int .i64 port] w fun e w' => e = .returned (.int .i64 0) ∧ w' = w := by
  have H : Hid (Off p port c w) := h
  clear h
  go_enter Try.func19, Try.ntmps19
  go_wp2_with fail
  refine Calls.mono H.out ?_
  rintro e w ⟨rfl, rfl⟩
  go_wp2_with fail
  go_ret
  exact ⟨rfl, rfl⟩
theorem join_off (h : Off p port c w) (hc : ¬ c = 0) (x : Int) : Calls Try.prog 16 #[p, .int .i64 port, .int .i64 x] w fun e w' => e = .returned (.int .i64 c) ∧ w' = w := by
  have H : Hid (Off p port c w) := h
  clear h
  go_enter Try.func16, Try.ntmps16
  go_wp2_with fail
  refine Calls.mono H.out ?_
  rintro e w ⟨rfl, rfl⟩
  go_wp2_with fail
  go_ret
  exact ⟨rfl, rfl⟩
theorem may_off (h : Off p port c w) (hc : ¬ c = 0) (to : Int) (v : Value) : Calls Try.prog 20 #[p, .int .i64 port, .int .i64 to, v] w fun e w' => e = .returned (.int .i64 c) ∧ w' = w := by
  have H : Hid (Off p port c w) := h
  clear h
  go_enter Try.func20, Try.ntmps20
  go_wp2_with fail
  refine Calls.mono H.out ?_
  rintro e w ⟨rfl, rfl⟩
  go_wp2_with fail
  go_ret
  exact ⟨rfl, rfl⟩
theorem send_off (h : Off p port c w) (hc : ¬ c = 0) (to : Int) (v : Value) : Calls Try.prog 10 #[p, .int .i64 port, .int .i64 to, v] w fun e w' => e = .returned (.tuple #[.int .i64 0, .int .i64 c]) ∧ w' = w := by
  have H := may_off h hc to v
  clear h
  go_enter Try.func10, Try.ntmps10
  go_wp2_with fail
  refine H.mono ?_
  rintro e w ⟨rfl, rfl⟩
  clear H
  go_wp2_with fail
  go_ret2
  exact ⟨rfl, rfl⟩
theorem inject_off (h : Off p port c w) (hc : ¬ c = 0) (v : Value) : Calls Try.prog 12 #[p, .int .i64 port, v] w fun e w' => e = .returned (.int .i64 c) ∧ w' = w := by
  have H : Hid (Off p port c w) := h
  clear h
  go_enter Try.func12, Try.ntmps12
  go_wp2_with fail
  refine Calls.mono H.out ?_
  rintro e w ⟨rfl, rfl⟩
  go_wp2_with fail
  go_ret
  exact ⟨rfl, rfl⟩
end
section
variable {B : Nat} {w w' : World} {l b n : Nat} {C : Nat → Nat} {G : Nat → Int} {Q : Nat → List Msg} {N : Nat → Prop}
theorem u65 : Try.prog.underlying 65 = some (.chan .both 42) := by kernel_rfl
theorem waiting_ok (h : WW B w l b n C G Q N) {i : Nat} (hi : i < n) : Calls Try.prog 19 #[.pointer (some ⟨l, 0, none⟩), .int .i64 i] w fun e w' => e = .returned (.int .i64 (Q i).length) ∧ w' = w := by
  have H : Hid (Of l b i w) := of_ok h hi
  obtain ⟨c0, c1⟩ := h.r hi
  have hb := h.blt
  obtain ⟨s, r, hc⟩ := h.ch i hi
  have hlen := fun ty => run_len_chan (P := Try.prog) 65 ty u65 hc
  rw [ev_size] at hlen
  clear h
  go_enter Try.func19, Try.ntmps19
  go_wp2_with fail
  refine Calls.mono H.out ?_
  rintro e w ⟨rfl, rfl⟩
  go_wp2_with fail
  go_ret
  exact ⟨rfl, rfl⟩
theorem join_ok (h : WW B w l b n C G Q N) {i : Nat} (hi : i < n) (x : Int) : Calls Try.prog 16 #[.pointer (some ⟨l, 0, none⟩), .int .i64 i, .int .i64 x] w fun e w' => e = .returned (.int .i64 0) ∧ WW B w' l b n C (upd G i x) Q N ∧ Trn (WS b n C) w w' := by
  have H : Hid (Of l b i w) := of_ok h hi
  obtain ⟨c0, c1⟩ := h.r hi
  have hb := h.blt
  have hf := h.f (i * 2)
  have HF : Hid (WW B (w.setCell ⟨b, i * 2, none⟩ (.int .i64 x)) l b n C (upd G i x) Q N ∧ Trn (WS b n C) w (w.setCell ⟨b, i * 2, none⟩ (.int .i64 x))) := h.setg hi x
  clear h
  go_enter Try.func16, Try.ntmps16
  go_wp2_with fail
  refine Calls.mono H.out ?_
  rintro e w ⟨rfl, rfl⟩
  go_wp2_with fail
  go_ret
  exact ⟨rfl, HF.out⟩
theorem joined_ok (h : WW B w l b n C G Q N) {i j : Nat} (hi : i < n) (hj : j < n) : Calls Try.prog 25 #[.pointer (some ⟨l, 0, none⟩), .int .i64 i, .int .i64 j] w fun e w' => e = .returned (.bool (decide (i ≠ j ∧ G i = G j))) ∧ ∃ k, w' = w.drewN k := by
  obtain ⟨c0, c1⟩ := h.r hi
  obtain ⟨d0, d1⟩ := h.r hj
  have c := h.c
  have hb := h.blt
  have hl := h.lt
  have hi' : (i : Int) < (n : Int) := by omega
  have hj' : (j : Int) < (n : Int) := by omega
  clear h
  by_cases hij : i = j
  · have e : decide (i ≠ j ∧ G i = G j) = false := by simp [hij]
    rw [e]
    have hne : ((i : Int) != (j : Int)) = false := by simp [hij]
    have hne' : ((i : Int) = (j : Int)) := by omega
    go_enter Try.func25, Try.ntmps25
    go_wp2_with fail
    go_quiet (fail)
    go_wp2_with fail
    go_ret
    exact ⟨rfl, _, rfl⟩
  · have e : decide (i ≠ j ∧ G i = G j) = decide (G i = G j) := by simp [hij]
    rw [e]
    have hne : ((i : Int) != (j : Int)) = true := by simp; omega
    have hne' : ¬ ((i : Int) = (j : Int)) := by omega
    go_enter Try.func25, Try.ntmps25
    go_wp2_with fail
    go_quiet (fail)
    go_wp2_with fail
    go_ret
    exact ⟨by first | rfl | exact ret_bool (by rfl), _, rfl⟩
end
end Go.Proofs.Ytnjkbpjkaignbaa
