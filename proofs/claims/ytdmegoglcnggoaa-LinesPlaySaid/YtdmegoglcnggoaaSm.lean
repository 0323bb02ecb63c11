/-
  What of, Waiting, Now, Armed, Set do.
-/
import Derived.Test.YtdmegoglcnggoaaBase
namespace Go.Proofs.Ytdmegoglcnggoaa
open Go.RowKit Go.Conc
set_option linter.unusedVariables false
set_option maxRecDepth 20000

/-- the core's line is not to be had: of tells the error c -/
def Off (p : Value) (core c : Int) (w : World) : Prop := Calls Try.prog 23 #[p, .int .i64 core] w fun e w' => e = .returned (.tuple #[.pointer none, .int .i64 c]) ∧ w' = w
/-- it is -/
def Of (l b i : Nat) (w : World) : Prop := Calls Try.prog 23 #[.pointer (some ⟨l, 0, none⟩), .int .i64 i] w fun e w' => e = .returned (.tuple #[.pointer (some ⟨b, i * 4, none⟩), .int .i64 0]) ∧ w' = w
section
variable {B : Nat} {w w' : World} {l b n : Nat} {C : Nat → Nat} {S : Nat → Ln}
theorem of_ok (h : LW B w l b n C S) {i : Nat} (hi : i < n) : Of l b i w := by
  have c := h.c
  have hl := h.lt
  have h1 := h.n1
  have h8 := h.n8
  have hi' : (i : Int) < (n : Int) := by omega
  have h1' : ¬ ((n : Int) = 0) := by omega
  have h1'' : ¬ (n = 0) := by omega
  clear h
  unfold Of
  go_enter Try.func23, Try.ntmps23
  go_wp2
  go_ret2
  exact ⟨rfl, rfl⟩
theorem of_bad (h : LW B w l b n C S) {core : Int} (hi : core < 0 ∨ (n : Int) ≤ core) : Off (.pointer (some ⟨l, 0, none⟩)) core 2 w := by
  have c := h.c
  have hl := h.lt
  have h1 := h.n1
  have h8 := h.n8
  have h1' : ¬ ((n : Int) = 0) := by omega
  have h1'' : ¬ (n = 0) := by omega
  clear h
  unfold Off
  rcases hi with hi | hi
  · go_enter Try.func23, Try.ntmps23
    go_wp2
    go_ret2
    exact ⟨rfl, rfl⟩
  · have hi' : ¬ core < 0 := by omega
    go_enter Try.func23, Try.ntmps23
    go_wp2
    go_ret2
    exact ⟨rfl, rfl⟩
end
/-- lines that no call made: nil, or no cores -/
def UN (w : World) (p : Value) : Prop := p = .pointer none ∨ ∃ b, p = .pointer (some ⟨b, 0, none⟩) ∧ b < w.heap.size ∧ w.cell? ⟨b, 0, none⟩ = some (.slice none 0 0)
theorem of_un {w : World} {p : Value} (h : UN w p) (core : Int) : Off p core 1 w := by
  unfold Off
  rcases h with rfl | ⟨b, rfl, hlt, hc⟩
  all_goals
    go_enter Try.func23, Try.ntmps23
    go_wp2
    go_ret2
    exact ⟨rfl, rfl⟩
section
variable {w : World} {p : Value} {core c : Int}
theorem waiting_off (h : Off p core c w) (hc : ¬ c = 0) : Calls Try.prog 21 #[p, .int .i64 core] w fun e w' => e = .returned (.int .i64 0) ∧ w' = w := by
  have H : Hid (Off p core c w) := h
  clear h
  go_enter Try.func21, Try.ntmps21
  go_wp2_with fail
  refine Calls.mono H.out ?_
  rintro e w ⟨rfl, rfl⟩
  go_wp2_with fail
  go_ret
  exact ⟨rfl, rfl⟩
theorem now_off (h : Off p core c w) (hc : ¬ c = 0) : Calls Try.prog 22 #[p, .int .i64 core] w fun e w' => e = .returned (.int .u64 0) ∧ w' = w := by
  have H : Hid (Off p core c w) := h
  clear h
  go_enter Try.func22, Try.ntmps22
  go_wp2_with fail
  refine Calls.mono H.out ?_
  rintro e w ⟨rfl, rfl⟩
  go_wp2_with fail
  go_ret
  exact ⟨rfl, rfl⟩
theorem armed_off (h : Off p core c w) (hc : ¬ c = 0) : Calls Try.prog 19 #[p, .int .i64 core] w fun e w' => e = .returned (.tuple #[.int .u64 0, .bool false]) ∧ w' = w := by
  have H : Hid (Off p core c w) := h
  clear h
  go_enter Try.func19, Try.ntmps19
  go_wp2_with fail
  refine Calls.mono H.out ?_
  rintro e w ⟨rfl, rfl⟩
  go_wp2_with fail
  go_ret2
  exact ⟨rfl, rfl⟩
theorem set_off (h : Off p core c w) (hc : ¬ c = 0) (x : Int) : Calls Try.prog 15 #[p, .int .i64 core, .int .u64 x] w fun e w' => e = .returned (.int .i64 c) ∧ w' = w := by
  have H : Hid (Off p core c w) := h
  clear h
  go_enter Try.func15, Try.ntmps15
  go_wp2_with fail
  refine Calls.mono H.out ?_
  rintro e w ⟨rfl, rfl⟩
  go_wp2_with fail
  go_ret
  exact ⟨rfl, rfl⟩
theorem tick_off (h : Off p core c w) (hc : ¬ c = 0) (x : Int) : Calls Try.prog 17 #[p, .int .i64 core, .int .u64 x] w fun e w' => e = .returned (.tuple #[.bool false, .int .i64 c]) ∧ w' = w := by
  have H : Hid (Off p core c w) := h
  clear h
  go_enter Try.func17, Try.ntmps17
  go_wp2_with fail
  refine Calls.mono H.out ?_
  rintro e w ⟨rfl, rfl⟩
  go_wp2_with fail
  go_ret2
  exact ⟨rfl, rfl⟩
end
section
variable {B : Nat} {w w' : World} {l b n : Nat} {C : Nat → Nat} {S : Nat → Ln}
theorem now_ok (h : LW B w l b n C S) {i : Nat} (hi : i < n) : Calls Try.prog 22 #[.pointer (some ⟨l, 0, none⟩), .int .i64 i] w fun e w' => e = .returned (.int .u64 (S i).ck) ∧ w' = w := by
  have H : Hid (Of l b i w) := of_ok h hi
  obtain ⟨c0, c1, c2, c3⟩ := h.r hi
  have hb := h.blt
  clear h
  go_enter Try.func22, Try.ntmps22
  go_wp2_with fail
  refine Calls.mono H.out ?_
  rintro e w ⟨rfl, rfl⟩
  go_wp2_with fail
  go_ret
  exact ⟨rfl, rfl⟩
theorem armed_ok (h : LW B w l b n C S) {i : Nat} (hi : i < n) : Calls Try.prog 19 #[.pointer (some ⟨l, 0, none⟩), .int .i64 i] w fun e w' => e = .returned (.tuple #[.int .u64 (S i).tm, .bool (S i).on]) ∧ ∃ k, w' = w.drewN k := by
  have H : Hid (Of l b i w) := of_ok h hi
  obtain ⟨c0, c1, c2, c3⟩ := h.r hi
  have hb := h.blt
  clear h
  go_enter Try.func19, Try.ntmps19
  go_wp2_with fail
  refine Calls.mono H.out ?_
  rintro e w ⟨rfl, rfl⟩
  go_wp2_with fail
  go_quiet (fail)
  go_wp2_with fail
  go_ret2
  exact ⟨rfl, _, rfl⟩
theorem u65 : Try.prog.underlying 65 = some (.chan .both 3) := by kernel_rfl
theorem waiting_ok (h : LW B w l b n C S) {i : Nat} (hi : i < n) : Calls Try.prog 21 #[.pointer (some ⟨l, 0, none⟩), .int .i64 i] w fun e w' => e = .returned (.int .i64 (S i).q.length) ∧ w' = w := by
  have H : Hid (Of l b i w) := of_ok h hi
  obtain ⟨c0, c1, c2, c3⟩ := h.r hi
  have hb := h.blt
  obtain ⟨s, r, hc⟩ := h.ch i hi
  have hlen := fun ty => run_len_chan (P := Try.prog) 65 ty u65 hc
  rw [ev_size] at hlen
  clear h
  go_enter Try.func21, Try.ntmps21
  go_wp2_with fail
  refine Calls.mono H.out ?_
  rintro e w ⟨rfl, rfl⟩
  go_wp2_with fail
  go_ret
  exact ⟨rfl, rfl⟩
theorem set_ok (h : LW B w l b n C S) {i : Nat} (hi : i < n) (x : Int) : Calls Try.prog 15 #[.pointer (some ⟨l, 0, none⟩), .int .i64 i, .int .u64 x] w fun e w' => e = .returned (.int .i64 0) ∧ LW B w' l b n C (upd S i ⟨(S i).q, (S i).ck, x, true⟩) ∧ Trn (LS b n C) w w' := by
  have H : Hid (Of l b i w) := of_ok h hi
  obtain ⟨c0, c1, c2, c3⟩ := h.r hi
  have hb := h.blt
  have hf2 := h.f (i * 4 + 2)
  have hf3 := h.f (i * 4 + 3)
  have h1 := h.setc hi (j := 2) (by omega) (by omega) (.int .u64 x) ⟨(S i).q, (S i).ck, x, (S i).on⟩ (h.rg i hi) rfl rfl rfl rfl
  have h2 := h1.1.setc hi (j := 3) (by omega) (by omega) (.bool true) ⟨(S i).q, (S i).ck, x, true⟩ (h.rg i hi) (by rw [upd_self]) (by rw [upd_self]; rfl) (by rw [upd_self]; rfl) rfl
  rw [upd_upd] at h2
  have HF : Hid (LW B ((w.setCell ⟨b, i * 4 + 2, none⟩ (.int .u64 x)).setCell ⟨b, i * 4 + 3, none⟩ (.bool true)) l b n C (upd S i ⟨(S i).q, (S i).ck, x, true⟩) ∧ Trn (LS b n C) w ((w.setCell ⟨b, i * 4 + 2, none⟩ (.int .u64 x)).setCell ⟨b, i * 4 + 3, none⟩ (.bool true))) := ⟨h2.1, h1.2.trans h2.2⟩
  clear h h1 h2
  go_enter Try.func15, Try.ntmps15
  go_wp2_with fail
  refine Calls.mono H.out ?_
  rintro e w ⟨rfl, rfl⟩
  go_wp2_with fail
  go_ret
  exact ⟨rfl, HF.out⟩
end
end Go.Proofs.Ytdmegoglcnggoaa
