/-
  The program's calls: Begin, Halt, Go.
-/
import Derived.Test.YtgiafngiledmbaaCl
namespace Go.Proofs.Ytgiafngiledmbaa
open Go.RowKit Go.Maps
set_option linter.unusedVariables false
set_option maxRecDepth 100000
/-- what Begin tells, and leaves -/
def nw (k c : Int) : Tm := ⟨k, cap c, false, 0, false, 0⟩
def beE (L : List Tm) (k : Int) : Int := if (fnd L k).isSome then 13 else if 64 ≤ L.length then 18 else 0
def beL (L : List Tm) (k c : Int) : List Tm := if beE L k = 0 then ins (nw k c) L else L
def haE (L : List Tm) (k : Int) : Int := match fnd L k with
  | none => 14
  | some x => if x.halted then 21 else 0
def haL (L : List Tm) (k c : Int) : List Tm := if haE L k = 0 then mod L k (haF c) else L
def goE (L : List Tm) (k : Int) : Int := match fnd L k with
  | none => 14
  | some x => if x.halted then 0 else 21
def goL (L : List Tm) (k c : Int) : List Tm := if goE L k = 0 then mod L k (goF c) else L
theorem MapIs.len {w : World} {m N : Nat} {M : Int → Option Value} {t e : TypeId} (h : MapIs w m N M) (hu : Try.prog.underlying t = some (.map 3 e)) (ty : TypeId) : (Builtin.len_ #[t] ty #[.map (some m)]).run Try.prog w = .ok (.int .i64 N) w := by
  obtain ⟨D, ho, hs, _⟩ := h
  rw [ho.len hu ty, hs]
section
variable {w : World} {t ms mt : Nat} {L : List Tm} {k c : Int}
theorem begin_vx (h : VX w t ms mt L) (hk : KW k) (hc : 0 ≤ c) : Calls Try.prog 14 #[.pointer (some ⟨t, 0, none⟩), .int .i64 k, .int .u64 c] w fun e w' => e = .returned (.int .i64 (beE L k)) ∧ VX w' t ms mt (beL L k c) ∧ Trn (Sm ms mt) w w' := by
  have C := of_vx h k hk
  cases hx : fnd L k with
  | some x =>
    have e3 : beE L k = 13 := by unfold beE; rw [hx]; rfl
    have e4 : beL L k c = L := by unfold beL; rw [e3]; rfl
    rw [e3, e4]
    have ho := h.ok.ok x (fnd_mem hx).1
    have e1 : ofV L k = sp (if x.halted then 0 else x.base) x.halted (if x.halted then x.still else 0) := by unfold ofV SM; rw [hx]; rfl
    have e2 : ofE L k = 0 := by unfold ofE; rw [hx]; rfl
    rw [e1, e2] at C
    generalize (if x.halted = true then 0 else x.base) = b at *
    generalize (if x.halted = true then x.still else 0) = s at *
    generalize x.halted = hh at *
    clear e1 e2
    unfold sp at *
    go_enter Try.func14, Try.ntmps14
    go_wp2_with fail
    refine C.mono ?_
    rintro e w1 ⟨rfl, hb⟩
    have HB : Hid (Below w.heap.size w (w1.alloc (.cells #[.int .u64 b, .bool hh, .int .u64 s] 57))) := hb.alloc hb.size _
    have HW : Hid (VX (w1.alloc (.cells #[.int .u64 b, .bool hh, .int .u64 s] 57)) t ms mt L) := h.below HB.out
    have c0 := HW.out.c0
    have c1 := HW.out.c1
    have hl := HW.out.lt
    clear C hb
    have HF : Hid (VX (w1.alloc (.cells #[.int .u64 b, .bool hh, .int .u64 s] 57)) t ms mt L ∧ Trn (Sm ms mt) w (w1.alloc (.cells #[.int .u64 b, .bool hh, .int .u64 s] 57))) := ⟨HW.out, Trn.of_below HB.out⟩
    clear HW HB h
    go_wp2_with fail
    go_ret
    exact ⟨rfl, HF.out⟩
  | none =>
    have e1 : ofV L k = .agg #[.int .u64 0, .bool false, .int .u64 0] := by unfold ofV SM; rw [hx]; rfl
    have e2 : ofE L k = 14 := by unfold ofE; rw [hx]; rfl
    rw [e1, e2] at C
    have hl64 := h.ok.len
    clear e1 e2
    by_cases hq : L.length = 64
    · have e3 : beE L k = 18 := by unfold beE; rw [hx, if_neg (by decide), if_pos (by omega)]
      have e4 : beL L k c = L := by unfold beL; rw [e3]; rfl
      rw [e3, e4]
      clear e3 e4
      go_enter Try.func14, Try.ntmps14
      go_wp2_with fail
      refine C.mono ?_
      rintro e w1 ⟨rfl, hb⟩
      have HB : Hid (Below w.heap.size w (w1.alloc (.cells #[.int .u64 0, .bool false, .int .u64 0] 57))) := hb.alloc hb.size _
      have HW : Hid (VX (w1.alloc (.cells #[.int .u64 0, .bool false, .int .u64 0] 57)) t ms mt L) := h.below HB.out
      have c0 := HW.out.c0
      have hl := HW.out.lt
      have hlen := fun ty => HW.out.sm.len Try.underlying38 ty
      have hlen3 := hlen 3
      clear C hb hlen
      rw [hq] at hlen3
      have HF : Hid (VX (w1.alloc (.cells #[.int .u64 0, .bool false, .int .u64 0] 57)) t ms mt L ∧ Trn (Sm ms mt) w (w1.alloc (.cells #[.int .u64 0, .bool false, .int .u64 0] 57))) := ⟨HW.out, Trn.of_below HB.out⟩
      clear HW HB h hl64 hq
      go_wp2_with fail
      go_ret
      exact ⟨rfl, HF.out⟩
    · have e3 : beE L k = 0 := by unfold beE; rw [hx, if_neg (by decide), if_neg (by omega)]
      have e4 : beL L k c = ins (nw k c) L := by unfold beL; rw [if_pos e3]
      rw [e3, e4]
      clear e3 e4
      go_enter Try.func14, Try.ntmps14
      go_wp2_with fail
      refine C.mono ?_
      rintro e w1 ⟨rfl, hb⟩
      have HB : Hid (Below w.heap.size w (w1.alloc (.cells #[.int .u64 0, .bool false, .int .u64 0] 57))) := hb.alloc hb.size _
      have HW : Hid (VX (w1.alloc (.cells #[.int .u64 0, .bool false, .int .u64 0] 57)) t ms mt L) := h.below HB.out
      have c0 := HW.out.c0
      have hl := HW.out.lt
      have hlen := fun ty => HW.out.sm.len Try.underlying38 ty
      have hlen3 := hlen 3
      clear C hb hlen
      have hk64 : ¬ ((L.length : Int) = 64) := by omega
      obtain ⟨w2, hrun, hV, hT⟩ := HW.out.newS (x := nw k c) ⟨hk, cap_0 hc, cap_le c, by simp [nw], by simp [nw], by simp [nw], by simp [nw]⟩ hx (by omega) rfl
      have HF : Hid (VX w2 t ms mt (ins (nw k c) L) ∧ Trn (Sm ms mt) w w2) := ⟨hV, (Trn.of_below HB.out).trans hT⟩
      have hrun' : (Instr.mapUpdate 38 (.map (some ms)) (.int .i64 k) (.agg #[.int .u64 (min c 4611686018427387904), .bool false, .int .u64 0])).run Try.prog (w1.alloc (.cells #[.int .u64 0, .bool false, .int .u64 0] 57)) = .ok () w2 := hrun
      clear hV hT HW HB h hl64 hq hrun
      go_wp2_with fail
      go_ret
      exact ⟨rfl, HF.out⟩
theorem go_vx (h : VX w t ms mt L) (hk : KW k) (hc : 0 ≤ c) : Calls Try.prog 18 #[.pointer (some ⟨t, 0, none⟩), .int .i64 k, .int .u64 c] w fun e w' => e = .returned (.int .i64 (goE L k)) ∧ VX w' t ms mt (goL L k c) ∧ Trn (Sm ms mt) w w' := by
  have C := of_vx h k hk
  cases hx : fnd L k with
  | none =>
    have e3 : goE L k = 14 := by unfold goE; rw [hx]
    have e4 : goL L k c = L := by unfold goL; rw [e3]; rfl
    rw [e3, e4]
    have e1 : ofV L k = .agg #[.int .u64 0, .bool false, .int .u64 0] := by unfold ofV SM; rw [hx]; rfl
    have e2 : ofE L k = 14 := by unfold ofE; rw [hx]; rfl
    rw [e1, e2] at C
    have HV : Hid (VX w t ms mt L) := h
    clear h e1 e2
    go_enter Try.func18, Try.ntmps18
    go_wp2_with fail
    refine C.mono ?_
    rintro e w1 ⟨rfl, hb⟩
    have HB : Hid (Below w.heap.size w (w1.alloc (.cells #[.int .u64 0, .bool false, .int .u64 0] 57))) := hb.alloc hb.size _
    clear C hb
    go_wp2_with fail
    go_ret
    exact ⟨rfl, HV.out.below HB.out, Trn.of_below HB.out⟩
  | some x =>
    have ho := h.ok.ok x (fnd_mem hx).1
    have e1 : ofV L k = sp (if x.halted then 0 else x.base) x.halted (if x.halted then x.still else 0) := by unfold ofV SM; rw [hx]; rfl
    have e2 : ofE L k = 0 := by unfold ofE; rw [hx]; rfl
    rw [e1, e2] at C
    cases hq : x.halted with
    | false =>
      have e3 : goE L k = 21 := by unfold goE; rw [hx]; simp [hq]
      have e4 : goL L k c = L := by unfold goL; rw [e3]; rfl
      rw [e3, e4]
      rw [hq] at C
      simp only [Bool.false_eq_true, if_false] at C
      generalize x.base = b at *
      skip
      clear e1 e2
      unfold sp at *
      go_enter Try.func18, Try.ntmps18
      go_wp2_with fail
      refine C.mono ?_
      rintro e w1 ⟨rfl, hb⟩
      have HB : Hid (Below w.heap.size w (w1.alloc (.cells #[.int .u64 b, .bool false, .int .u64 0] 57))) := hb.alloc hb.size _
      have HW : Hid (VX (w1.alloc (.cells #[.int .u64 b, .bool false, .int .u64 0] 57)) t ms mt L) := h.below HB.out
      have c0 := HW.out.c0
      have c1 := HW.out.c1
      have hl := HW.out.lt
      clear C hb
      have HF : Hid (VX (w1.alloc (.cells #[.int .u64 b, .bool false, .int .u64 0] 57)) t ms mt L ∧ Trn (Sm ms mt) w (w1.alloc (.cells #[.int .u64 b, .bool false, .int .u64 0] 57))) := ⟨HW.out, Trn.of_below HB.out⟩
      clear HW HB h e3 e4
      go_wp2_with fail
      go_ret
      exact ⟨rfl, HF.out⟩
    | true =>
      have e3 : goE L k = 0 := by unfold goE; rw [hx]; simp [hq]
      have e4 : goL L k c = mod L k (goF c) := by unfold goL; rw [if_pos e3]
      rw [e3, e4]
      rw [hq] at C
      simp only [if_true] at C
      have hs0 := ho.s0
      have hs1 := ho.s1
      have hcc := cap_le c
      have hcb := cap_0 hc
      unfold cap at hcc hcb
      have hwr : IntKind.u64.wrap (min c 4611686018427387904 - min c (min 4611686018427387904 x.still)) = min c 4611686018427387904 - min c (min 4611686018427387904 x.still) := by rw [IntKind.wrap_u64]; omega
      have hsp : spv (goF c x) = .agg #[.int .u64 (min c 4611686018427387904 - min c (min 4611686018427387904 x.still)), .bool false, .int .u64 0] := by
        have : (if x.still < cap c then cap c - x.still else 0) = min c 4611686018427387904 - min c (min 4611686018427387904 x.still) := by unfold cap; split <;> omega
        simp [spv, goF, this]
      have hgo := goF_ok ho c
      clear e1 e2 hcc hcb
      unfold sp at *
      go_enter Try.func18, Try.ntmps18
      go_wp2_with fail
      refine C.mono ?_
      rintro e w1 ⟨rfl, hb⟩
      have hbs := hb.size
      have HB : Hid (Below w.heap.size w (w1.alloc (.cells #[.int .u64 0, .bool true, .int .u64 x.still] 57))) := hb.alloc hb.size _
      have HW : Hid (VX (w1.alloc (.cells #[.int .u64 0, .bool true, .int .u64 x.still] 57)) t ms mt L) := h.below HB.out
      have c0 := HW.out.c0
      have hl := HW.out.lt
      obtain ⟨w2, hrun, hV, hT⟩ := (HW.out.keep (w' := (w1.alloc (.cells #[.int .u64 0, .bool true, .int .u64 x.still] 57)).drew) fun _ _ => rfl).puts hk hx (f := goF c) (fun _ => rfl) hgo rfl
      have HF : Hid (VX w2 t ms mt (mod L k (goF c)) ∧ Trn (Sm ms mt) w w2) := ⟨hV, (Trn.of_below HB.out.drew).trans hT⟩
      rw [hsp] at hrun
      clear hV hT HW HB h C hb e3 e4 hsp hgo ho
      go_wp2_with fail
      go_region
      all_goals
        go_wp2_with fail
        go_ret
        exact ⟨rfl, HF.out⟩
theorem halt_vx (h : VX w t ms mt L) (hk : KW k) (hc : 0 ≤ c) : Calls Try.prog 17 #[.pointer (some ⟨t, 0, none⟩), .int .i64 k, .int .u64 c] w fun e w' => e = .returned (.int .i64 (haE L k)) ∧ VX w' t ms mt (haL L k c) ∧ Trn (Sm ms mt) w w' := by
  have C := of_vx h k hk
  cases hx : fnd L k with
  | none =>
    have e3 : haE L k = 14 := by unfold haE; rw [hx]
    have e4 : haL L k c = L := by unfold haL; rw [e3]; rfl
    rw [e3, e4]
    have e1 : ofV L k = .agg #[.int .u64 0, .bool false, .int .u64 0] := by unfold ofV SM; rw [hx]; rfl
    have e2 : ofE L k = 14 := by unfold ofE; rw [hx]; rfl
    rw [e1, e2] at C
    have HV : Hid (VX w t ms mt L) := h
    clear h e1 e2
    go_enter Try.func17, Try.ntmps17
    go_wp2_with fail
    refine C.mono ?_
    rintro e w1 ⟨rfl, hb⟩
    have HB : Hid (Below w.heap.size w (w1.alloc (.cells #[.int .u64 0, .bool false, .int .u64 0] 57))) := hb.alloc hb.size _
    clear C hb
    go_wp2_with fail
    go_ret
    exact ⟨rfl, HV.out.below HB.out, Trn.of_below HB.out⟩
  | some x =>
    have ho := h.ok.ok x (fnd_mem hx).1
    have e1 : ofV L k = sp (if x.halted then 0 else x.base) x.halted (if x.halted then x.still else 0) := by unfold ofV SM; rw [hx]; rfl
    have e2 : ofE L k = 0 := by unfold ofE; rw [hx]; rfl
    rw [e1, e2] at C
    cases hq : x.halted with
    | true =>
      have e3 : haE L k = 21 := by unfold haE; rw [hx]; simp [hq]
      have e4 : haL L k c = L := by unfold haL; rw [e3]; rfl
      rw [e3, e4]
      rw [hq] at C
      simp only [if_true] at C
      generalize x.still = s at *
      clear e1 e2
      unfold sp at *
      go_enter Try.func17, Try.ntmps17
      go_wp2_with fail
      refine C.mono ?_
      rintro e w1 ⟨rfl, hb⟩
      have HB : Hid (Below w.heap.size w (w1.alloc (.cells #[.int .u64 0, .bool true, .int .u64 s] 57))) := hb.alloc hb.size _
      have HW : Hid (VX (w1.alloc (.cells #[.int .u64 0, .bool true, .int .u64 s] 57)) t ms mt L) := h.below HB.out
      have c0 := HW.out.c0
      have c1 := HW.out.c1
      have hl := HW.out.lt
      clear C hb
      have HF : Hid (VX (w1.alloc (.cells #[.int .u64 0, .bool true, .int .u64 s] 57)) t ms mt L ∧ Trn (Sm ms mt) w (w1.alloc (.cells #[.int .u64 0, .bool true, .int .u64 s] 57))) := ⟨HW.out, Trn.of_below HB.out⟩
      clear HW HB h e3 e4
      go_wp2_with fail
      go_ret
      exact ⟨rfl, HF.out⟩
    | false =>
      have e3 : haE L k = 0 := by unfold haE; rw [hx]; simp [hq]
      have e4 : haL L k c = mod L k (haF c) := by unfold haL; rw [if_pos e3]
      rw [e3, e4]
      rw [hq] at C
      simp only [Bool.false_eq_true, if_false] at C
      have K := fun w' => now_any x.base false 0 c ho.b0 ho.b1 hc w'
      have hsp : spv (haF c x) = .agg #[.int .u64 0, .bool true, .int .u64 (nowV x.base false 0 c)] := by
        have : tm x c = nowV x.base false 0 c := by unfold tm nowV; rw [hq]; rfl
        simp [spv, haF, this]
      have hha := haF_ok ho c
      clear e1 e2
      unfold sp at *
      generalize nowV x.base false 0 c = r at *
      go_enter Try.func17, Try.ntmps17
      go_wp2_with fail
      refine C.mono ?_
      rintro e w1 ⟨rfl, hb⟩
      have hbs := hb.size
      have HB : Hid (Below w.heap.size w (w1.alloc (.cells #[.int .u64 x.base, .bool false, .int .u64 0] 57))) := hb.alloc hb.size _
      have HW : Hid (VX (w1.alloc (.cells #[.int .u64 x.base, .bool false, .int .u64 0] 57)) t ms mt L) := h.below HB.out
      have c0 := HW.out.c0
      have hl := HW.out.lt
      have HP : Hid (∀ w2, Below (w1.alloc (.cells #[.int .u64 x.base, .bool false, .int .u64 0] 57)).heap.size (w1.alloc (.cells #[.int .u64 x.base, .bool false, .int .u64 0] 57)).drew w2 → ∃ w3, (Instr.mapUpdate 38 (.map (some ms)) (.int .i64 k) (.agg #[.int .u64 0, .bool true, .int .u64 r])).run Try.prog w2 = .ok () w3 ∧ (VX w3 t ms mt (mod L k (haF c)) ∧ Trn (Sm ms mt) w w3) ∧ w2.cell? ⟨t, 0, none⟩ = some (.map (some ms)) ∧ t < w2.heap.size) := fun w2 hb2 => by
        have hv2 : VX w2 t ms mt L := (HW.out.keep (w' := (w1.alloc (.cells #[.int .u64 x.base, .bool false, .int .u64 0] 57)).drew) fun _ _ => rfl).below hb2
        obtain ⟨w3, hrun, hV, hT⟩ := hv2.puts hk hx (f := haF c) (fun _ => rfl) hha rfl
        rw [hsp] at hrun
        exact ⟨w3, hrun, ⟨hV, ((Trn.of_below HB.out.drew).trans (Trn.of_below (hb2.mono (Nat.le_refl _)))).trans hT⟩, hv2.c0, hv2.lt⟩
      clear HW HB h C hb e3 e4 hsp hha ho
      go_wp2_with fail
      go_region_with ((refine (K _).mono ?_; rintro e w2 ⟨rfl, hb2⟩; obtain ⟨w3, hrun, hF, hcc, hll⟩ := HP.out w2 hb2; have HF : Hid (VX w3 t ms mt (mod L k (haF c)) ∧ Trn (Sm ms mt) w w3) := hF; clear hF hb2))
      all_goals
        go_wp2_with fail
        go_ret
        exact ⟨rfl, HF.out⟩
end
end Go.Proofs.Ytgiafngiledmbaa
