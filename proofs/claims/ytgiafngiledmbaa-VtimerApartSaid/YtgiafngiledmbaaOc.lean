/-
  Timers with one virtual processor: what each call leaves of it.
-/
import Derived.Test.YtgiafngiledmbaaNx
import Derived.Test.YtgiafngiledmbaaDv
import Derived.Test.YtgiafngiledmbaaCm
import Derived.Test.YtgiafngiledmbaaOpens
namespace Go.Proofs.Ytgiafngiledmbaa
open Go.RowKit Go.Maps
set_option linter.unusedVariables false
set_option maxRecDepth 100000
/-- timers, all of whose blocks are new -/
structure OX (w0 w : World) (t ms mt : Nat) (L : List Tm) : Prop where
  bel : Below w0.heap.size w0 w
  vx : VX w t ms mt L
  low : w0.heap.size ≤ ms ∧ w0.heap.size ≤ mt
/-- number 4 alone -/
def one (b : Int) (h : Bool) (s : Int) (st : Bool) (d : Int) : List Tm := [⟨4, b, h, s, st, d⟩]
section
variable {w0 w w' : World} {t ms mt : Nat} {L L' : List Tm} {b s d c : Int} {h0 st : Bool}
theorem OX.call (h : OX w0 w t ms mt L) (hi : VX w' t ms mt L') (ht : Trn (Sm ms mt) w w') : OX w0 w' t ms mt L' :=
  ⟨h.bel.trans (ht.below h.bel.size fun k hk => by rcases hk with rfl | rfl; exact h.low.1; exact h.low.2), hi, h.low⟩
theorem OX.below (h : OX w0 w t ms mt L) (hb : Below w.heap.size w w') : OX w0 w' t ms mt L :=
  ⟨h.bel.trans (hb.mono h.bel.size), h.vx.below hb, h.low⟩
theorem kw4 : KW 4 := by unfold KW; decide
theorem fnd_one : fnd (one b h0 s st d) 4 = some ⟨4, b, h0, s, st, d⟩ := rfl
theorem mod_one (f : Tm → Tm) : mod (one b h0 s st d) 4 f = [f ⟨4, b, h0, s, st, d⟩] := by simp [mod, one]
theorem cap_at {n : Int} (h : n ≤ 4611686018427387904) : cap n = n := by unfold cap; omega
theorem OX.begin0 (h : OX w0 w t ms mt []) (hc : 0 ≤ c) (hc2 : c ≤ 4611686018427387904) : Calls Try.prog 14 #[.pointer (some ⟨t, 0, none⟩), .int .i64 4, .int .u64 c] w fun e w' => e = .returned (.int .i64 0) ∧ OX w0 w' t ms mt (one c false 0 false 0) := by
  refine (begin_vx h.vx kw4 hc).mono fun e w' ⟨e1, hi, ht⟩ => ⟨e1, h.call ?_ ht⟩
  have e2 : beL [] 4 c = one c false 0 false 0 := by
    show ins (nw 4 c) [] = _
    simp [ins, nw, one, cap_at hc2]
  rw [e2] at hi
  exact hi
theorem OX.set0 (h : OX w0 w t ms mt (one b false s st d)) (hc : 0 ≤ c) (hc2 : c ≤ 4611686018427387904) : Calls Try.prog 15 #[.pointer (some ⟨t, 0, none⟩), .int .i64 4, .int .u64 c] w fun e w' => e = .returned (.int .i64 0) ∧ OX w0 w' t ms mt (one b false s true c) := by
  refine (set_vx h.vx kw4 hc).mono fun e w' ⟨e1, hi, ht⟩ => ⟨e1, h.call ?_ ht⟩
  rw [mod_one] at hi
  simp only [stD, cap_at hc2] at hi
  exact hi
theorem OX.halt0 (h : OX w0 w t ms mt (one b false s st d)) (hb : 0 ≤ b) (hc : b ≤ c) (hc2 : c ≤ 4611686018427387904) : Calls Try.prog 17 #[.pointer (some ⟨t, 0, none⟩), .int .i64 4, .int .u64 c] w fun e w' => e = .returned (.int .i64 0) ∧ OX w0 w' t ms mt (one b true (c - b) st d) := by
  refine (halt_vx h.vx kw4 (by omega)).mono fun e w' ⟨e1, hi, ht⟩ => ⟨e1, h.call ?_ ht⟩
  have e2 : haL (one b false s st d) 4 c = one b true (c - b) st d := by
    show mod (one b false s st d) 4 (haF c) = _
    rw [mod_one]
    simp only [haF, tm, cap_at hc2, Bool.false_eq_true, if_false, if_neg (show ¬ c < b by omega), one]
  rw [e2] at hi
  exact hi
theorem OX.go0 (h : OX w0 w t ms mt (one b true s st d)) (hs : 0 ≤ s) (hc : s ≤ c) (hc2 : c ≤ 4611686018427387904) : Calls Try.prog 18 #[.pointer (some ⟨t, 0, none⟩), .int .i64 4, .int .u64 c] w fun e w' => e = .returned (.int .i64 0) ∧ OX w0 w' t ms mt (one (c - s) false s st d) := by
  refine (go_vx h.vx kw4 (by omega)).mono fun e w' ⟨e1, hi, ht⟩ => ⟨e1, h.call ?_ ht⟩
  have e2 : goL (one b true s st d) 4 c = one (c - s) false s st d := by
    show mod (one b true s st d) 4 (goF c) = _
    rw [mod_one]
    have : (if s < c then c - s else 0) = c - s := by split <;> omega
    simp only [goF, cap_at hc2, this, one]
  rw [e2] at hi
  exact hi
theorem aft_no (hd : isd c ⟨4, b, h0, s, st, d⟩ = false) : aft (one b h0 s st d) c = one b h0 s st d ∧ dueL (one b h0 s st d) c = [] := by
  unfold one aft dueL
  simp [hd]
theorem aft_yes (hd : isd c ⟨4, b, h0, s, st, d⟩ = true) : aft (one b h0 s st d) c = one b h0 s false d ∧ dueL (one b h0 s st d) c = [4] := by
  unfold one aft dueL
  simp [hd, off]
theorem OX.dueN (h : OX w0 w t ms mt (one b h0 s st d)) (hc : 0 ≤ c) (hd : isd c ⟨4, b, h0, s, st, d⟩ = false) : Calls Try.prog 19 #[.pointer (some ⟨t, 0, none⟩), .int .u64 c] w fun e w' => (∃ ad cp, e = .returned (.slice ad 0 cp)) ∧ OX w0 w' t ms mt (one b h0 s st d) := by
  refine (due_vx h.vx hc).mono fun e w' ⟨⟨v, e1, ad, cp, hl, _⟩, hi, ht⟩ => ?_
  obtain ⟨k1, k2⟩ := aft_no hd
  rw [k1] at hi
  rw [k2] at hl
  exact ⟨⟨ad, cp, by rw [e1, hl]; rfl⟩, h.call hi ht⟩
theorem OX.dueY (h : OX w0 w t ms mt (one b h0 s st d)) (hc : 0 ≤ c) (hd : isd c ⟨4, b, h0, s, st, d⟩ = true) : Calls Try.prog 19 #[.pointer (some ⟨t, 0, none⟩), .int .u64 c] w fun e w' => (∃ g cp, e = .returned (.slice (some ⟨g, 0, none⟩) 1 cp) ∧ g < w'.heap.size ∧ w'.cell? ⟨g, 0, none⟩ = some (.int .i64 4)) ∧ OX w0 w' t ms mt (one b h0 s false d) := by
  refine (due_vx h.vx hc).mono fun e w' ⟨⟨v, e1, ad, cp, hl, hg⟩, hi, ht⟩ => ?_
  obtain ⟨k1, k2⟩ := aft_yes hd
  rw [k1] at hi
  rw [k2] at hl hg
  obtain ⟨g, rfl, _, h2, h3⟩ := hg 0 (by simp)
  exact ⟨⟨g, cp, by rw [e1, hl]; rfl, h2, h3⟩, h.call hi ht⟩
theorem isd_h : isd c ⟨4, b, true, s, st, d⟩ = false := by simp [isd]
theorem isd_o : isd c ⟨4, b, h0, s, false, d⟩ = false := by simp [isd]
theorem isd_n (hc : b ≤ c) (hc2 : c ≤ 4611686018427387904) (hd : ¬ d ≤ c - b) : isd c ⟨4, b, false, s, true, d⟩ = false := by
  simp only [isd, tm, cap_at hc2, Bool.false_eq_true, if_false, if_neg (show ¬ c < b by omega)]
  simp [hd]
theorem isd_l (hc : c < b) (hc2 : c ≤ 4611686018427387904) (hd : 0 < d) : isd c ⟨4, b, false, s, true, d⟩ = false := by
  simp only [isd, tm, cap_at hc2, Bool.false_eq_true, if_false, if_pos hc]
  simp [hd]
theorem isd_y (hc : b ≤ c) (hc2 : c ≤ 4611686018427387904) (hd : d ≤ c - b) : isd c ⟨4, b, false, s, true, d⟩ = true := by
  simp only [isd, tm, cap_at hc2, Bool.false_eq_true, if_false, if_neg (show ¬ c < b by omega)]
  simp [hd]
theorem OX.now0 (h : OX w0 w t ms mt (one b false s st d)) (hb : 0 ≤ b) (hc : b ≤ c) (hc2 : c ≤ 4611686018427387904) : Calls Try.prog 10 #[.pointer (some ⟨t, 0, none⟩), .int .i64 4, .int .u64 c] w fun e w' => e = .returned (.tuple #[.int .u64 (c - b), .bool true]) ∧ OX w0 w' t ms mt (one b false s st d) := by
  refine (now_vx h.vx kw4 (by omega)).mono fun e w' ⟨e1, hb⟩ => ⟨?_, h.below hb⟩
  have e2 : nowR (one b false s st d) 4 c = c - b := by
    show tm _ c = _
    simp only [tm, cap_at hc2, Bool.false_eq_true, if_false, if_neg (show ¬ c < b by omega)]
  rw [e1, e2]
  rfl
theorem OX.nextY (h : OX w0 w t ms mt (one b false s true d)) (hc : b + d ≤ 4611686018427387904) : Calls Try.prog 12 #[.pointer (some ⟨t, 0, none⟩)] w fun e w' => e = .returned (.tuple #[.int .u64 (b + d), .bool true]) ∧ OX w0 w' t ms mt (one b false s true d) := by
  refine (next_vx h.vx).mono fun e w' ⟨⟨r, hr, e1⟩, hb⟩ => ⟨?_, h.below hb⟩
  cases r with
  | none =>
    have := hr.no rfl ⟨4, b, false, s, true, d⟩ (by simp [one])
    simp [el] at this
  | some v =>
    obtain ⟨⟨x, hx, _, h2⟩, _⟩ := hr.yes v rfl
    simp only [one, List.mem_singleton] at hx
    subst hx
    rw [e1, ← h2]
    simp [wn, cap_at hc, nxI]
theorem OX.nextN (h : OX w0 w t ms mt (one b h0 s false d)) : Calls Try.prog 12 #[.pointer (some ⟨t, 0, none⟩)] w fun e w' => e = .returned (.tuple #[.int .u64 0, .bool false]) ∧ OX w0 w' t ms mt (one b h0 s false d) := by
  refine (next_vx h.vx).mono fun e w' ⟨⟨r, hr, e1⟩, hb⟩ => ⟨?_, h.below hb⟩
  cases r with
  | none => rw [e1]; rfl
  | some v =>
    obtain ⟨⟨x, hx, h1, _⟩, _⟩ := hr.yes v rfl
    simp only [one, List.mem_singleton] at hx
    subst hx
    simp [el] at h1
end
end Go.Proofs.Ytgiafngiledmbaa
