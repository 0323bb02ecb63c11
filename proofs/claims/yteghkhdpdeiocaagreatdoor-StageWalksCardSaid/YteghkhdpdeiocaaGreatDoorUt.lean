/-
  The document's tables: what Protect does.
-/
import Derived.Test.YteghkhdpdeiocaaGreatDoorGL
namespace Go.Proofs.YteghkhdpdeiocaaGreatDoor
open Go.RowKit Go.Maps
set_option linter.unusedVariables false
set_option maxRecDepth 100000

/-- rights of the document's in a block of their own -/
def B4 (W : World) (q : Nat) (a b c : Bool) : Prop := W.heap[q]? = some (.cells #[.bool a, .bool b, .bool c] 76 (0, 0))
theorem B4.cs {W : World} {q : Nat} {a b c : Bool} (h : B4 W q a b c) : W.cell? ⟨q, 0, none⟩ = some (.bool a) ∧ W.cell? ⟨q, 1, none⟩ = some (.bool b) ∧ W.cell? ⟨q, 2, none⟩ = some (.bool c) ∧ q < W.heap.size := by
  unfold B4 at h
  refine ⟨?_, ?_, ?_, lt_of_heap h⟩ <;> rw [cell_at h] <;> rfl
theorem B4.below {W W' : World} {q : Nat} {a b c : Bool} (h : B4 W q a b c) (hb : Below W.heap.size W W') : B4 W' q a b c := (hb.block _ (lt_of_heap h)).trans h
section
variable {N0 n : Nat} {O : Nat → Prop} {w w' : World} {c h R r U gu : Nat} {z : Zs}
theorem prQ_un {z : Zs} {p : Int} {a b d : Bool} (hm : mayR a b d = true) : prQ z p a b d = unQ z p := by
  unfold prQ unQ
  simp only [hm, and_true]
set_option maxHeartbeats 1600000 in
theorem rprotect_uz (x : UZ N0 w c h R r U gu z) (hi : Iv n O z) (p : Int) (a b d : Bool) : Calls Tryz.prog 25 #[.pointer (some ⟨U, 0, none⟩), .int .i64 p, .agg #[.bool a, .bool b, .bool d]] w fun e w1 => e = .returned (.int .i64 (prQ z p a b d)) ∧ UZ N0 w1 c h R r U gu (prZ z p a b d) ∧ Tq N0 (fun k => k = h ∨ k = U) w w1 := by
  have HB : Hid (Below w.heap.size w (w.alloc (.cells #[.bool a, .bool b, .bool d] 76))) := (Below.refl _ _).alloc (Nat.le_refl _) _
  have HS : Hid (UZ N0 (w.alloc (.cells #[.bool a, .bool b, .bool d] 76)) c h R r U gu z ∧ B4 (w.alloc (.cells #[.bool a, .bool b, .bool d] 76)) w.heap.size a b d) := ⟨x.below HB.out, heap_alloc_at _ _⟩
  have c3 := HS.out.1.ub.c0.2.2.2
  have hx := x.ub.lt
  have WR := fun (W : World) (hS : UZ N0 W c h R r U gu z) => wrong_uz hS p
  by_cases h1 : z.x.rt < 0
  · have e1 : prQ z p a b d = 21 := by unfold prQ; rw [if_pos h1]
    have e2 : prZ z p a b d = z := by unfold prZ; rw [if_neg (by omega)]
    have e3 : unQ z p = 21 := by unfold unQ; rw [if_pos h1]
    rw [e1, e2]
    simp only [e3] at WR
    clear x hi e1 e2 e3
    generalize z.x.rt = y at *
    go_enter Tryz.func25, Tryz.ntmps25
    go_wp2_with fail
    refine (WR _ HS.out.1).mono ?_
    rintro e w1 ⟨rfl, rfl⟩
    go_wp2_with fail
    go_ret
    exact ⟨rfl, HS.out.1, Tq.of_below HB.out⟩
  · have R0 := right_any a b d
    cases hm : mayR a b d
    · have e1 : prQ z p a b d = 2 := by unfold prQ; rw [if_neg h1, if_pos (by simp [hm])]
      have e2 : prZ z p a b d = z := by unfold prZ; rw [if_neg (by omega)]
      rw [e1, e2]
      rw [hm] at R0
      clear x hi e1 e2 hm WR
      generalize z.x.rt = y at *
      go_enter Tryz.func25, Tryz.ntmps25
      go_wp2_with fail
      refine (R0 _).mono ?_
      rintro e w1 ⟨rfl, hb1⟩
      have H1 : Hid (UZ N0 w1 c h R r U gu z ∧ Below w.heap.size w w1) := ⟨HS.out.1.below hb1, HB.out.trans (hb1.mono (by simp))⟩
      clear hb1
      go_wp2_with fail
      go_ret
      exact ⟨rfl, H1.out.1, Tq.of_below H1.out.2⟩
    · rw [hm] at R0
      have eQ := prQ_un (z := z) (p := p) hm
      by_cases h0 : unQ z p = 0
      · obtain ⟨hr, P, y, rfl, hP, hy⟩ := unQ_ok h0
        have e2 : prZ z P a b d = mapD z P ⟨y.f, a, b, d⟩ := by unfold prZ; rw [if_pos (by rw [eQ]; exact h0), Int.toNat_natCast, hy]; rfl
        rw [eQ, h0, e2]
        simp only [h0] at WR
        have hl := hi.has hP hy
        obtain ⟨F, hF⟩ := Int.eq_ofNat_of_zero_le hl
        have l2 := (hi.lo (P / 32) (by omega)).2
        have hlen := hi.len
        have hn2 := hi.n2
        obtain ⟨yf, ym⟩ := hi.pf P y hP hy
        have hP' : (P : Int) < 1024 := by omega
        have hFl : F * 256 + 256 ≤ z.m.length := by omega
        have WT := fun (W : World) (hS : UZ N0 W c h R r U gu ⟨z.m, z.S, { z.x with pg := upd z.x.pg P (some ⟨y.f, a, b, d⟩) }⟩) => write_uz hS hP (F := F) hF hFl (fun q hq => by
          have hq' : upd z.x.pg P (some ⟨y.f, a, b, d⟩) P = some q := hq
          rw [upd_self] at hq'
          cases hq'
          exact ⟨by show y.f < 65536; omega, hm⟩)
        simp only [upd_self] at WT
        have HE : Hid (∀ W, UZ N0 W c h R r U gu ⟨set8 z.m F (P % 32) (pgN (some ⟨y.f, a, b, d⟩)), z.S, { z.x with pg := upd z.x.pg P (some ⟨y.f, a, b, d⟩) }⟩ → UZ N0 W c h R r U gu (mapD z P ⟨y.f, a, b, d⟩)) := fun W hW => by
          unfold mapD
          rw [hF, Int.toNat_natCast]
          exact hW
        have RT := fun (W : World) (hS : UZ N0 W c h R r U gu z) => hS.ub.rights hP hy a b d
        have CP := fun (W : World) (hS : UZ N0 W c h R r U gu z) => hS.ub.cp hP
        clear x hi e2 eQ h0 hl hF l2 hlen hn2 yf ym hFl hm

        go_enter Tryz.func25, Tryz.ntmps25
        go_wp2_with fail
        refine (R0 _).mono ?_
        rintro e w1 ⟨rfl, hb1⟩
        have H1 : Hid (UZ N0 w1 c h R r U gu z ∧ Below w.heap.size w w1 ∧ B4 w1 w.heap.size a b d) := ⟨HS.out.1.below hb1, HB.out.trans (hb1.mono (by simp)), HS.out.2.below hb1⟩
        clear hb1 c3
        go_wp2_with fail
        refine (WR _ H1.out.1).mono ?_
        rintro e w1 ⟨rfl, rfl⟩
        obtain ⟨k0, k1, k2, lK⟩ := H1.out.2.2.cs
        obtain ⟨p0, p1, p2, p3, p4⟩ := CP _ H1.out.1
        rw [Nat.mul_comm 5 P] at p0 p1 p2 p3 p4
        have f2 := H1.out.1.ub.fz (36 + P * 5 + 2)
        have f3 := H1.out.1.ub.fz (36 + P * 5 + 3)
        have f4 := H1.out.1.ub.fz (36 + P * 5 + 4)
        have dl := H1.out.1.ub.lt
        go_wp2_with fail
        go_region
        obtain ⟨u1, t1⟩ := RT _ H1.out.1
        have H2 : Hid (UZ N0 (((w1.setCell ⟨U, 36 + P * 5 + 2, none⟩ (.bool a)).setCell ⟨U, 36 + P * 5 + 2 + 1, none⟩ (.bool b)).setCell ⟨U, 36 + P * 5 + 2 + 2, none⟩ (.bool d)).drew c h R r U gu ⟨z.m, z.S, { z.x with pg := upd z.x.pg P (some ⟨y.f, a, b, d⟩) }⟩ ∧ Tq N0 (fun k => k = h ∨ k = U) w (((w1.setCell ⟨U, 36 + P * 5 + 2, none⟩ (.bool a)).setCell ⟨U, 36 + P * 5 + 2 + 1, none⟩ (.bool b)).setCell ⟨U, 36 + P * 5 + 2 + 2, none⟩ (.bool d)).drew) := ⟨(H1.out.1.block u1 t1).drew, ((Tq.of_below H1.out.2.1).trans (Tq.of_trn t1 fun _ e => .inr e)).drew⟩
        clear u1 t1 RT CP k0 k1 k2 lK p0 p1 p2 p3 p4 f2 f3 f4 dl H1
        generalize (((w1.setCell ⟨U, 36 + P * 5 + 2, none⟩ (.bool a)).setCell ⟨U, 36 + P * 5 + 2 + 1, none⟩ (.bool b)).setCell ⟨U, 36 + P * 5 + 2 + 2, none⟩ (.bool d)).drew = w2 at *
        go_wp2_with fail
        refine (WT _ H2.out.1).mono ?_
        rintro e w3 ⟨rfl, h3, t3⟩
        have H3 : Hid (UZ N0 w3 c h R r U gu (mapD z P ⟨y.f, a, b, d⟩) ∧ Tq N0 (fun k => k = h ∨ k = U) w w3) := ⟨HE.out _ h3, H2.out.2.trans (t3.mono fun _ e => .inl e)⟩
        clear h3 t3 WT
        go_wp2_with fail
        go_ret
        exact ⟨rfl, H3.out⟩
      · have e2 : prZ z p a b d = z := by unfold prZ; rw [if_neg (by rw [eQ]; exact h0)]
        rw [eQ, e2]
        clear x hi e2 eQ hm
        generalize z.x.rt = y at *
        generalize unQ z p = er at *
        go_enter Tryz.func25, Tryz.ntmps25
        go_wp2_with fail
        refine (R0 _).mono ?_
        rintro e w1 ⟨rfl, hb1⟩
        have H1 : Hid (UZ N0 w1 c h R r U gu z ∧ Below w.heap.size w w1) := ⟨HS.out.1.below hb1, HB.out.trans (hb1.mono (by simp))⟩
        clear hb1
        go_wp2_with fail
        refine (WR _ H1.out.1).mono ?_
        rintro e w1 ⟨rfl, rfl⟩
        go_wp2_with fail
        go_ret
        exact ⟨rfl, H1.out.1, Tq.of_below H1.out.2⟩
end
end Go.Proofs.YteghkhdpdeiocaaGreatDoor
