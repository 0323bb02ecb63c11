/-
  The document's tables: Map of a frame that is another owner's.
-/
import Derived.Test.YteghkhdpdeiocaaGreatDoorGN
namespace Go.Proofs.YteghkhdpdeiocaaGreatDoor
open Go.RowKit Go.Maps
set_option linter.unusedVariables false
set_option maxRecDepth 100000

section
variable {N0 n : Nat} {O : Nat → Prop} {w w' : World} {c h R r U gu : Nat} {z : Zs}
set_option maxHeartbeats 3200000 in
theorem rmap_own (x : UZ N0 w c h R r U gu z) (hi : Iv n O z) (hg : 1 ≤ gu ∧ gu ≤ 16) {P F : Nat} {a b d : Bool} (hr : ¬ z.x.rt < 0) (hP : P < 1024) (hm : mayR a b d = true) (hF : F < n) (hs : (z.x.pg P).isSome = false) (hn : F < z.S.n) (hc : z.S.cl F ≠ gu) : Calls Tryz.prog 21 #[.pointer (some ⟨U, 0, none⟩), .int .i64 P, .int .i64 F, .agg #[.bool a, .bool b, .bool d]] w fun e w1 => e = .returned (.int .i64 15) ∧ UZ N0 w1 c h R r U gu z ∧ Below w.heap.size w w1 := by
  have HB : Hid (Below w.heap.size w (w.alloc (.cells #[.bool a, .bool b, .bool d] 76))) := (Below.refl _ _).alloc (Nat.le_refl _) _
  have HS : Hid (UZ N0 (w.alloc (.cells #[.bool a, .bool b, .bool d] 76)) c h R r U gu z ∧ B4 (w.alloc (.cells #[.bool a, .bool b, .bool d] 76)) w.heap.size a b d) := ⟨x.below HB.out, heap_alloc_at _ _⟩
  have c3 := HS.out.1.ub.c0.2.2.2
  have hx := x.ub.lt
  have hlen := hi.len
  have hn2 := hi.n2
  have ho := hi.ok
  have R0 := right_any a b d
  rw [hm] at R0
  have hP' : (P : Int) < 1024 := by omega
  have hF' : (F : Int) < n := by omega
  have hdiv : IntKind.i64.wrap ((z.m.length : Int) / 256) = n := by rw [IntKind.wrap_i64]; omega
  have MB : Hid (∀ W, UZ N0 W c h R r U gu z → W.cell? ⟨c, 0, none⟩ = some (.slice (some ⟨h, 0, none⟩) z.m.length z.m.length) ∧ c < W.heap.size) := fun W hW => ⟨hW.rz.rm.cell0, hW.rz.rm.blt⟩
  have RB : Hid (∀ W, UZ N0 W c h R r U gu z → W.cell? ⟨R, 0, none⟩ = some (.slice (some ⟨r, 0, none⟩) z.S.n z.S.n) ∧ R < W.heap.size) := fun W hW => ⟨hW.rz.rf.c0, hW.rz.rf.lt⟩
  have CC : Hid (∀ W, UZ N0 W c h R r U gu z → W.cell? ⟨U, 0, none⟩ = some (.pointer (some ⟨c, 0, none⟩)) ∧ W.cell? ⟨U, 1, none⟩ = some (.pointer (some ⟨R, 0, none⟩)) ∧ W.cell? ⟨U, 2, none⟩ = some (.int .i64 gu) ∧ W.cell? ⟨U, 3, none⟩ = some (.int .i64 z.x.rt)) := fun W hW => hW.ub.c0
  have PC : Hid (∀ W, UZ N0 W c h R r U gu z → W.cell? ⟨U, 36 + P * 5, none⟩ = some (.bool false)) := fun W hW => by
    have := (hW.ub.cp hP).1
    rwa [Nat.mul_comm 5 P, hs] at this
  have RR : Hid (∀ W, UZ N0 W c h R r U gu z → W.cell? ⟨r, F * 2, none⟩ = some (.int .i64 (rO z.S F)) ∧ W.cell? ⟨r, F * 2 + 1, none⟩ = some (.int .i64 (z.S.ti F)) ∧ r < W.heap.size) := fun W hW => ⟨hW.rz.rf.r0 hn, hW.rz.rf.r1 hn, hW.rz.rf.rlt⟩
  have hn' : (F : Int) < z.S.n := by omega
  have hgn : decide ((z.S.n : Int) ≤ F) = false := decide_eq_false (by omega)
  have hgm : decide (z.S.n ≤ F) = false := decide_eq_false (by omega)
  clear x hi hm
  generalize hml : z.m.length = ml at *
  generalize z.x.rt = y at *
  obtain ⟨t1, t2⟩ := ho.t F hn
  by_cases h17 : z.S.cl F = 17
  · have e1 : z.S.ti F = 0 := t1 h17
    rw [e1] at RR
    clear t1 t2 h17 hc hs ho hn e1
    generalize z.S.n = sn at *
    generalize rO z.S F = ro at *
    go_enter Tryz.func21, Tryz.ntmps21
    go_wp2_with fail
    refine (R0 _).mono ?_
    rintro e w1 ⟨rfl, hb1⟩
    have H1 : Hid (UZ N0 w1 c h R r U gu z ∧ Below w.heap.size w w1 ∧ B4 w1 w.heap.size a b d) := ⟨HS.out.1.below hb1, HB.out.trans (hb1.mono (by simp)), (hb1.block _ (lt_of_heap HS.out.2)).trans HS.out.2⟩
    obtain ⟨c0, c1, c2, c4⟩ := CC.out _ H1.out.1
    obtain ⟨mb, mlt⟩ := MB.out _ H1.out.1
    obtain ⟨rb, rlt⟩ := RB.out _ H1.out.1
    obtain ⟨r0, r1, rrlt⟩ := RR.out _ H1.out.1
    have q0 := PC.out _ H1.out.1
    have dl := H1.out.1.ub.lt
    clear hb1 c3 c4
    go_wp2_with fail
    go_quiet (fail)
    go_wp2_with fail
    go_ret
    exact ⟨rfl, H1.out.1.below (below_drewN (Below.refl _ _) _), below_drewN H1.out.2.1 _⟩
  · obtain ⟨t3, t4⟩ := t2 h17
    have e1 : rO z.S F = z.S.cl F := if_neg h17
    rw [e1] at RR
    have hti : ((z.S.ti F : Int) == 0) = false := by simp; omega
    have hgo : ((z.S.cl F : Int) != (gu : Int)) = true := by simp; omega
    clear t1 t2 t3 t4 h17 hc hs ho hn e1
    generalize (z.S.ti F : Int) = ti at *
    generalize (z.S.cl F : Int) = cl at *
    generalize z.S.n = sn at *
    go_enter Tryz.func21, Tryz.ntmps21
    go_wp2_with fail
    refine (R0 _).mono ?_
    rintro e w1 ⟨rfl, hb1⟩
    have H1 : Hid (UZ N0 w1 c h R r U gu z ∧ Below w.heap.size w w1 ∧ B4 w1 w.heap.size a b d) := ⟨HS.out.1.below hb1, HB.out.trans (hb1.mono (by simp)), (hb1.block _ (lt_of_heap HS.out.2)).trans HS.out.2⟩
    obtain ⟨c0, c1, c2, c4⟩ := CC.out _ H1.out.1
    obtain ⟨mb, mlt⟩ := MB.out _ H1.out.1
    obtain ⟨rb, rlt⟩ := RB.out _ H1.out.1
    obtain ⟨r0, r1, rrlt⟩ := RR.out _ H1.out.1
    have q0 := PC.out _ H1.out.1
    have dl := H1.out.1.ub.lt
    clear hb1 c3 c4
    go_wp2_with fail
    go_quiet (fail)
    go_wp2_with fail
    go_ret
    exact ⟨rfl, H1.out.1.below (below_drewN (Below.refl _ _) _), below_drewN H1.out.2.1 _⟩
end
end Go.Proofs.YteghkhdpdeiocaaGreatDoor
