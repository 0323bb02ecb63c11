/-
  What the law's two memories with some entries are: the contract of both.
-/
import Derived.Test.YtbaagnfcdphddaaDoorRef2
import Derived.Test.YtbaagnfcdphddaaDoorWlk5
namespace Go.Proofs.YtbaagnfcdphddaaDoor
open Go.RowKit
set_option linter.unusedVariables false
set_option maxRecDepth 20000

/-- an entry that stands somewhere -/
structure Sl where
  fr : Int
  pl : Int
  e : En
  raw : Int
/-- the address at which it stands -/
def Sl.at_ (s : Sl) : Int := s.fr % 16 * 256 + 8 * (s.pl % 32)
/-- its number -/
def Sl.num (s : Sl) : Int := if packE s.e.v s.e.r s.e.w s.e.x s.e.u s.e.s s.e.d s.e.f = 0 ∧ s.raw = 0 then packN s.e.v s.e.r s.e.w s.e.x s.e.u s.e.s s.e.d s.e.f else s.raw
def memF (zs : List Int) (s : Sl) : List Int := storeV zs s.at_ 8 s.num
def memOf (ss : List Sl) : List Int := ss.foldl memF (List.replicate 4096 0)

structure SlotAt (w : World) (B o : Nat) (s : Sl) : Prop where
  c0 : w.cell? ⟨B, o, none⟩ = some (.int .i64 s.fr)
  c1 : w.cell? ⟨B, o + 1, none⟩ = some (.int .i64 s.pl)
  c2 : w.cell? ⟨B, o + 2, none⟩ = some (.bool s.e.v)
  c3 : w.cell? ⟨B, o + 3, none⟩ = some (.bool s.e.r)
  c4 : w.cell? ⟨B, o + 4, none⟩ = some (.bool s.e.w)
  c5 : w.cell? ⟨B, o + 5, none⟩ = some (.bool s.e.x)
  c6 : w.cell? ⟨B, o + 6, none⟩ = some (.bool s.e.u)
  c7 : w.cell? ⟨B, o + 7, none⟩ = some (.bool s.e.s)
  c8 : w.cell? ⟨B, o + 8, none⟩ = some (.bool s.e.d)
  c9 : w.cell? ⟨B, o + 9, none⟩ = some (.int .i64 s.e.f)
  c10 : w.cell? ⟨B, o + 10, none⟩ = some (.int .u64 s.raw)
  r0 : 0 ≤ s.raw
  r1 : s.raw < 18446744073709551616
theorem SlotAt.below {w w' : World} {B o N : Nat} {s : Sl} (h : SlotAt w B o s) (hB : B < N) (hb : Below N w w') : SlotAt w' B o s := by
  obtain ⟨e, _⟩ := bcell hb
  exact ⟨(e _ _ hB).trans h.c0, (e _ _ hB).trans h.c1, (e _ _ hB).trans h.c2, (e _ _ hB).trans h.c3, (e _ _ hB).trans h.c4, (e _ _ hB).trans h.c5, (e _ _ hB).trans h.c6, (e _ _ hB).trans h.c7, (e _ _ hB).trans h.c8, (e _ _ hB).trans h.c9, (e _ _ hB).trans h.c10, h.r0, h.r1⟩
/-- a slice of them -/
def SlotsIn (w : World) (ad : Option Addr) (n : Nat) (ss : List Sl) : Prop :=
  ss.length = n ∧ (n = 0 ∨ ∃ B off, ad = some ⟨B, off, none⟩ ∧ B < w.heap.size ∧ ∀ i s, ss[i]? = some s → SlotAt w B (off + i * 11) s)

theorem at_ok (s : Sl) : 0 ≤ s.at_ ∧ s.at_ + 8 ≤ 4096 ∧ s.at_ % 8 = 0 := by unfold Sl.at_; omega
theorem at_num {zs : List Int} (h : zs.length = 4096) (s : Sl) : numE zs.length s.at_ 8 = 0 := by
  have := at_ok s
  rw [h]
  unfold numE isW
  simp
  omega
theorem num_ok (s : Sl) (h0 : 0 ≤ s.raw) (h1 : s.raw < 18446744073709551616) : 0 ≤ s.num ∧ s.num < 18446744073709551616 := by
  unfold Sl.num
  split
  · unfold packN
    split
    · rename_i hm
      have := may_frame hm
      have := num_range (v := s.e.v) (r := s.e.r) (w := s.e.w) (x := s.e.x) (u := s.e.u) (s := s.e.s) (d := s.e.d) this.1 this.2
      omega
    · omega
  · omega
theorem memF_len {zs : List Int} (h : zs.length = 4096) (s : Sl) : (memF zs s).length = 4096 := by
  have := at_ok s
  unfold memF storeV
  rw [if_pos (at_num h s), length_splice]
  · exact h
  · rw [bytesOf_len, h]; omega
theorem memOf_next (ss : List Sl) (k : Nat) (s : Sl) (h : ss[k]? = some s) : memOf (ss.take (k + 1)) = memF (memOf (ss.take k)) s := by
  unfold memOf
  rw [List.take_add_one, h]
  simp [List.foldl_append]
theorem memOf_len (ss : List Sl) : (memOf ss).length = 4096 := by
  have : ∀ (l : List Sl) (zs : List Int), zs.length = 4096 → (l.foldl memF zs).length = 4096 := by
    intro l
    induction l with
    | nil => intro zs h; exact h
    | cons s l ih => intro zs h; exact ih _ (memF_len h s)
  exact this ss _ (by simp)

set_option maxHeartbeats 3200000 in
theorem lawBoth (ad : Option Addr) (n cap : Nat) (ss : List Sl) (W : World) (hz : SZ W) (hbt : BT W) (hs : SlotsIn W ad n ss) (hcap : n ≤ cap) (hm : cap ≤ 9223372036854775807) :
    Calls Tryd.prog 5 #[.slice ad n cap] W fun e W' => ∃ b g c, e = .returned (.tuple #[.pointer (some ⟨b, 0, none⟩), .pointer (some ⟨c, 0, none⟩), .bool true]) ∧ MM W' b g (memOf ss) ∧ Below W.heap.size W W' := by
  have HZ : Hid (SZ W) := hz
  have hpos := hbt.pos
  clear hz hbt
  go_enter Tryd.func5, Tryd.ntmps5
  go_wp2_with fail
  refine (new_yes 16 _ (by decide) (by decide)).mono ?_
  rintro e x1 ⟨b, g, rfl, m1, lb, lg, c1⟩
  go_wp2_with fail
  refine (rnew_yes 16 _ (by decide) (by decide)).mono ?_
  rintro e x2 ⟨c, h, rfl, r2, lc, lh, c2⟩
  have m2 := m1.below c2
  have l1 := m1.blt
  have l2 := m1.glt
  have b2 : Below W.heap.size W x2 := c1.trans (c2.mono c1.size)
  have s1 := c1.size
  have nn1 := m2.ne
  have nn2 := r2.ne
  have M2 : Hid (_) := m2
  have R2 : Hid (_) := r2
  have B2 : Hid (_) := b2
  clear c1 c2 m1 m2 r2 b2
  go_wp2_with fail
  go_loopw [9] (fun i wr => ∃ (k : Nat) (ys : List Int), k ≤ n ∧ i = .int .i64 k ∧ MM wr b g (memOf (ss.take k)) ∧ RM wr c h ys ∧ Below W.heap.size W wr) (fun i _ => n - (intOf i).toNat)
  case atStart => exact ⟨0, _, by omega, rfl, M2.out, R2.out, B2.out⟩
  case round =>
    obtain ⟨k, ys, hk, rfl, hmm, hrm, hb⟩ := hrel
    clear M2 R2 B2
    by_cases hlt : k < n
    · obtain ⟨hlen, hs⟩ := hs
      rcases hs with h0 | ⟨B, off, rfl, hB, hsl⟩
      · omega
      have hg : ss[k]? = some ss[k] := List.getElem?_eq_getElem (by omega)
      have hsk := (hsl k _ hg).below hB hb
      have hnext := memOf_next ss k _ hg
      generalize ss[k] = s at *
      have hBr := Nat.lt_of_lt_of_le hB hb.size
      obtain ⟨q0, q1, q2, q3, q4, q5, q6, q7, q8, q9, q10, r0, r1⟩ := hsk
      have C1 := rpack_any s.e.v s.e.r s.e.w s.e.x s.e.u s.e.s s.e.d s.e.f
      have hao := at_ok s
      have hno := num_ok s r0 r1
      have hml := memOf_len (ss.take k)
      have CS := fun w' (hm' : MM w' b g (memOf (ss.take k))) (hz' : SZ w') => mstore_mm b g (memOf (ss.take k)) s.at_ 8 s.num w' hz' hm' hao.1 (by omega) (by decide) hno.1 hno.2
      rw [at_num hml s] at CS
      have HM : Hid (_) := hmm
      have HR : Hid (_) := hrm
      have HB : Hid (_) := hb
      have HN : Hid (_) := hnext
      have hv : (¬ packE s.e.v s.e.r s.e.w s.e.x s.e.u s.e.s s.e.d s.e.f = 0 ∧ s.num = s.raw) ∨ (packE s.e.v s.e.r s.e.w s.e.x s.e.u s.e.s s.e.d s.e.f = 0 ∧ ¬ s.raw = 0 ∧ s.num = s.raw) ∨ (packE s.e.v s.e.r s.e.w s.e.x s.e.u s.e.s s.e.d s.e.f = 0 ∧ s.raw = 0 ∧ s.num = packN s.e.v s.e.r s.e.w s.e.x s.e.u s.e.s s.e.d s.e.f) := by
        unfold Sl.num
        by_cases h1 : packE s.e.v s.e.r s.e.w s.e.x s.e.u s.e.s s.e.d s.e.f = 0
        · by_cases h2 : s.raw = 0
          · exact .inr (.inr ⟨h1, h2, if_pos ⟨h1, h2⟩⟩)
          · exact .inr (.inl ⟨h1, h2, if_neg fun h => h2 h.2⟩)
        · exact .inl ⟨h1, if_neg fun h => h1 h.1⟩
      generalize packE s.e.v s.e.r s.e.w s.e.x s.e.u s.e.s s.e.d s.e.f = pe at *
      generalize packN s.e.v s.e.r s.e.w s.e.x s.e.u s.e.s s.e.d s.e.f = pn at *
      clear hmm hrm hb hnext hsl hg
      have f1 := and_ones64 s.fr 4 (by decide)
      have f2 := and_ones64 s.pl 5 (by decide)
      simp only [Int.reducePow, Int.reduceSub] at f1 f2
      have u1 : IntKind.u64.wrap (s.fr % 16) = s.fr % 16 := wraps_u64 _ (by omega) (by omega)
      have u2 : IntKind.u64.wrap (s.fr % 16 * 256) = s.fr % 16 * 256 := wraps_u64 _ (by omega) (by omega)
      have u3 : IntKind.u64.wrap (s.pl % 32) = s.pl % 32 := wraps_u64 _ (by omega) (by omega)
      have u4 : IntKind.u64.wrap (8 * (s.pl % 32)) = 8 * (s.pl % 32) := wraps_u64 _ (by omega) (by omega)
      have u5 : IntKind.u64.wrap (s.fr % 16 * 256 + 8 * (s.pl % 32)) = s.at_ := wraps_u64 _ (by omega) (by omega)
      unfold ent at C1
      have i1 : (0 : Int) ≤ (k : Int) ∧ (k : Int) < (n : Int) := by omega
      have nGC : some c ≠ some g := by simp; omega
      have nGH : some h ≠ some g := by simp; omega
      have nHB : some b ≠ some h := by simp; omega
      have nHG : some g ≠ some h := by simp; omega
      have HV : Hid (_) := hv
      clear hv
      go_wp2_with fail
      refine (C1 _).mono ?_
      rintro e y1 ⟨rfl, hb1⟩
      obtain ⟨cc, _⟩ := bel_cell hb1 hBr
      have p0 := (cc _).trans q0
      have p1 := (cc _).trans q1
      have p10 := (cc _).trans q10
      have hBy : B < y1.heap.size := Nat.lt_of_lt_of_le hBr hb1.size
      have B1 : Hid (Below W.heap.size W y1) := HB.out.trans (hb1.mono HB.out.size)
      have M1 : Hid (_) := HM.out.below hb1
      have R1 : Hid (_) := HR.out.below hb1
      clear q0 q1 q2 q3 q4 q5 q6 q7 q8 q9 q10 C1 hb1 cc HM HR HB
      rcases HV.out with ⟨hp, hn⟩ | ⟨hp, hr, hn⟩ | ⟨hp, hr, hn⟩
      · have HN2 : Hid (s.num = s.raw) := hn
        rw [hn] at CS hno
        clear HV hn
        go_wp2_with fail
        go_quiet (fail)
        go_wp2_with fail
        refine (CS _ (M1.out.below (below_drewN _ _)) (HZ.out.below (B1.out.trans ((below_drewN _ _).mono B1.out.size)))).mono ?_
        rintro e y2 ⟨rfl, m2, g2⟩
        have B2 : Hid (Below W.heap.size W y2) := (B1.out.trans ((below_drewN _ _).mono B1.out.size)).grown g2 (by have := B1.out.size; simpa using this) (by intro j hj; cases hj; exact lg)
        have R2 := (R1.out.below (below_drewN _ _)).kept g2 nGC nGH
        have RS := rmstore_any c h ys s.at_ 8 s.raw y2 R2 hao.1 (by omega) (by decide) hno.1 hno.2
        have M2 : Hid (_) := m2
        clear m2 g2 CS R2
        go_wp2_with fail
        refine RS.mono ?_
        rintro e y3 ⟨rfl, r3, g3⟩
        have M3 := M2.out.kept g3 nHB nHG
        have B3 : Below W.heap.size W y3 := B2.out.grown g3 B2.out.size (by intro j hj; cases hj; omega)
        have M4 : MM y3 b g (memOf (ss.take (k + 1))) := by rw [HN.out]; unfold memF; rw [HN2.out]; exact M3
        clear RS M3 M2
        go_wp2_with fail
        go_roundw
        case rel => exact ⟨k + 1, _, by omega, by go_num, M4, r3, B3⟩
        case measure => simp [intOf]; omega
      · have HN2 : Hid (s.num = s.raw) := hn
        subst hp
        rw [hn] at CS hno
        clear HV hn
        go_wp2_with fail
        go_quiet (fail)
        go_wp2_with fail
        refine (CS _ (M1.out.below (below_drewN _ _)) (HZ.out.below (B1.out.trans ((below_drewN _ _).mono B1.out.size)))).mono ?_
        rintro e y2 ⟨rfl, m2, g2⟩
        have B2 : Hid (Below W.heap.size W y2) := (B1.out.trans ((below_drewN _ _).mono B1.out.size)).grown g2 (by have := B1.out.size; simpa using this) (by intro j hj; cases hj; exact lg)
        have R2 := (R1.out.below (below_drewN _ _)).kept g2 nGC nGH
        have RS := rmstore_any c h ys s.at_ 8 s.raw y2 R2 hao.1 (by omega) (by decide) hno.1 hno.2
        have M2 : Hid (_) := m2
        clear m2 g2 CS R2
        go_wp2_with fail
        refine RS.mono ?_
        rintro e y3 ⟨rfl, r3, g3⟩
        have M3 := M2.out.kept g3 nHB nHG
        have B3 : Below W.heap.size W y3 := B2.out.grown g3 B2.out.size (by intro j hj; cases hj; omega)
        have M4 : MM y3 b g (memOf (ss.take (k + 1))) := by rw [HN.out]; unfold memF; rw [HN2.out]; exact M3
        clear RS M3 M2
        go_wp2_with fail
        go_roundw
        case rel => exact ⟨k + 1, _, by omega, by go_num, M4, r3, B3⟩
        case measure => simp [intOf]; omega
      · have HN2 : Hid (s.num = pn) := hn
        subst hp
        rw [hr] at p10
        rw [hn] at CS hno
        clear HV hn
        go_wp2_with fail
        go_quiet (fail)
        go_wp2_with fail
        refine (CS _ (M1.out.below (below_drewN _ _)) (HZ.out.below (B1.out.trans ((below_drewN _ _).mono B1.out.size)))).mono ?_
        rintro e y2 ⟨rfl, m2, g2⟩
        have B2 : Hid (Below W.heap.size W y2) := (B1.out.trans ((below_drewN _ _).mono B1.out.size)).grown g2 (by have := B1.out.size; simpa using this) (by intro j hj; cases hj; exact lg)
        have R2 := (R1.out.below (below_drewN _ _)).kept g2 nGC nGH
        have RS := rmstore_any c h ys s.at_ 8 pn y2 R2 hao.1 (by omega) (by decide) hno.1 hno.2
        have M2 : Hid (_) := m2
        clear m2 g2 CS R2
        go_wp2_with fail
        refine RS.mono ?_
        rintro e y3 ⟨rfl, r3, g3⟩
        have M3 := M2.out.kept g3 nHB nHG
        have B3 : Below W.heap.size W y3 := B2.out.grown g3 B2.out.size (by intro j hj; cases hj; omega)
        have M4 : MM y3 b g (memOf (ss.take (k + 1))) := by rw [HN.out]; unfold memF; rw [HN2.out]; exact M3
        clear RS M3 M2
        go_wp2_with fail
        go_roundw
        case rel => exact ⟨k + 1, _, by omega, by go_num, M4, r3, B3⟩
        case measure => simp [intOf]; omega
    · obtain rfl : k = n := by omega
      have hall : ss.take k = ss := List.take_of_length_le (by have := hs.1; omega)
      rw [hall] at hmm
      go_wp2_with fail
      exact bodyPost_ret (v := .tuple #[.pointer (some ⟨b, 0, none⟩), .pointer (some ⟨c, 0, none⟩), .bool true]) (by simp [results, Tryd.results5, go_sem]) rfl ⟨b, g, c, rfl, hmm, hb⟩
end Go.Proofs.YtbaagnfcdphddaaDoor
