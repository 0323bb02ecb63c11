/-
  The walk of VcpuForeign.
-/
import Derived.Test.YtjkaeclemflifaaVh
namespace Go.Proofs.Ytjkaeclemflifaa
open Go.RowKit
set_option linter.unusedVariables false
set_option maxRecDepth 100000
theorem and_low (v m : Int) (k : Nat) (hk : (BitVec.ofInt 64 m).toNat = k) (hb : k < 9223372036854775808) : ∃ i : Nat, i ≤ k ∧ bits .and .i64 v m = (i : Int) := by
  refine ⟨(BitVec.ofInt 64 v &&& BitVec.ofInt 64 m).toNat, ?_, ?_⟩
  · rw [BitVec.toNat_and, hk]
    exact Nat.and_le_right
  · show IntKind.i64.wrap ((BitVec.ofInt 64 v &&& BitVec.ofInt 64 m).toNat : Int) = _
    have h : (BitVec.ofInt 64 v &&& BitVec.ofInt 64 m).toNat ≤ k := by rw [BitVec.toNat_and, hk]; exact Nat.and_le_right
    rw [IntKind.wrap_i64]
    omega
/-- a machine's own blocks, all told -/
structure Mn where
  M : Nat
  mb : Nat
  cr : Nat
  o : Nat → Nat
def Ms (w : World) (a : Mn) (n f : Nat) (x : Nat → Value) : Prop := MS w a.M a.mb a.cr n f a.o x
def Mn.own (a : Mn) (n k : Nat) : Prop := Ytjkaeclemflifaa.own a.M a.mb a.cr n a.o k
theorem MS.lts {w : World} {M mb cr n f : Nat} {o : Nat → Nat} {x : Nat → Value} (h : MS w M mb cr n f o x) : ∀ k, own M mb cr n o k → k < w.heap.size := by
  obtain ⟨g, hg⟩ := h.mm
  obtain ⟨rs, hr, _⟩ := h.row
  rintro k (rfl | rfl | rfl | ⟨i, hi, rfl⟩)
  · exact lt_of_heap h.mc
  · exact lt_of_heap hg
  · exact lt_of_heap hr
  · exact (h.co i hi).lt
/-- two machines, two virtual processors -/
structure F4 (w0 w : World) (a b : Mn) (x y : Nat → Value) (V F U G : Nat) (s t c d : Int) : Prop where
  m : MS w a.M a.mb a.cr 2 1 a.o x
  n : MS w b.M b.mb b.cr 2 1 b.o y
  v : VS w V 1 F 0 s c (newN 0)
  u : VS w U 1 G 1 t d (newN 0)
  f : FF w F (newP 0)
  g : FF w G (newP 1)
  ne : F ≠ G
  vu : V ≠ U
  ap : ∀ k, a.own 2 k → ¬ b.own 2 k
  bl : Below w0.heap.size w0 w
  wv : w0.heap.size ≤ V
  wu : w0.heap.size ≤ U
  wa : ∀ k, a.own 2 k → w0.heap.size ≤ k
  wb : ∀ k, b.own 2 k → w0.heap.size ≤ k
theorem FF.ob {w : World} {F : Nat} {R : Nat → Int} (h : FF w F R) : ∃ cs, w.heap[F]? = some (.cells cs 111 (0, 0)) := let ⟨cs, h, _⟩ := h.blk; ⟨cs, h⟩
section
variable {w0 w w' : World} {a b : Mn} {x y : Nat → Value} {V F U G : Nat} {s t c d : Int}
theorem F4.below (h : F4 w0 w a b x y V F U G s t c d) (hb : Below w.heap.size w w') : F4 w0 w' a b x y V F U G s t c d :=
  ⟨h.m.below hb, h.n.below hb, h.v.below hb, h.u.below hb, h.f.below hb, h.g.below hb, h.ne, h.vu, h.ap, h.bl.trans (hb.mono h.bl.size), h.wv, h.wu, h.wa, h.wb⟩
/-- the first is changed, on its machine -/
theorem F4.first (h : F4 w0 w a b x y V F U G s t c d) {i : Nat} (hi : i < 2) {x' : Nat → Value} {s' c' : Int} (hm : MS w' a.M a.mb a.cr 2 1 a.o x') (hv : VS w' V 1 F 0 s' c' (newN 0)) (ht : Trn (fun k => k = V ∨ k = a.o i) w w') : F4 w0 w' a b x' y V F U G s' t c' d := by
  obtain ⟨cs, hc⟩ := (h.m.co i hi).ob
  obtain ⟨fs, hf⟩ := h.f.ob
  obtain ⟨gs, hg⟩ := h.g.ob
  have ao : a.own 2 (a.o i) := .inr (.inr (.inr ⟨i, hi, rfl⟩))
  refine ⟨hm, h.n.keep fun k hk ho => ht.block k hk ?_, hv, h.u.keep (ht.block _ h.u.lt ?_), h.f.keep (ht.block _ h.f.lt ?_), h.g.keep (ht.block _ h.g.lt ?_), h.ne, h.vu, h.ap, h.bl.trans (ht.below h.bl.size ?_), h.wv, h.wu, h.wa, h.wb⟩
  · rintro (rfl | rfl)
    · exact h.n.vs h.v ho
    · exact h.ap _ ao ho
  · rintro (e | e)
    · exact h.vu e.symm
    · exact ne_typ h.u hc (by decide) e
  · rintro (e | e)
    · exact ne_typ hf h.v (by decide) e
    · exact ne_typ hf hc (by decide) e
  · rintro (e | e)
    · exact ne_typ hg h.v (by decide) e
    · exact ne_typ hg hc (by decide) e
  · rintro k (rfl | rfl)
    · exact h.wv
    · exact h.wa _ ao
/-- the other way round -/
theorem F4.swapM (h : F4 w0 w a b x y V F U G s t c d) {i : Nat} (hi : i < 2) {y' : Nat → Value} {t' d' : Int} (hm : MS w' b.M b.mb b.cr 2 1 b.o y') (hv : VS w' U 1 G 1 t' d' (newN 0)) (ht : Trn (fun k => k = U ∨ k = b.o i) w w') : F4 w0 w' a b x y' V F U G s t' c d' := by
  obtain ⟨cs, hc⟩ := (h.n.co i hi).ob
  obtain ⟨fs, hf⟩ := h.f.ob
  obtain ⟨gs, hg⟩ := h.g.ob
  have ao : b.own 2 (b.o i) := .inr (.inr (.inr ⟨i, hi, rfl⟩))
  refine ⟨h.m.keep fun k hk ho => ht.block k hk ?_, hm, h.v.keep (ht.block _ h.v.lt ?_), hv, h.f.keep (ht.block _ h.f.lt ?_), h.g.keep (ht.block _ h.g.lt ?_), h.ne, h.vu, h.ap, h.bl.trans (ht.below h.bl.size ?_), h.wv, h.wu, h.wa, h.wb⟩
  · rintro (rfl | rfl)
    · exact h.m.vs h.u ho
    · exact h.ap _ ho ao
  · rintro (e | e)
    · exact h.vu e
    · exact ne_typ h.v hc (by decide) e
  · rintro (e | e)
    · exact ne_typ hf h.u (by decide) e
    · exact ne_typ hf hc (by decide) e
  · rintro (e | e)
    · exact ne_typ hg h.u (by decide) e
    · exact ne_typ hg hc (by decide) e
  · rintro k (rfl | rfl)
    · exact h.wu
    · exact h.wb _ ao
end
/-- what is made ahead of the two -/
theorem f4_new {w w1 w2 w3 w4 : World} {a b : Mn} {V F U G : Nat} (m1 : MS w1 a.M a.mb a.cr 2 1 a.o (fun _ => .pointer none)) (a1 : ∀ k, a.own 2 k → w.heap.size ≤ k) (b1 : Below w.heap.size w w1)
    (m2 : MS w2 b.M b.mb b.cr 2 1 b.o (fun _ => .pointer none)) (a2 : ∀ k, b.own 2 k → w1.heap.size ≤ k) (b2 : Below w1.heap.size w1 w2)
    (v : VS w3 V 1 F 0 1 (-1) (newN 0)) (f : FF w3 F (newP 0)) (l1 : w2.heap.size ≤ V) (b3 : Below w2.heap.size w2 w3)
    (u : VS w4 U 1 G 1 1 (-1) (newN 0)) (g : FF w4 G (newP 1)) (l3 : w3.heap.size ≤ U) (l4 : w3.heap.size ≤ G) (b4 : Below w3.heap.size w3 w4) :
    F4 w w4 a b (fun _ => .pointer none) (fun _ => .pointer none) V F U G 1 1 (-1) (-1) := by
  have s1 := b1.size
  have s2 := b2.size
  have s3 := b3.size
  have lv := v.lt
  have lf := f.lt
  refine ⟨((m1.below b2).below b3).below b4, (m2.below b3).below b4, v.below b4, u, f.below b4, g, by omega, by omega, fun k ha hb => ?_, ((b1.trans (b2.mono s1)).trans (b3.mono (by omega))).trans (b4.mono (by omega)), by omega, by omega, a1, fun k hk => by have := a2 k hk; omega⟩
  have := m1.lts k ha
  have := a2 k hb
  omega
set_option maxHeartbeats 3200000 in
theorem foreignWalk (core : Int) (w : World) : Calls Try.prog 6 #[.int .i64 core] w fun e w' => e = .returned (.bool true) ∧ Below w.heap.size w w' := by
  obtain ⟨i, hi, ei⟩ := and_low core 1 1 rfl (by decide)
  have hi2 : i < 2 := by omega
  have C1 := new_m 2 1 (by decide) (by decide) (by decide) (by decide) w
  go_enter Try.func6, Try.ntmps6
  go_wp2_with fail
  refine C1.mono ?_
  rintro e w1 ⟨M, mb, cr, o, rfl, m1, a1, b1⟩
  have H1 : Hid (_) := And.intro m1 (And.intro a1 b1)
  clear C1 m1 a1 b1
  have C2 := new_m 2 1 (by decide) (by decide) (by decide) (by decide) w1
  go_wp2_with fail
  refine C2.mono ?_
  rintro e w2 ⟨M', mb', cr', o', rfl, m2, a2, b2⟩
  have H2 : Hid (_) := And.intro m2 (And.intro a2 b2)
  clear C2 m2 a2 b2
  have C3 := vnew_yes 1 0 0 (by decide) (by decide) (by decide) (by decide) ⟨by decide, by decide⟩ w2
  go_wp2_with fail
  refine C3.mono ?_
  rintro e w3 ⟨V, F, rfl, v3, f3, l3, k3, b3⟩
  have C4 := vnew_yes 1 1 0 (by decide) (by decide) (by decide) (by decide) ⟨by decide, by decide⟩ w3
  have H3 : Hid (_) := And.intro v3 (And.intro f3 (And.intro l3 b3))
  clear C3 v3 f3 l3 k3 b3
  go_wp2_with fail
  refine C4.mono ?_
  rintro e w4 ⟨U, G, rfl, v4, f4, l4, k4, b4⟩
  have HS : Hid (F4 w w4 ⟨M, mb, cr, o⟩ ⟨M', mb', cr', o'⟩ (fun _ => .pointer none) (fun _ => .pointer none) V F U G 1 1 (-1) (-1)) := f4_new (a := ⟨M, mb, cr, o⟩) (b := ⟨M', mb', cr', o'⟩) H1.out.1 H1.out.2.1 H1.out.2.2 H2.out.1 H2.out.2.1 H2.out.2.2 H3.out.1 H3.out.2.1 H3.out.2.2.1 H3.out.2.2.2 v4 f4 l4 k4 b4
  clear H1 H2 H3 C4 v4 f4 l4 k4 b4
  have E1 := enter_yes HS.out.m HS.out.v HS.out.f (by decide) (by decide) (by decide) i hi2 rfl
  go_wp2_with fail
  try rw [ei]
  refine E1.mono ?_
  rintro e w5 ⟨rfl, ⟨cb, _, c5, m5⟩, v5, t5⟩
  have HS5 : Hid (F4 w w5 ⟨M, mb, cr, o⟩ ⟨M', mb', cr', o'⟩ (tx (fun _ => .pointer none) i (.pointer (some ⟨cb, 0, none⟩))) (fun _ => .pointer none) V F U G 2 1 i (-1)) := HS.out.first hi2 m5 v5 t5
  have HC5 : Hid (CX w5 cb 1 (newN 0) F) := c5
  clear HS E1 c5 m5 v5 t5
  have E2 := enter_yes HS5.out.n HS5.out.u HS5.out.g (by decide) (by decide) (by decide) i hi2 rfl
  go_wp2_with fail
  refine E2.mono ?_
  rintro e w6 ⟨rfl, ⟨cb', _, c6, m6⟩, v6, t6⟩
  have HS6 : Hid (F4 w w6 ⟨M, mb, cr, o⟩ ⟨M', mb', cr', o'⟩ (tx (fun _ => .pointer none) i (.pointer (some ⟨cb, 0, none⟩))) (tx (fun _ => .pointer none) i (.pointer (some ⟨cb', 0, none⟩))) V F U G 2 2 i i) := HS5.out.swapM hi2 m6 v6 t6
  have HC6 : Hid (CX w6 cb 1 (newN 0) F ∧ CX w6 cb' 1 (newN 0) G) := by
    refine ⟨(t6.block _ (lt_of_heap HC5.out) ?_).trans HC5.out, c6⟩
    obtain ⟨cs, hc⟩ := (HS5.out.n.co i hi2).ob
    rintro (e | e)
    · exact ne_typ HC5.out HS5.out.u (by decide) e
    · exact ne_typ HC5.out hc (by decide) e
  clear HS5 HC5 E2 c6 m6 v6 t6
  have xi : ∀ q : Value, tx (fun _ => .pointer none) i q i = q := fun q => by simp [tx]
  have L1 := leave_foreign HS6.out.n i hi2 cb' (xi _) HC6.out.2 HS6.out.ne HS6.out.f HS6.out.g HS6.out.v
  go_wp2_with fail
  refine L1.mono ?_
  rintro e w7 ⟨rfl, b7⟩
  have HS7 : Hid (_) := HS6.out.below b7
  have HC7 : Hid (CX w7 cb 1 (newN 0) F ∧ CX w7 cb' 1 (newN 0) G) := ⟨keepB HC6.out.1 b7, keepB HC6.out.2 b7⟩
  clear HS6 HC6 L1 b7
  have L2 := leave_foreign HS7.out.m i hi2 cb (xi _) HC7.out.1 (fun e => HS7.out.ne e.symm) HS7.out.g HS7.out.f HS7.out.u
  go_wp2_with fail
  refine L2.mono ?_
  rintro e w8 ⟨rfl, b8⟩
  have HS8 : Hid (_) := HS7.out.below b8
  have HC8 : Hid (CX w8 cb 1 (newN 0) F ∧ CX w8 cb' 1 (newN 0) G) := ⟨keepB HC7.out.1 b8, keepB HC7.out.2 b8⟩
  clear HS7 HC7 L2 b8
  have hw : W18 (newN 0) := newN_w ⟨by decide, by decide⟩
  have L3 := leave_own HS8.out.m i hi2 cb (xi _) hw HC8.out.1 HS8.out.v
  go_wp2_with fail
  refine L3.mono ?_
  rintro e w9 ⟨rfl, m9, v9, t9⟩
  have HS9 : Hid (_) := HS8.out.first hi2 m9 v9 t9
  have HC9 : Hid (CX w9 cb' 1 (newN 0) G) := by
    refine (t9.block _ (lt_of_heap HC8.out.2) ?_).trans HC8.out.2
    obtain ⟨cs, hc⟩ := (HS8.out.m.co i hi2).ob
    rintro (e | e)
    · exact ne_typ HC8.out.2 HS8.out.v (by decide) e
    · exact ne_typ HC8.out.2 hc (by decide) e
  clear HS8 HC8 L3 m9 v9 t9
  have L4 := leave_own HS9.out.n i hi2 cb' (xi _) hw HC9.out HS9.out.u
  go_wp2_with fail
  refine L4.mono ?_
  rintro e w10 ⟨rfl, m10, v10, t10⟩
  have HS10 : Hid (_) := HS9.out.swapM hi2 m10 v10 t10
  have HB : Hid (Below w.heap.size w w10) := HS10.out.bl
  clear HS9 HC9 L4 m10 v10 t10 HS10
  go_wp2_with fail
  go_ret
  exact ⟨rfl, HB.out⟩
end Go.Proofs.Ytjkaeclemflifaa
