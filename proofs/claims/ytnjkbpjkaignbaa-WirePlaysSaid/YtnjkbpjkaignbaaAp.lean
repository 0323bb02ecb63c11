/-
  Two wires in one world, with a call that came in: what each call does, as WireApart asks it.
-/
import Derived.Test.YtnjkbpjkaignbaaSn
import Derived.Test.YtnjkbpjkaignbaaNw
import Derived.Test.YtnjkbpjkaignbaaOpens
namespace Go.Proofs.Ytnjkbpjkaignbaa
open Go.RowKit
set_option linter.unusedVariables false
set_option maxRecDepth 20000

/-- two wires have no block together -/
def Apt (b n : Nat) (C : Nat → Nat) (b2 n2 : Nat) (C2 : Nat → Nat) : Prop := b ≠ b2 ∧ ∀ i j, i < n → j < n2 → C i ≠ C2 j
theorem WX.apart {B B2 : Nat} {w w' : World} {l b n : Nat} {C : Nat → Nat} {Gr : Nat → Int} {A : Nat → List (Int × List Int)} {N : Nat → Prop} {l2 b2 n2 : Nat} {C2 : Nat → Nat} {G2 : Nat → Int} {A2 : Nat → List (Int × List Int)} {N2 : Nat → Prop}
    (h : WX B w l b n C Gr A N) (h2 : WX B2 w l2 b2 n2 C2 G2 A2 N2) (hb : b ≠ b2) (hc : ∀ i j, i < n → j < n2 → C i ≠ C2 j) (ht : Trn (WS b2 n2 C2) w w') : WX B w' l b n C Gr A N := by
  obtain ⟨Q, h, e⟩ := h
  obtain ⟨Q2, h2, e2⟩ := h2
  refine ⟨Q, h.keep ht.size fun k hk hs => ht.block k hk ?_, e⟩
  obtain ⟨cur, r1, _⟩ := h.rows
  obtain ⟨cur2, r2, _⟩ := h2.rows
  have no : ∀ {c : Array Value} {t : TypeId} {q : Nat}, w.heap[q]? = some (.cells c t (0, 0)) → q ≠ b2 → ¬ WS b2 n2 C2 q := fun hq hn hs => by
    rcases hs with hs | ⟨j, hj, rfl⟩
    · exact hn hs
    · obtain ⟨s, r, hcc⟩ := h2.ch j hj
      exact ne_chan hq hcc rfl
  rcases hs with rfl | (rfl | ⟨i, hi, rfl⟩) | ⟨i, hi, m, hm, rfl⟩
  · exact no h.ob (ne_typ h.ob r2 (by decide))
  · exact no r1 hb
  · rintro (hs | ⟨j, hj, hs⟩)
    · obtain ⟨s, r, hcc⟩ := h.ch i hi
      exact ne_chan r2 hcc hs.symm
    · exact hc i j hi hj hs
  · exact no (h.bl i hi m hm).1 (ne_typ (h.bl i hi m hm).1 r2 (by decide))
/-- the wire's blocks are no cells of other types -/
theorem WX.notyp {B : Nat} {w : World} {l b n : Nat} {C : Nat → Nat} {Gr : Nat → Int} {A : Nat → List (Int × List Int)} {N : Nat → Prop} (h : WX B w l b n C Gr A N) {k : Nat} {c : Array Value} {t : TypeId} (hk : w.heap[k]? = some (.cells c t (0, 0))) (ht : t ≠ 67) : ¬ WS b n C k := by
  obtain ⟨Q, h, e⟩ := h
  obtain ⟨cur, r1, _⟩ := h.rows
  rintro (rfl | ⟨i, hi, rfl⟩)
  · exact ne_typ hk r1 ht rfl
  · obtain ⟨s, r, hcc⟩ := h.ch i hi
    exact ne_chan hk hcc rfl
/-- the groups of WireApart -/
def g4 (i : Nat) : Int := [(1 : Int), 2, 1, 2].getD i 0
/-- both wires in one world, and the call -/
structure AX (w y : World) (l b : Nat) (C : Nat → Nat) (l2 b2 : Nat) (C2 : Nat → Nat) (A : Nat) (x : Ac) (ys : List Int) (S T : Nat → List (Int × List Int)) : Prop where
  x1 : WX w.heap.size y l b 4 C g4 S (fun _ => False)
  x2 : WX w.heap.size y l2 b2 4 C2 g4 T (fun _ => False)
  nb : b ≠ b2
  nc : ∀ i j, i < 4 → j < 4 → C i ≠ C2 j
  bel : Below w.heap.size w y
  act : y.heap[A]? = some (.cells x.cs.toArray 34 (0, 0))
  sl : SL y x.a x.len ys
section
variable {w y y' : World} {l b : Nat} {C : Nat → Nat} {l2 b2 : Nat} {C2 : Nat → Nat} {A : Nat} {x : Ac} {ys : List Int} {S T S' T' : Nat → List (Int × List Int)}
theorem AX.cells (h : AX w y l b C l2 b2 C2 A x ys S T) : y.cell? ⟨A, 0, none⟩ = some (.int .i64 x.kd) ∧ y.cell? ⟨A, 1, none⟩ = some (.int .i64 x.fr) ∧ y.cell? ⟨A, 2, none⟩ = some (.int .i64 x.to) ∧ y.cell? ⟨A, 3, none⟩ = some (.slice x.a x.len x.cap) ∧ A < y.heap.size := by
  have := h.act
  exact ⟨by rw [cell_at this]; rfl, by rw [cell_at this]; rfl, by rw [cell_at this]; rfl, by rw [cell_at this]; rfl, lt_of_heap this⟩
theorem AX.below (h : AX w y l b C l2 b2 C2 A x ys S T) (hb : Below y.heap.size y y') : AX w y' l b C l2 b2 C2 A x ys S T :=
  ⟨h.x1.below hb, h.x2.below hb, h.nb, h.nc, h.bel.trans (hb.mono h.bel.size), (hb.block A (lt_of_heap h.act)).trans h.act, h.sl.below hb⟩
theorem AX.drew (h : AX w y l b C l2 b2 C2 A x ys S T) : AX w y.drew l b C l2 b2 C2 A x ys S T := h.below ⟨rfl, rfl, rfl, Nat.le_refl _, fun _ _ => rfl⟩
theorem AX.turn1 (h : AX w y l b C l2 b2 C2 A x ys S T) (hx : WX w.heap.size y' l b 4 C g4 S' (fun _ => False)) (ht : Trn (WS b 4 C) y y') : AX w y' l b C l2 b2 C2 A x ys S' T :=
  ⟨hx, h.x2.apart h.x1 h.nb.symm (fun i j hi hj e => h.nc j i hj hi e.symm) ht, h.nb, h.nc, h.bel.trans (h.x1.to ht), (ht.block A (lt_of_heap h.act) (h.x1.notyp h.act (by decide))).trans h.act, h.sl.trn (fun k o z hc => h.x1.u8 hc) ht⟩
theorem AX.turn2 (h : AX w y l b C l2 b2 C2 A x ys S T) (hx : WX w.heap.size y' l2 b2 4 C2 g4 T' (fun _ => False)) (ht : Trn (WS b2 4 C2) y y') : AX w y' l b C l2 b2 C2 A x ys S T' :=
  ⟨h.x1.apart h.x2 h.nb h.nc ht, hx, h.nb, h.nc, h.bel.trans (h.x2.to ht), (ht.block A (lt_of_heap h.act) (h.x2.notyp h.act (by decide))).trans h.act, h.sl.trn (fun k o z hc => h.x2.u8 hc) ht⟩
theorem AX.send1 (h : AX w y l b C l2 b2 C2 A x ys S T) (i to : Int) :
    Calls Try.prog 10 #[.pointer (some ⟨l, 0, none⟩), .int .i64 i, .int .i64 to, .slice x.a x.len x.cap] y fun e y' => e = .returned (.tuple #[.int .i64 (sndR 4 g4 S i to ys.length).1, .int .i64 (sndR 4 g4 S i to ys.length).2]) ∧ AX w y' l b C l2 b2 C2 A x ys (sndA 4 g4 S i to ys) T := by
  have hs := h.sl
  have e := hs.1
  rw [← e] at hs ⊢
  exact (send_any h.x1 i to x.a x.cap ys hs).mono fun r y' ⟨he, hx, ht⟩ => ⟨he, h.turn1 hx ht⟩
theorem AX.send2 (h : AX w y l b C l2 b2 C2 A x ys S T) (i to : Int) :
    Calls Try.prog 10 #[.pointer (some ⟨l2, 0, none⟩), .int .i64 i, .int .i64 to, .slice x.a x.len x.cap] y fun e y' => e = .returned (.tuple #[.int .i64 (sndR 4 g4 T i to ys.length).1, .int .i64 (sndR 4 g4 T i to ys.length).2]) ∧ AX w y' l b C l2 b2 C2 A x ys S (sndA 4 g4 T i to ys) := by
  have hs := h.sl
  have e := hs.1
  rw [← e] at hs ⊢
  exact (send_any h.x2 i to x.a x.cap ys hs).mono fun r y' ⟨he, hx, ht⟩ => ⟨he, h.turn2 hx ht⟩
theorem AX.rnone1 (h : AX w y l b C l2 b2 C2 A x ys S T) {j : Nat} (hj : j < 4) (hq : S j = []) :
    Calls Try.prog 14 #[.pointer (some ⟨l, 0, none⟩), .int .i64 j] y fun e y' => e = .returned (.tuple #[z42, .bool false]) ∧ AX w y' l b C l2 b2 C2 A x ys S T :=
  (xreceive_none h.x1 hj hq).mono fun e y' ⟨he, hb⟩ => ⟨he, h.below hb⟩
theorem AX.rnone2 (h : AX w y l b C l2 b2 C2 A x ys S T) {j : Nat} (hj : j < 4) (hq : T j = []) :
    Calls Try.prog 14 #[.pointer (some ⟨l2, 0, none⟩), .int .i64 j] y fun e y' => e = .returned (.tuple #[z42, .bool false]) ∧ AX w y' l b C l2 b2 C2 A x ys S T ∧ Below y.heap.size y y' :=
  (xreceive_none h.x2 hj hq).mono fun e y' ⟨he, hb⟩ => ⟨he, h.below hb, hb⟩
theorem sl_row {y : World} {X : Nat} {bs : List Int} (h : y.heap[X]? = some (.cells (bv bs) 5 (0, 0))) (hB : Bytes bs) : SL y (some ⟨X, 0, none⟩) bs.length bs :=
  ⟨rfl, hB, .inr ⟨X, 0, rfl, lt_of_heap h, fun i hi => by rw [cell_at h]; simp [bv, hi]⟩⟩
theorem AX.rsome1 (h : AX w y l b C l2 b2 C2 A x ys S T) {j : Nat} (hj : j < 4) (fr : Int) (bs : List Int) (q : List (Int × List Int)) (hq : S j = (fr, bs) :: q) :
    Calls Try.prog 14 #[.pointer (some ⟨l, 0, none⟩), .int .i64 j] y fun e y' => ∃ X, e = .returned (.tuple #[.agg #[.int .i64 fr, .slice (some ⟨X, 0, none⟩) bs.length bs.length], .bool true]) ∧ AX w y' l b C l2 b2 C2 A x ys (upd S j q) T ∧ SL y' (some ⟨X, 0, none⟩) bs.length bs :=
  (xreceive_some h.x1 hj fr bs q hq).mono fun e y' ⟨X, he, hx, ht, hX, _, _, _, hB⟩ => ⟨X, he, h.turn1 (hx.less fun k hk => hk.elim) ht, sl_row hX hB⟩
theorem AX.rsome2 (h : AX w y l b C l2 b2 C2 A x ys S T) {j : Nat} (hj : j < 4) (fr : Int) (bs : List Int) (q : List (Int × List Int)) (hq : T j = (fr, bs) :: q) :
    Calls Try.prog 14 #[.pointer (some ⟨l2, 0, none⟩), .int .i64 j] y fun e y' => ∃ X, e = .returned (.tuple #[.agg #[.int .i64 fr, .slice (some ⟨X, 0, none⟩) bs.length bs.length], .bool true]) ∧ AX w y' l b C l2 b2 C2 A x ys S (upd T j q) ∧ SL y' (some ⟨X, 0, none⟩) bs.length bs ∧ Trn (WS b2 4 C2) y y' :=
  (xreceive_some h.x2 hj fr bs q hq).mono fun e y' ⟨X, he, hx, ht, hX, _, _, _, hB⟩ => ⟨X, he, h.turn2 (hx.less fun k hk => hk.elim) ht, sl_row hX hB, ht⟩
end
/-- what both wires have together -/
structure Rel (S T : Nat → List (Int × List Int)) : Prop where
  e0 : S 0 = T 0
  e2 : S 2 = T 2
  v0 : ∀ m ∈ S 0, m.1 = 0 ∨ m.1 = 2
  v2 : ∀ m ∈ S 2, m.1 = 0 ∨ m.1 = 2
theorem mem_add {q : List (Int × List Int)} {m : Int × List Int} (h : ∀ m ∈ q, m.1 = 0 ∨ m.1 = 2) (hm : m.1 = 0 ∨ m.1 = 2) : ∀ k ∈ addA q m, k.1 = 0 ∨ k.1 = 2 := by
  intro k hk
  unfold addA at hk
  split at hk
  · rcases List.mem_append.1 hk with h' | h'
    · exact h k h'
    · have : k = m := by simpa using h'
      rw [this]; exact hm
  · exact h k hk
theorem g4_0 : g4 0 = 1 := rfl
theorem g4_1 : g4 1 = 2 := rfl
theorem g4_2 : g4 2 = 1 := rfl
theorem g4_3 : g4 3 = 2 := rfl
/-- a port of the other group sends -/
theorem snd_odd (S : Nat → List (Int × List Int)) (i : Nat) (hi : i = 1 ∨ i = 3) (to : Int) (h1 : -1 ≤ to) (h2 : to ≤ 3) (bs : List Int) : sndA 4 g4 S i to bs 0 = S 0 ∧ sndA 4 g4 S i to bs 2 = S 2 := by
  obtain rfl | rfl | rfl | rfl | rfl : to = -1 ∨ to = 0 ∨ to = 1 ∨ to = 2 ∨ to = 3 := by omega
  all_goals
    rcases hi with rfl | rfl
    all_goals
      by_cases hm : 2048 < bs.length
      all_goals
        simp [sndA, mayE, hm, g4_0, g4_1, g4_2, g4_3, allA, upd]
theorem snd_even {S T : Nat → List (Int × List Int)} (h : Rel S T) (i : Nat) (hi : i = 0 ∨ i = 2) (to : Int) (h1 : -1 ≤ to) (h2 : to ≤ 3) (bs : List Int) : sndR 4 g4 S i to bs.length = sndR 4 g4 T i to bs.length ∧ Rel (sndA 4 g4 S i to bs) (sndA 4 g4 T i to bs) := by
  obtain ⟨e0, e2, v0, v2⟩ := h
  have hi' : (i : Int) = 0 ∨ (i : Int) = 2 := by omega
  have w0 := mem_add (m := ((i : Int), bs)) v0 hi'
  have w2 := mem_add (m := ((i : Int), bs)) v2 hi'
  obtain rfl | rfl | rfl | rfl | rfl : to = -1 ∨ to = 0 ∨ to = 1 ∨ to = 2 ∨ to = 3 := by omega
  all_goals
    rcases hi with rfl | rfl
    all_goals
      by_cases hm : 2048 < bs.length
      all_goals
        refine ⟨by simp [sndR, mayE, hm, g4_0, g4_1, g4_2, g4_3, allN, e0, e2], ⟨?_, ?_, ?_, ?_⟩⟩
        all_goals
          simp [sndA, mayE, hm, g4_0, g4_1, g4_2, g4_3, allA, upd]
          first
            | exact e0
            | exact e2
            | (rw [e0]; done)
            | (rw [e2]; done)
            | (intro a b hab; exact v0 (a, b) hab)
            | (intro a b hab; exact v2 (a, b) hab)
            | (intro a b hab; exact w0 (a, b) hab)
            | (intro a b hab; exact w2 (a, b) hab)
theorem Rel.odd {S T S' : Nat → List (Int × List Int)} (h : Rel S T) (h0 : S' 0 = S 0) (h2 : S' 2 = S 2) : Rel S' T :=
  ⟨h0.trans h.e0, h2.trans h.e2, h0 ▸ h.v0, h2 ▸ h.v2⟩
theorem Rel.pop {S T : Nat → List (Int × List Int)} (h : Rel S T) {j : Nat} (hj : j = 0 ∨ j = 2) (m : Int × List Int) (q : List (Int × List Int)) (hq : S j = m :: q) : T j = m :: q ∧ (m.1 = 0 ∨ m.1 = 2) ∧ Rel (upd S j q) (upd T j q) := by
  obtain ⟨e0, e2, v0, v2⟩ := h
  rcases hj with rfl | rfl
  · rw [hq] at v0
    exact ⟨e0 ▸ hq, v0 m (by simp), ⟨by rw [upd_self, upd_self], by rw [upd_other _ _ _ (by decide), upd_other _ _ _ (by decide)]; exact e2, by rw [upd_self]; exact fun k hk => v0 k (by simp [hk]), by rw [upd_other _ _ _ (by decide)]; exact v2⟩⟩
  · rw [hq] at v2
    exact ⟨e2 ▸ hq, v2 m (by simp), ⟨by rw [upd_other _ _ _ (by decide), upd_other _ _ _ (by decide)]; exact e0, by rw [upd_self, upd_self], by rw [upd_other _ _ _ (by decide)]; exact v0, by rw [upd_self]; exact fun k hk => v2 k (by simp [hk])⟩⟩
end Go.Proofs.Ytnjkbpjkaignbaa
