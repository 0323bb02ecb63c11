/-
  The program's wire and the document's in one world, with a call that came in.
-/
import Derived.Test.YtnjkbpjkaignbaaAp
import Derived.Test.YtnjkbpjkaignbaaRg
import Derived.Test.YtnjkbpjkaignbaaRn
namespace Go.Proofs.Ytnjkbpjkaignbaa
open Go.RowKit
set_option linter.unusedVariables false
set_option maxRecDepth 20000

/-- a row of bytes -/
def FL (w : World) (X n : Nat) : Prop := ∃ cur, w.heap[X]? = some (.cells cur 5 (0, 0)) ∧ ∀ i, i < n → ∃ z : Int, cur[i]? = some (.int .u8 z)
theorem FL.at {y : World} {X n : Nat} (hf : FL y X n) (i : Nat) (hi : i < n) : (∃ z : Int, y.cell? ⟨X, i, none⟩ = some (.int .u8 z)) ∧ y.frozen? ⟨X, i, none⟩ = false ∧ X < y.heap.size := by
  obtain ⟨cur, h1, h2⟩ := hf
  obtain ⟨z, hz⟩ := h2 i hi
  exact ⟨⟨z, (cell_at h1 i).trans hz⟩, by simp [World.frozen?, h1], lt_of_heap h1⟩
theorem FL.set {y : World} {X n : Nat} (hf : FL y X n) (i : Nat) (hi : i < n) (z : Int) : FL (y.setCell ⟨X, i, none⟩ (.int .u8 z)) X n ∧ y.grownBy (y.setCell ⟨X, i, none⟩ (.int .u8 z)) (some X) := by
  obtain ⟨cur, h1, h2⟩ := hf
  have e := setCell_eq_setRow y X i cur 5 (0, 0) (.int .u8 z) h1
  rw [e]
  refine ⟨⟨_, setRow_heap y X _ _ 5 _ h1, fun k hk => ?_⟩, ⟨rfl, rfl, rfl, by simp [World.setRow], fun k hk hne => setRow_other y X k _ (fun e => hne (by rw [e]))⟩⟩
  obtain ⟨z0, hz0⟩ := h2 k hk
  by_cases e : k = i
  · subst e
    have hl : k < cur.size := by
      rcases Nat.lt_or_ge k cur.size with h | h
      · exact h
      · rw [Array.getElem?_eq_none h] at hz0; cases hz0
    exact ⟨z, by simp [hl]⟩
  · exact ⟨z0, by rw [Array.getElem?_setIfInBounds_ne (Ne.symm e)]; exact hz0⟩
theorem FL.keep {y y' : World} {X n : Nat} (hf : FL y X n) (hk : y'.heap[X]? = y.heap[X]?) : FL y' X n := by
  obtain ⟨cur, h1, h2⟩ := hf
  exact ⟨cur, hk.trans h1, h2⟩
theorem FL.of_row {y : World} {X : Nat} {ys : List Int} (hr : y.heap[X]? = some (.cells (ys.map (Value.int .u8)).toArray 5 (0, 0))) : FL y X ys.length :=
  ⟨_, hr, fun i hi => ⟨ys[i], by simp [List.getElem?_eq_getElem hi]⟩⟩
theorem FL.lt {y : World} {X n : Nat} (hf : FL y X n) : X < y.heap.size := by
  obtain ⟨cur, h1, _⟩ := hf
  exact lt_of_heap h1
theorem own_fl {w1 : World} {base n : Nat} {v1 : Value} {ys : List Int} (hown : w1.ownsRow base 5 1 v1 (0 + n) (([] ++ ys).map (Value.int .u8))) (hb : Bytes ys) (hy : ys.length = n) :
    ∃ a1 c1, v1 = .slice a1 n c1 ∧ SL w1 a1 n ys ∧ n ≤ c1 ∧ c1 ≤ maxLen ∧ (n = 0 ∨ ∃ X, a1 = some ⟨X, 0, none⟩ ∧ base ≤ X ∧ FL w1 X n) := by
  rw [Nat.zero_add, List.nil_append] at hown
  rcases hown.2 with ⟨rfl, h0⟩ | ⟨g, cap, cur, rfl, hbg, hg, hnc, hcm, hcs, htake⟩
  · subst h0
    obtain rfl : ys = [] := List.eq_nil_of_length_eq_zero hy
    exact ⟨none, 0, rfl, ⟨rfl, by intro i; simp, .inl rfl⟩, Nat.le_refl _, by decide, .inl rfl⟩
  · refine ⟨_, cap, rfl, SL.own hown hb, hnc, hcm, .inr ⟨g, rfl, hbg, cur, hg, fun i hi => ?_⟩⟩
    have e : (cur.toList.take (n * 1))[i]? = (ys.map (Value.int .u8))[i]? := by rw [htake]
    rw [List.getElem?_take_of_lt (by omega)] at e
    exact ⟨ys[i], by rw [← Array.getElem?_toList, e]; simp [List.getElem?_eq_getElem (show i < ys.length by omega)]⟩

/-- a byte of a row is written: rows stay rows -/
theorem FL.other {y : World} {X Y m n : Nat} (hf : FL y X m) (hg : FL y Y n) (i : Nat) (hi : i < m) (z : Int) : FL (y.setCell ⟨X, i, none⟩ (.int .u8 z)) Y n ∧ Trn (fun k => k = X) y (y.setCell ⟨X, i, none⟩ (.int .u8 z)) := by
  obtain ⟨cur, h1, h2⟩ := hf
  have ht := trn_setCell (fun k => k = X) h1 rfl i (.int .u8 z)
  refine ⟨?_, ht⟩
  by_cases e : Y = X
  · subst e
    obtain ⟨cur', g1, g2⟩ := hg
    obtain rfl : cur = cur' := by rw [h1] at g1; simpa using g1
    have hh := setRow_heap y Y cur (cur.setIfInBounds i (.int .u8 z)) 5 _ h1
    rw [← setCell_eq_setRow y Y i cur 5 (0, 0) (.int .u8 z) h1] at hh
    refine ⟨_, hh, fun k hk => ?_⟩
    obtain ⟨z0, hz0⟩ := g2 k hk
    rw [Array.getElem?_setIfInBounds]
    by_cases e : i = k
    · subst e
      have hl : i < cur.size := by
        rcases Nat.lt_or_ge i cur.size with h | h
        · exact h
        · rw [Array.getElem?_eq_none h] at hz0; cases hz0
      exact ⟨z, by simp [hl]⟩
    · exact ⟨z0, by simp [e, hz0]⟩
  · exact hg.keep (ht.block Y hg.lt e)
structure PX (w y : World) (B2 l b : Nat) (C : Nat → Nat) (r g d n gc A : Nat) (x : Ac) (ba : Option Addr) (G : Nat → Int) (S : Nat → List (Int × List Int)) (H : Nat → Int) (T : Nat → List (Int × List Int)) (N : Nat → Prop) : Prop where
  wx : WX w.heap.size y l b n C G S N
  rz : RZ B2 y r g d n gc H T
  bel : Below w.heap.size w y
  b2 : w.heap.size ≤ B2
  act : y.heap[A]? = some (.cells x.cs.toArray 34 (0, 0))
  fl : x.len = 0 ∨ ∃ X, ba = some ⟨X, 0, none⟩ ∧ w.heap.size ≤ X ∧ FL y X x.len ∧ N X
section
variable {w y y' : World} {B2 l b : Nat} {C : Nat → Nat} {r g d n gc A : Nat} {x : Ac} {ba : Option Addr} {G : Nat → Int} {S : Nat → List (Int × List Int)} {H : Nat → Int} {T : Nat → List (Int × List Int)} {N : Nat → Prop} {G' : Nat → Int} {S' : Nat → List (Int × List Int)} {H' : Nat → Int} {T' : Nat → List (Int × List Int)} {N' : Nat → Prop} {ys : List Int}
theorem PX.cells (h : PX w y B2 l b C r g d n gc A x ba G S H T N) : y.cell? ⟨A, 0, none⟩ = some (.int .i64 x.kd) ∧ y.cell? ⟨A, 1, none⟩ = some (.int .i64 x.fr) ∧ y.cell? ⟨A, 2, none⟩ = some (.int .i64 x.to) ∧ y.cell? ⟨A, 3, none⟩ = some (.slice x.a x.len x.cap) ∧ A < y.heap.size := by
  have := h.act
  exact ⟨by rw [cell_at this]; rfl, by rw [cell_at this]; rfl, by rw [cell_at this]; rfl, by rw [cell_at this]; rfl, lt_of_heap this⟩
theorem PX.below (h : PX w y B2 l b C r g d n gc A x ba G S H T N) (hb : Below y.heap.size y y') : PX w y' B2 l b C r g d n gc A x ba G S H T N :=
  ⟨h.wx.below hb, h.rz.below hb, h.bel.trans (hb.mono h.bel.size), h.b2, (hb.block A (lt_of_heap h.act)).trans h.act, h.fl.imp id fun ⟨X, e, q, f, n⟩ => ⟨X, e, q, f.keep (hb.block X f.lt), n⟩⟩
theorem PX.wturn (h : PX w y B2 l b C r g d n gc A x ba G S H T N) (hx : WX w.heap.size y' l b n C G' S' N') (hN : ∀ k, N k → N' k) (ht : Trn (WS b n C) y y') : PX w y' B2 l b C r g d n gc A x ba G' S' H T N' := by
  refine ⟨hx, h.rz.other ht fun k hk cs t hc => ?_, h.bel.trans (h.wx.to ht), h.b2, (ht.block A (lt_of_heap h.act) (h.wx.notyp h.act (by decide))).trans h.act, h.fl.imp id fun ⟨X, e, q, f, hn⟩ => ?_⟩
  · have : t = 67 := Decidable.byContradiction fun ht' => h.wx.notyp hc ht' hk
    subst this
    decide
  · obtain ⟨cur, hc, hr⟩ := f
    exact ⟨X, e, q, ⟨cur, (ht.block X (lt_of_heap hc) (h.wx.notyp hc (by decide))).trans hc, hr⟩, hN X hn⟩
theorem PX.notR {k : Nat} {c : Array Value} {t : TypeId} (hk : y.heap[k]? = some (.cells c t (0, 0))) (ht : t ≠ 3 ∧ t ≠ 52 ∧ t ≠ 46) : ¬ RB B2 y k := by
  rintro ⟨_, cs, t', hc, h3⟩
  rw [hk] at hc
  simp at hc
  obtain ⟨_, rfl⟩ := hc
  rcases h3 with e | e | e
  · exact ht.1 e
  · exact ht.2.1 e
  · exact ht.2.2 e
theorem PX.rturn (h : PX w y B2 l b C r g d n gc A x ba G S H T N) (hx : RZ B2 y' r g d n gc H' T') (ht : RT B2 y y') : PX w y' B2 l b C r g d n gc A x ba G S H' T' N := by
  refine ⟨h.wx.other (S := RB B2 y) ht fun k hk => ?_, hx, h.bel.trans ((ht.below h.rz.bw).mono h.b2), h.b2, (ht.block A (lt_of_heap h.act) (PX.notR h.act (by decide))).trans h.act, h.fl.imp id fun ⟨X, e, q, f, hn⟩ => ?_⟩
  · obtain ⟨_, cs, t, hc, h3⟩ := hk
    refine ⟨cs, t, hc, ?_⟩
    rcases h3 with rfl | rfl | rfl <;> decide
  · obtain ⟨cur, hc, hr⟩ := f
    exact ⟨X, e, q, ⟨cur, (ht.block X (lt_of_heap hc) (PX.notR hc (by decide))).trans hc, hr⟩, hn⟩
/-- a byte of a row that is no waiting message's is written -/
theorem PX.lturn (h : PX w y B2 l b C r g d n gc A x ba G S H T N) {X m : Nat} (hf : FL y X m) (hX : w.heap.size ≤ X) (hN : N X) (i : Nat) (hi : i < m) (z : Int) : PX w (y.setCell ⟨X, i, none⟩ (.int .u8 z)) B2 l b C r g d n gc A x ba G S H T N := by
  obtain ⟨hF, ht⟩ := hf.other hf i hi z
  obtain ⟨cur, hc, hr⟩ := id hf
  refine ⟨h.wx.turn hN hc ht, h.rz.other ht fun k hk cs t hc' => ?_, h.bel.trans (ht.below (fun k hk => by omega) h.bel.size), h.b2, (ht.block A (lt_of_heap h.act) (ne_typ h.act hc (by decide))).trans h.act, h.fl.imp id fun ⟨Y, e, q, f, hn⟩ => ⟨Y, e, q, (hf.other f i hi z).1, hn⟩⟩
  subst hk
  rw [hc] at hc'
  simp at hc'
  obtain ⟨_, rfl⟩ := hc'
  decide
theorem PX.slw (h : PX w y B2 l b C r g d n gc A x ba G S H T N) (hs : SL w x.a x.len ys) : ∀ w', Below B2 y w' → SL w' x.a x.len ys := fun w' hb => hs.below (h.bel.trans (hb.mono h.b2))
theorem PX.send (h : PX w y B2 l b C r g d n gc A x ba G S H T N) (hs : SL y ba x.len ys) (cb : Nat) (fr to : Int) :
    Calls Try.prog 10 #[.pointer (some ⟨l, 0, none⟩), .int .i64 fr, .int .i64 to, .slice ba x.len cb] y fun e y' => e = .returned (.tuple #[.int .i64 (sndR n G S fr to ys.length).1, .int .i64 (sndR n G S fr to ys.length).2]) ∧ PX w y' B2 l b C r g d n gc A x ba G (sndA n G S fr to ys) H T N := by
  have e := hs.1
  rw [← e] at hs ⊢
  exact (send_any h.wx fr to ba cb ys hs).mono fun r y' ⟨he, hx, ht⟩ => ⟨he, h.wturn hx (fun _ => id) ht⟩
theorem PX.rsend (h : PX w y B2 l b C r g d n gc A x ba G S H T N) (hs : SL w x.a x.len ys) (fr to : Int) :
    Calls Try.prog 11 #[.pointer (some ⟨r, 0, none⟩), .int .i64 fr, .int .i64 to, .slice x.a x.len x.cap] y fun e y' => e = .returned (.tuple #[.int .i64 (sndR n H T fr to ys.length).1, .int .i64 (sndR n H T fr to ys.length).2]) ∧ PX w y' B2 l b C r g d n gc A x ba G S H (sndA n H T fr to ys) N :=
  (rsend_any h.rz fr to x.a x.len x.cap ys (h.slw hs)).mono fun r y' ⟨he, hx, ht⟩ => ⟨he, h.rturn hx ht⟩
theorem PX.inject (h : PX w y B2 l b C r g d n gc A x ba G S H T N) (hs : SL y ba x.len ys) (cb : Nat) (to : Int) :
    Calls Try.prog 12 #[.pointer (some ⟨l, 0, none⟩), .int .i64 to, .slice ba x.len cb] y fun e y' => e = .returned (.int .i64 (injR n S to ys.length)) ∧ PX w y' B2 l b C r g d n gc A x ba G (injA n S to ys) H T N := by
  have e := hs.1
  rw [← e] at hs ⊢
  exact (inject_any h.wx to ba cb ys hs).mono fun r y' ⟨he, hx, ht⟩ => ⟨he, h.wturn hx (fun _ => id) ht⟩
theorem PX.rinject (h : PX w y B2 l b C r g d n gc A x ba G S H T N) (hs : SL w x.a x.len ys) (to : Int) :
    Calls Try.prog 13 #[.pointer (some ⟨r, 0, none⟩), .int .i64 to, .slice x.a x.len x.cap] y fun e y' => e = .returned (.int .i64 (injR n T to ys.length)) ∧ PX w y' B2 l b C r g d n gc A x ba G S H (injA n T to ys) N :=
  (rinject_any h.rz to x.a x.len x.cap ys (h.slw hs y (Below.refl _ _))).mono fun r y' ⟨he, hx, ht⟩ => ⟨he, h.rturn hx ht⟩
/-- what Join tells, and the groups behind it -/
def joinE (n : Nat) (to : Int) : Int := if to < 0 ∨ (n : Int) ≤ to then 2 else 0
def joinG (n : Nat) (G : Nat → Int) (to v : Int) : Nat → Int := if to < 0 ∨ (n : Int) ≤ to then G else upd G to.toNat v
theorem PX.join (h : PX w y B2 l b C r g d n gc A x ba G S H T N) (to v : Int) :
    Calls Try.prog 16 #[.pointer (some ⟨l, 0, none⟩), .int .i64 to, .int .i64 v] y fun e y' => e = .returned (.int .i64 (joinE n to)) ∧ PX w y' B2 l b C r g d n gc A x ba (joinG n G to v) S H T N := by
  by_cases hf : to < 0 ∨ (n : Int) ≤ to
  · rw [joinE, joinG, if_pos hf, if_pos hf]
    exact (join_off (xoff h.wx hf) (by decide) v).mono fun e y' ⟨he, hw⟩ => ⟨he, hw ▸ h⟩
  · rw [joinE, joinG, if_neg hf, if_neg hf]
    obtain ⟨i, rfl⟩ := Int.eq_ofNat_of_zero_le (show 0 ≤ to by omega)
    exact (xjoin h.wx (i := i) (by omega) v).mono fun e y' ⟨he, hx, ht⟩ => ⟨he, h.wturn hx (fun _ => id) ht⟩
theorem PX.rjoin (h : PX w y B2 l b C r g d n gc A x ba G S H T N) (to v : Int) :
    Calls Try.prog 17 #[.pointer (some ⟨r, 0, none⟩), .int .i64 to, .int .i64 v] y fun e y' => e = .returned (.int .i64 (joinE n to)) ∧ PX w y' B2 l b C r g d n gc A x ba G S (joinG n H to v) T N := by
  by_cases hf : to < 0 ∨ (n : Int) ≤ to
  · rw [joinE, joinG, if_pos hf, if_pos hf]
    exact (xrjoin_bad h.rz hf v).mono fun e y' ⟨he, hw⟩ => ⟨he, hw ▸ h⟩
  · rw [joinE, joinG, if_neg hf, if_neg hf]
    obtain ⟨i, rfl⟩ := Int.eq_ofNat_of_zero_le (show 0 ≤ to by omega)
    exact (xrjoin h.rz (i := i) (by omega) v).mono fun e y' ⟨he, hx, ht⟩ => ⟨he, h.rturn hx ht⟩
/-- nothing waits there -/
def Empty (n : Nat) (S : Nat → List (Int × List Int)) (to : Int) : Prop := (to < 0 ∨ (n : Int) ≤ to) ∨ (0 ≤ to ∧ to < (n : Int) ∧ S to.toNat = [])
theorem PX.rcv_no (h : PX w y B2 l b C r g d n gc A x ba G S H T N) (to : Int) (he : Empty n S to) :
    Calls Try.prog 14 #[.pointer (some ⟨l, 0, none⟩), .int .i64 to] y fun e y' => e = .returned (.tuple #[z42, .bool false]) ∧ PX w y' B2 l b C r g d n gc A x ba G S H T N := by
  rcases he with hf | ⟨h0, h1, hq⟩
  · exact (receive_off (xoff (h.wx.below ((Below.refl _ _).alloc (Nat.le_refl _) _)) hf) (by decide)).mono fun e y' ⟨he, hb⟩ => ⟨he, h.below hb⟩
  · obtain ⟨i, rfl⟩ := Int.eq_ofNat_of_zero_le h0
    exact (xreceive_none h.wx (i := i) (by omega) hq).mono fun e y' ⟨he, hb⟩ => ⟨he, h.below hb⟩
theorem PX.rrcv_no (h : PX w y B2 l b C r g d n gc A x ba G S H T N) (to : Int) (he : Empty n T to) :
    Calls Try.prog 15 #[.pointer (some ⟨r, 0, none⟩), .int .i64 to] y fun e y' => e = .returned (.tuple #[.agg #[.int .i64 0, .string ByteArray.empty], .bool false]) ∧ PX w y' B2 l b C r g d n gc A x ba G S H T N ∧ RT B2 y y' := by
  rcases he with hf | ⟨h0, h1, hq⟩
  · exact (xrreceive_bad h.rz hf).mono fun e y' ⟨he, hb⟩ => ⟨he, h.below hb, RT.of_below hb⟩
  · obtain ⟨i, rfl⟩ := Int.eq_ofNat_of_zero_le h0
    exact (xrreceive_none h.rz (i := i) (by omega) hq).mono fun e y' ⟨he, hb⟩ => ⟨he, h.below hb, RT.of_below hb⟩
theorem PX.rcv (h : PX w y B2 l b C r g d n gc A x ba G S H T N) {i : Nat} (hi : i < n) (f : Int) (bs : List Int) (q : List (Int × List Int)) (hq : S i = (f, bs) :: q) :
    Calls Try.prog 14 #[.pointer (some ⟨l, 0, none⟩), .int .i64 i] y fun e y' => ∃ X, e = .returned (.tuple #[.agg #[.int .i64 f, .slice (some ⟨X, 0, none⟩) bs.length bs.length], .bool true]) ∧ PX w y' B2 l b C r g d n gc A x ba G (upd S i q) H T (fun k => N k ∨ k = X) ∧ y'.heap[X]? = some (.cells (bv bs) 5 (0, 0)) ∧ w.heap.size ≤ X ∧ bs.length ≤ 2048 ∧ Bytes bs :=
  (xreceive_some h.wx hi f bs q hq).mono fun e y' ⟨X, he, hx, ht, hX, hB, _, hl, hb⟩ => ⟨X, he, h.wturn hx (fun _ => .inl) ht, hX, hB, hl, hb⟩
theorem PX.rrcv (h : PX w y B2 l b C r g d n gc A x ba G S H T N) {i : Nat} (hi : i < n) (f : Int) (bs : List Int) (q : List (Int × List Int)) (hq : T i = (f, bs) :: q) :
    Calls Try.prog 15 #[.pointer (some ⟨r, 0, none⟩), .int .i64 i] y fun e y' => e = .returned (.tuple #[.agg #[.int .i64 f, .string (strOfNums bs)], .bool true]) ∧ PX w y' B2 l b C r g d n gc A x ba G S H (upd T i q) N ∧ RT B2 y y' :=
  (xrreceive_some h.rz hi f bs q hq).mono fun e y' ⟨he, hx, ht⟩ => ⟨he, h.rturn hx ht, ht⟩
theorem PX.waits (h : PX w y B2 l b C r g d n gc A x ba G S H T N) {i : Nat} (hi : i < n) : y.cell? ⟨r, 1, none⟩ = some (.slice (some ⟨d, 0, none⟩) n n) ∧ (∃ a c, y.cell? ⟨d, i, none⟩ = some (.slice a (T i).length c)) ∧ r < y.heap.size ∧ d < y.heap.size := by
  obtain ⟨V, h⟩ := h.rz
  obtain ⟨a, c, e⟩ := (h.qs i hi).form
  exact ⟨h.cc.2, ⟨a, c, by rw [h.di hi, e]⟩, h.lt, h.dlt⟩
end
end Go.Proofs.Ytnjkbpjkaignbaa
