/-
  The document's tables in the heap, by their cells.
  The document's tables: what point does.
  The document's tables: what New makes, by its cells.
-/
import Derived.Test.YteghkhdpdeiocaaGreatDoorGI
import Derived.Deep.RegionHeld2
import Derived.Test.YteghkhdpdeiocaaGreatDoorSv
namespace Go.Proofs.YteghkhdpdeiocaaGreatDoor
open Go.RowKit Go.Maps
set_option linter.unusedVariables false
set_option maxRecDepth 100000

/-- pages that are none, cell by cell -/
def chk : List Value → Bool
  | [] => true
  | .bool false :: .int .i64 0 :: .bool false :: .bool false :: .bool false :: l => chk l
  | _ => false
theorem chk_at : ∀ (k : Nat) (l : List Value), chk l = true → 5 * k + 4 < l.length → l[5 * k]? = some (.bool false) ∧ l[5 * k + 1]? = some (.int .i64 0) ∧ l[5 * k + 2]? = some (.bool false) ∧ l[5 * k + 3]? = some (.bool false) ∧ l[5 * k + 4]? = some (.bool false)
  | k, l, h, hl => by
    unfold chk at h
    split at h
    · simp at hl
    · rename_i l'
      match k with
      | 0 => exact ⟨rfl, rfl, rfl, rfl, rfl⟩
      | k + 1 =>
        have := chk_at k l' h (by simp at hl; omega)
        rw [show 5 * (k + 1) = 5 * k + 5 by omega]
        simpa [Nat.add_assoc] using this
    · cases h
theorem zc_pages : chk (Tryz.zeroCells89.toList.drop 36) = true := by kernel_rfl
theorem zc_page {p : Nat} (hp : p < 1024) : Tryz.zeroCells89[36 + 5 * p]? = some (.bool false) ∧ Tryz.zeroCells89[36 + 5 * p + 1]? = some (.int .i64 0) ∧ Tryz.zeroCells89[36 + 5 * p + 2]? = some (.bool false) ∧ Tryz.zeroCells89[36 + 5 * p + 3]? = some (.bool false) ∧ Tryz.zeroCells89[36 + 5 * p + 4]? = some (.bool false) := by
  have hs := zc_size
  have h := chk_at p _ zc_pages (by rw [List.length_drop, Array.length_toList, hs]; omega)
  simp only [List.getElem?_drop, Array.getElem?_toList] at h
  simpa [Nat.add_assoc] using h
/-- a page's five cells -/
def pgR : Option Pg → Bool
  | none => false
  | some a => a.r
def pgW : Option Pg → Bool
  | none => false
  | some a => a.w
def pgX : Option Pg → Bool
  | none => false
  | some a => a.x
/-- the document's tables by their cells -/
structure UB (w : World) (U c R gu : Nat) (x : Tp) : Prop where
  blk : ∃ cs : Array Value, w.heap[U]? = some (.cells cs 89 (0, 0)) ∧ cs.size = 5156 ∧ cs[0]? = some (.pointer (some ⟨c, 0, none⟩)) ∧ cs[1]? = some (.pointer (some ⟨R, 0, none⟩)) ∧ cs[2]? = some (.int .i64 gu) ∧ cs[3]? = some (.int .i64 x.rt) ∧ (∀ k, k < 32 → cs[4 + k]? = some (.int .i64 (x.lo k))) ∧
    ∀ p, p < 1024 → cs[36 + 5 * p]? = some (.bool (x.pg p).isSome) ∧ cs[36 + 5 * p + 1]? = some (.int .i64 (pgF (x.pg p))) ∧ cs[36 + 5 * p + 2]? = some (.bool (pgR (x.pg p))) ∧ cs[36 + 5 * p + 3]? = some (.bool (pgW (x.pg p))) ∧ cs[36 + 5 * p + 4]? = some (.bool (pgX (x.pg p)))
section
variable {w w' : World} {U c R gu : Nat} {x : Tp}
theorem UB.lt (h : UB w U c R gu x) : U < w.heap.size := by
  obtain ⟨cs, h, _⟩ := h.blk
  exact lt_of_heap h
theorem UB.keep (h : UB w U c R gu x) (hk : w'.heap[U]? = w.heap[U]?) : UB w' U c R gu x := by
  obtain ⟨cs, h, h2⟩ := h.blk
  exact ⟨cs, hk.trans h, h2⟩
theorem UB.fz (h : UB w U c R gu x) (o : Nat) : w.frozen? ⟨U, o, none⟩ = false := by
  obtain ⟨cs, h, _⟩ := h.blk
  exact froz_at h o
theorem UB.c0 (h : UB w U c R gu x) : w.cell? ⟨U, 0, none⟩ = some (.pointer (some ⟨c, 0, none⟩)) ∧ w.cell? ⟨U, 1, none⟩ = some (.pointer (some ⟨R, 0, none⟩)) ∧ w.cell? ⟨U, 2, none⟩ = some (.int .i64 gu) ∧ w.cell? ⟨U, 3, none⟩ = some (.int .i64 x.rt) := by
  obtain ⟨cs, h, h1, h2, h3, h4, h5, h6, h7⟩ := h.blk
  exact ⟨by rw [cell_at h, h2], by rw [cell_at h, h3], by rw [cell_at h, h4], by rw [cell_at h, h5]⟩
theorem UB.cl (h : UB w U c R gu x) {k : Nat} (hk : k < 32) : w.cell? ⟨U, 4 + k, none⟩ = some (.int .i64 (x.lo k)) := by
  obtain ⟨cs, h, h1, h2, h3, h4, h5, h6, h7⟩ := h.blk
  rw [cell_at h, h6 k hk]
theorem UB.cp (h : UB w U c R gu x) {p : Nat} (hp : p < 1024) : w.cell? ⟨U, 36 + 5 * p, none⟩ = some (.bool (x.pg p).isSome) ∧ w.cell? ⟨U, 36 + 5 * p + 1, none⟩ = some (.int .i64 (pgF (x.pg p))) ∧ w.cell? ⟨U, 36 + 5 * p + 2, none⟩ = some (.bool (pgR (x.pg p))) ∧ w.cell? ⟨U, 36 + 5 * p + 3, none⟩ = some (.bool (pgW (x.pg p))) ∧ w.cell? ⟨U, 36 + 5 * p + 4, none⟩ = some (.bool (pgX (x.pg p))) := by
  obtain ⟨cs, h, h1, h2, h3, h4, h5, h6, h7⟩ := h.blk
  obtain ⟨a, b, c, d, e⟩ := h7 p hp
  exact ⟨by rw [cell_at h, a], by rw [cell_at h, b], by rw [cell_at h, c], by rw [cell_at h, d], by rw [cell_at h, e]⟩
theorem UB.setR (h : UB w U c R gu x) (v : Int) : UB (w.setCell ⟨U, 3, none⟩ (.int .i64 v)) U c R gu { x with rt := v } ∧ Trn (fun k => k = U) w (w.setCell ⟨U, 3, none⟩ (.int .i64 v)) := by
  obtain ⟨cs, h, h1, h2, h3, h4, h5, h6, h7⟩ := h.blk
  refine ⟨⟨_, setCell_eq_setRow w U 3 cs 89 (0, 0) (.int .i64 v) h ▸ setRow_heap w U cs _ 89 _ h, by simpa using h1, ?_, ?_, ?_, ?_, fun k hk => ?_, fun p hp => ?_⟩, trn_setCell (fun k => k = U) h rfl _ _⟩
  · rw [Array.getElem?_setIfInBounds, if_neg (by omega)]; exact h2
  · rw [Array.getElem?_setIfInBounds, if_neg (by omega)]; exact h3
  · rw [Array.getElem?_setIfInBounds, if_neg (by omega)]; exact h4
  · rw [Array.getElem?_setIfInBounds, if_pos rfl, if_pos (by omega)]
  · rw [Array.getElem?_setIfInBounds, if_neg (by omega)]; exact h6 k hk
  · obtain ⟨a, b, c, d, e⟩ := h7 p hp
    refine ⟨?_, ?_, ?_, ?_, ?_⟩ <;> rw [Array.getElem?_setIfInBounds, if_neg (by omega)] <;> assumption
theorem UB.setL (h : UB w U c R gu x) {k : Nat} (hk : k < 32) (v : Int) : UB (w.setCell ⟨U, 4 + k, none⟩ (.int .i64 v)) U c R gu { x with lo := upd x.lo k v } ∧ Trn (fun k => k = U) w (w.setCell ⟨U, 4 + k, none⟩ (.int .i64 v)) := by
  obtain ⟨cs, h, h1, h2, h3, h4, h5, h6, h7⟩ := h.blk
  refine ⟨⟨_, setCell_eq_setRow w U (4 + k) cs 89 (0, 0) (.int .i64 v) h ▸ setRow_heap w U cs _ 89 _ h, by simpa using h1, ?_, ?_, ?_, ?_, fun j hj => ?_, fun p hp => ?_⟩, trn_setCell (fun k => k = U) h rfl _ _⟩
  · rw [Array.getElem?_setIfInBounds, if_neg (by omega)]; exact h2
  · rw [Array.getElem?_setIfInBounds, if_neg (by omega)]; exact h3
  · rw [Array.getElem?_setIfInBounds, if_neg (by omega)]; exact h4
  · rw [Array.getElem?_setIfInBounds, if_neg (by omega)]; exact h5
  · rw [Array.getElem?_setIfInBounds]
    show _ = some (Value.int .i64 (upd x.lo k v j))
    by_cases e : j = k
    · subst e
      rw [if_pos rfl, if_pos (by omega), upd_self]
    · rw [if_neg (by omega), upd_other _ _ _ e]
      exact h6 j hj
  · obtain ⟨a, b, c, d, e⟩ := h7 p hp
    refine ⟨?_, ?_, ?_, ?_, ?_⟩ <;> rw [Array.getElem?_setIfInBounds, if_neg (by omega)] <;> assumption
end
end Go.Proofs.YteghkhdpdeiocaaGreatDoor
namespace Go.Proofs.YteghkhdpdeiocaaGreatDoor
open Go.RowKit Go.Maps
set_option linter.unusedVariables false
set_option maxRecDepth 100000

/-- the document's tables with its memory and frames -/
structure UZ (N0 : Nat) (w : World) (c h R r U gu : Nat) (z : Zs) : Prop where
  rz : RZ N0 w c h R r z.m z.S
  ub : UB w U c R gu z.x
section
variable {N0 : Nat} {w w' : World} {c h R r U gu : Nat} {z : Zs}
theorem UZ.below (x : UZ N0 w c h R r U gu z) (hb : Below w.heap.size w w') : UZ N0 w' c h R r U gu z := ⟨x.rz.below hb, x.ub.keep (hb.block _ x.ub.lt)⟩
theorem UZ.mem (x : UZ N0 w c h R r U gu z) {m' : List Int} (hm : RM w' c h m') (t : w.grownBy w' (some h)) : UZ N0 w' c h R r U gu ⟨m', z.S, z.x⟩ := by
  obtain ⟨cs, k1, k2⟩ := x.ub.blk
  exact ⟨x.rz.mem hm t, x.ub.keep (t.block _ x.ub.lt (fun e => by
    cases e
    exact ne_typ x.rz.rm.row k1 (by decide) rfl))⟩
theorem UZ.drew (x : UZ N0 w c h R r U gu z) : UZ N0 w.drew c h R r U gu z := x.below (Below.refl _ _).drew
/-- a number stored at an entry -/
theorem UZ.put (x : UZ N0 w c h R r U gu z) {f j : Nat} (hf : f * 256 + 256 ≤ z.m.length) (hj : j < 32) {v : Int} (h0 : 0 ≤ v) (h1 : v < 18446744073709551616) : Calls Tryz.prog 90 #[.pointer (some ⟨c, 0, none⟩), .int .u64 ((f * 256 + 8 * j : Nat) : Int), .int .i64 8, .int .u64 v] w fun e w' => e = .returned (.int .i64 0) ∧ UZ N0 w' c h R r U gu ⟨set8 z.m f j v, z.S, z.x⟩ ∧ Tq N0 (fun k => k = h) w w' := by
  obtain ⟨eS, eN⟩ := store_set8 z.m (f := f) (j := j) v hf hj
  have hl := x.rz.rm.len
  have C := rmstore_any c h z.m ((f * 256 + 8 * j : Nat) : Int) 8 v w x.rz.rm (by omega) (by omega) (by omega) h0 h1
  rw [eS, eN] at C
  exact C.mono fun e w' ⟨he, hm, hg⟩ => ⟨he, x.mem hm hg, Tq.of_grown hg rfl⟩
set_option maxHeartbeats 1600000 in
theorem point_uz (x : UZ N0 w c h R r U gu z) {k R0 : Nat} (hk : k < 32) (hR : z.x.rt = R0) (hf : R0 * 256 + 256 ≤ z.m.length) (hl : z.x.lo k < 65536) : Calls Tryz.prog 62 #[.pointer (some ⟨U, 0, none⟩), .int .i64 k] w fun e w1 => e = .returned (.tuple #[]) ∧ UZ N0 w1 c h R r U gu ⟨set8 z.m R0 k (loN (z.x.lo k)), z.S, z.x⟩ ∧ Tq N0 (fun k => k = h) w w1 := by
  obtain ⟨v0, v1⟩ := loN_fits (z.x.lo k) hl
  have hlen := x.rz.rm.len
  have PUT := fun (W : World) (hS : UZ N0 W c h R r U gu z) => hS.put hf hk v0 v1
  have m1 : IntKind.i64.wrap ((R0 : Int) * 256) = (R0 : Int) * 256 := by rw [IntKind.wrap_i64]; omega
  have m2 : IntKind.i64.wrap (8 * (k : Int)) = 8 * (k : Int) := by rw [IntKind.wrap_i64]; omega
  have m3 : IntKind.i64.wrap ((R0 : Int) * 256 + 8 * (k : Int)) = ((R0 * 256 + 8 * k : Nat) : Int) := by rw [IntKind.wrap_i64]; omega
  have m4 : IntKind.u64.wrap (((R0 * 256 + 8 * k : Nat) : Int)) = ((R0 * 256 + 8 * k : Nat) : Int) := by rw [IntKind.wrap_u64]; omega
  generalize ((R0 * 256 + 8 * k : Nat) : Int) = at_ at *
  have hk' : (k : Int) < 32 := by omega
  have HX : Hid (UZ N0 w c h R r U gu z) := x
  have hx : U < w.heap.size := x.ub.lt
  by_cases h0 : 0 ≤ z.x.lo k
  · obtain ⟨F, hF⟩ := Int.eq_ofNat_of_zero_le h0
    have PK := fun W => E.rpack_yes true false false false false false false (F : Int) (may_table F (by omega)) W
    have ev : E.numD true false false false false false false (F : Int) = loN (z.x.lo k) := by rw [E.numD_eq, hF]; unfold loN; rw [if_pos (by omega)]
    rw [ev] at PK
    have cl := (x.below ((Below.refl _ _).alloc (Nat.le_refl _) (.cells #[.bool false, .bool false, .bool false, .bool false, .bool false, .bool false, .bool false, .int .i64 0] 162))).ub.cl hk
    rw [hF] at cl
    have c2 := (x.below ((Below.refl _ _).alloc (Nat.le_refl _) (.cells #[.bool true, .bool false, .bool false, .bool false, .bool false, .bool false, .bool false, .int .i64 F] 162))).ub.cl hk
    have HB : Hid (UZ N0 (w.alloc (.cells #[.bool true, .bool false, .bool false, .bool false, .bool false, .bool false, .bool false, .int .i64 F] 162)) c h R r U gu z ∧ Below w.heap.size w (w.alloc (.cells #[.bool true, .bool false, .bool false, .bool false, .bool false, .bool false, .bool false, .int .i64 F] 162))) := ⟨x.below ((Below.refl _ _).alloc (Nat.le_refl _) _), (Below.refl _ _).alloc (Nat.le_refl _) _⟩
    generalize loN (z.x.lo k) = v at *
    clear x ev hl c2
    unfold E.ent at PK
    go_enter Tryz.func62, Tryz.ntmps62
    go_wp2_with fail
    refine (PK _).mono ?_
    rintro e w1 ⟨rfl, hb1⟩
    have H1 : Hid (UZ N0 w1 c h R r U gu z ∧ Below w.heap.size w w1) := ⟨HB.out.1.below hb1, HB.out.2.trans (hb1.mono (by simp))⟩
    have q0 := H1.out.1.drew.ub.c0
    rw [hR] at q0
    have dl := H1.out.1.ub.lt
    have P1 := PUT _ H1.out.1.drew
    clear hb1 PUT PK cl
    go_wp2_with fail
    go_region_held2 (fun W => W.cell? ⟨U, 0, none⟩ = some (.pointer (some ⟨c, 0, none⟩)) ∧ W.cell? ⟨U, 3, none⟩ = some (.int .i64 R0))
      (first | exact ⟨q0.1, q0.2.2.2⟩ | exact hc2)
      (first
        | (go_at_call 90; refine P1.mono ?_; rintro q y2 ⟨rfl, h2, t2⟩; (have H2 : Hid (_ ∧ _) := ⟨h2, t2⟩); (have hc2 : y2.cell? ⟨U, 0, none⟩ = some (.pointer (some ⟨c, 0, none⟩)) ∧ y2.cell? ⟨U, 3, none⟩ = some (.int .i64 R0) := ⟨h2.ub.c0.1, by have := h2.ub.c0.2.2.2; rwa [show (Zs.mk (set8 z.m R0 k v) z.S z.x).x.rt = (R0 : Int) from hR] at this⟩)))
    go_wp2_with fail
    go_end0
    exact ⟨rfl, H2.out.1, ((Tq.of_below H1.out.2).drew).trans H2.out.2⟩
  · have PK := fun W => E.rpack_yes false false false false false false false 0 (by decide) W
    have ev : E.numD false false false false false false false 0 = loN (z.x.lo k) := by unfold loN; rw [if_neg h0]; decide
    rw [ev] at PK
    have cl := (x.below ((Below.refl _ _).alloc (Nat.le_refl _) (.cells #[.bool false, .bool false, .bool false, .bool false, .bool false, .bool false, .bool false, .int .i64 0] 162))).ub.cl hk
    have c2 := (x.below ((Below.refl _ _).alloc (Nat.le_refl _) (.cells #[.bool false, .bool false, .bool false, .bool false, .bool false, .bool false, .bool false, .int .i64 0] 162))).ub.cl hk
    have HB : Hid (UZ N0 (w.alloc (.cells #[.bool false, .bool false, .bool false, .bool false, .bool false, .bool false, .bool false, .int .i64 0] 162)) c h R r U gu z ∧ Below w.heap.size w (w.alloc (.cells #[.bool false, .bool false, .bool false, .bool false, .bool false, .bool false, .bool false, .int .i64 0] 162))) := ⟨x.below ((Below.refl _ _).alloc (Nat.le_refl _) _), (Below.refl _ _).alloc (Nat.le_refl _) _⟩
    have hlo : z.x.lo k < 0 := by omega
    generalize loN (z.x.lo k) = v at *
    generalize z.x.lo k = lk at *
    clear x ev hl c2
    unfold E.ent at PK
    go_enter Tryz.func62, Tryz.ntmps62
    go_wp2_with fail
    refine (PK _).mono ?_
    rintro e w1 ⟨rfl, hb1⟩
    have H1 : Hid (UZ N0 w1 c h R r U gu z ∧ Below w.heap.size w w1) := ⟨HB.out.1.below hb1, HB.out.2.trans (hb1.mono (by simp))⟩
    have q0 := H1.out.1.drew.ub.c0
    rw [hR] at q0
    have dl := H1.out.1.ub.lt
    have P1 := PUT _ H1.out.1.drew
    clear hb1 PUT PK cl
    go_wp2_with fail
    go_region_held2 (fun W => W.cell? ⟨U, 0, none⟩ = some (.pointer (some ⟨c, 0, none⟩)) ∧ W.cell? ⟨U, 3, none⟩ = some (.int .i64 R0))
      (first | exact ⟨q0.1, q0.2.2.2⟩ | exact hc2)
      (first
        | (go_at_call 90; refine P1.mono ?_; rintro q y2 ⟨rfl, h2, t2⟩; (have H2 : Hid (_ ∧ _) := ⟨h2, t2⟩); (have hc2 : y2.cell? ⟨U, 0, none⟩ = some (.pointer (some ⟨c, 0, none⟩)) ∧ y2.cell? ⟨U, 3, none⟩ = some (.int .i64 R0) := ⟨h2.ub.c0.1, by have := h2.ub.c0.2.2.2; rwa [show (Zs.mk (set8 z.m R0 k v) z.S z.x).x.rt = (R0 : Int) from hR] at this⟩)))
    go_wp2_with fail
    go_end0
    exact ⟨rfl, H2.out.1, ((Tq.of_below H1.out.2).drew).trans H2.out.2⟩
end
end Go.Proofs.YteghkhdpdeiocaaGreatDoor
namespace Go.Proofs.YteghkhdpdeiocaaGreatDoor
open Go.RowKit Go.Maps
set_option linter.unusedVariables false
set_option maxRecDepth 100000

/-- the document's tables, whose first j lower tables are said to be none -/
def UP (w : World) (U c R gu : Nat) (t : Int) (j : Nat) : Prop := ∃ cs : Array Value, w.heap[U]? = some (.cells cs 89 (0, 0)) ∧ cs.size = 5156 ∧ cs[0]? = some (.pointer (some ⟨c, 0, none⟩)) ∧ cs[1]? = some (.pointer (some ⟨R, 0, none⟩)) ∧ cs[2]? = some (.int .i64 gu) ∧ cs[3]? = some (.int .i64 t) ∧ (∀ k, k < j → k < 32 → cs[4 + k]? = some (.int .i64 (-1))) ∧
    ∀ p, p < 1024 → cs[36 + 5 * p]? = some (.bool false) ∧ cs[36 + 5 * p + 1]? = some (.int .i64 0) ∧ cs[36 + 5 * p + 2]? = some (.bool false) ∧ cs[36 + 5 * p + 3]? = some (.bool false) ∧ cs[36 + 5 * p + 4]? = some (.bool false)
section
variable {w w' : World} {U c R gu j : Nat} {t : Int}
theorem UP.uw (h : UP w U c R gu t j) : UW w U := by
  obtain ⟨cs, h1, h2, _⟩ := h
  exact ⟨cs, h1, h2⟩
theorem UP.set (h : UP w U c R gu t j) (hj : j < 32) : UP (w.setCell ⟨U, 4 + j, none⟩ (.int .i64 (-1))) U c R gu t (j + 1) := by
  obtain ⟨cs, h, h1, h2, h3, h4, h5, h6, h7⟩ := h
  refine ⟨_, setCell_eq_setRow w U (4 + j) cs 89 (0, 0) (.int .i64 (-1)) h ▸ setRow_heap w U cs _ 89 _ h, by simpa using h1, ?_, ?_, ?_, ?_, fun k hk hk2 => ?_, fun p hp => ?_⟩
  · rw [Array.getElem?_setIfInBounds, if_neg (by omega)]; exact h2
  · rw [Array.getElem?_setIfInBounds, if_neg (by omega)]; exact h3
  · rw [Array.getElem?_setIfInBounds, if_neg (by omega)]; exact h4
  · rw [Array.getElem?_setIfInBounds, if_neg (by omega)]; exact h5
  · rw [Array.getElem?_setIfInBounds]
    by_cases e : k = j
    · subst e
      rw [if_pos rfl, if_pos (by omega)]
    · rw [if_neg (by omega)]
      exact h6 k (by omega) hk2
  · obtain ⟨a, b, c, d, e⟩ := h7 p hp
    refine ⟨?_, ?_, ?_, ?_, ?_⟩ <;> rw [Array.getElem?_setIfInBounds, if_neg (by omega)] <;> assumption
theorem UP.ub (h : UP w U c R gu t 32) : UB w U c R gu (xr t) := by
  obtain ⟨cs, h, h1, h2, h3, h4, h5, h6, h7⟩ := h
  exact ⟨cs, h, h1, h2, h3, h4, h5, fun k hk => h6 k hk hk, h7⟩
theorem up_new (w : World) (c R gu : Nat) (t : Int) : UP (w.alloc (.cells ((((Tryz.zeroCells89.setIfInBounds 0 (.pointer (some ⟨c, 0, none⟩))).setIfInBounds 1 (.pointer (some ⟨R, 0, none⟩))).setIfInBounds 2 (.int .i64 gu)).setIfInBounds 3 (.int .i64 t)) 89)) w.heap.size c R gu t 0 := by
  have hs := zc_size
  refine ⟨_, heap_alloc_at _ _, by simp only [Array.size_setIfInBounds]; exact zc_size, ?_, ?_, ?_, ?_, fun k hk => by omega, fun p hp => ?_⟩
  · simp only [Array.getElem?_setIfInBounds, Array.size_setIfInBounds]
    rw [if_neg (by omega), if_neg (by omega), if_neg (by omega), if_pos True.intro, if_pos (by omega)]
  · simp only [Array.getElem?_setIfInBounds, Array.size_setIfInBounds]
    rw [if_neg (by omega), if_neg (by omega), if_pos True.intro, if_pos (by omega)]
  · simp only [Array.getElem?_setIfInBounds, Array.size_setIfInBounds]
    rw [if_neg (by omega), if_pos True.intro, if_pos (by omega)]
  · simp only [Array.getElem?_setIfInBounds, Array.size_setIfInBounds]
    rw [if_pos True.intro, if_pos (by omega)]
  · obtain ⟨z0, z1, z2, z3, z4⟩ := zc_page hp
    refine ⟨?_, ?_, ?_, ?_, ?_⟩
    all_goals
      simp only [Array.getElem?_setIfInBounds, Array.size_setIfInBounds]
      rw [if_neg (by omega), if_neg (by omega), if_neg (by omega), if_neg (by omega)]
      assumption
end
section
variable {N0 : Nat} {w w' : World} {c h R r n gu : Nat} {m : List Int} {S : Fs}
set_option maxHeartbeats 1600000 in
theorem rnew_ub (x : RZ N0 w c h R r m S) (hl : m.length = n * 256) (hn : n ≤ 65536) (hg : 1 ≤ gu ∧ gu ≤ 16) (h0 : takeE n S = 0) : Calls Tryz.prog 19 #[.pointer (some ⟨c, 0, none⟩), .pointer (some ⟨R, 0, none⟩), .int .i64 gu] w fun e w1 => ∃ U, e = .returned (.tuple #[.pointer (some ⟨U, 0, none⟩), .int .i64 0]) ∧ RZ N0 w1 c h R r (takeM n m S) (takeS n S) ∧ UB w1 U c R gu (xr (alR S 0)) ∧ w.heap.size ≤ U ∧ Tq N0 (fun k => k = h) w w1 := by
  have C1 := rtable_rz x hl hn
  rw [h0, if_pos rfl] at C1
  have hg1 : (1 : Int) ≤ gu := by omega
  have hg2 : (gu : Int) ≤ 16 := by omega
  clear x hl hn h0 hg
  generalize alR S 0 = t at *
  go_enter Tryz.func19, Tryz.ntmps19
  go_wp2_with fail
  refine C1.mono ?_
  rintro e w1 ⟨rfl, h1, tq1⟩
  have H1 : Hid (RZ N0 w1 c h R r (takeM n m S) (takeS n S) ∧ Tq N0 (fun k => k = h) w w1) := ⟨h1, tq1⟩
  clear h1 tq1 C1
  go_wp2_with fail
  have HU : Hid (RZ N0 (w1.alloc (.cells ((((Tryz.zeroCells89.setIfInBounds 0 (.pointer (some ⟨c, 0, none⟩))).setIfInBounds 1 (.pointer (some ⟨R, 0, none⟩))).setIfInBounds 2 (.int .i64 gu)).setIfInBounds 3 (.int .i64 t)) 89)) c h R r (takeM n m S) (takeS n S) ∧ UP (w1.alloc (.cells ((((Tryz.zeroCells89.setIfInBounds 0 (.pointer (some ⟨c, 0, none⟩))).setIfInBounds 1 (.pointer (some ⟨R, 0, none⟩))).setIfInBounds 2 (.int .i64 gu)).setIfInBounds 3 (.int .i64 t)) 89)) w1.heap.size c R gu t 0 ∧ Tq N0 (fun k => k = h ∨ k = w1.heap.size) w (w1.alloc (.cells ((((Tryz.zeroCells89.setIfInBounds 0 (.pointer (some ⟨c, 0, none⟩))).setIfInBounds 1 (.pointer (some ⟨R, 0, none⟩))).setIfInBounds 2 (.int .i64 gu)).setIfInBounds 3 (.int .i64 t)) 89))) := by
    have hbl : Below w1.heap.size w1 (w1.alloc (.cells ((((Tryz.zeroCells89.setIfInBounds 0 (.pointer (some ⟨c, 0, none⟩))).setIfInBounds 1 (.pointer (some ⟨R, 0, none⟩))).setIfInBounds 2 (.int .i64 gu)).setIfInBounds 3 (.int .i64 t)) 89)) := (Below.refl _ _).alloc (Nat.le_refl _) _
    exact ⟨H1.out.1.below hbl, up_new w1 c R gu t, (H1.out.2.mono fun _ e => .inl e).trans (Tq.of_below hbl)⟩
  generalize hUU : w1.heap.size = U at *
  go_loopw [11] (fun i wr => ∃ j : Nat, j ≤ 32 ∧ i = .int .i64 j ∧ Hid (RZ N0 wr c h R r (takeM n m S) (takeS n S) ∧ UP wr U c R gu t j ∧ Tq N0 (fun k => k = h ∨ k = U) w wr)) (fun i _ => 32 - (intOf i).toNat)
  case atStart => exact ⟨0, by omega, rfl, HU.out⟩
  case round =>
    obtain ⟨j, hj, rfl, HJ⟩ := hrel
    by_cases hj2 : j < 32
    · have hj3 : (j : Int) < 32 := by omega
      obtain ⟨v0, cv⟩ := HJ.out.2.1.uw.some (o := 4 + j) (by omega)
      have cf := HJ.out.2.1.uw.fz (4 + j)
      have cl := HJ.out.2.1.uw.lt
      obtain ⟨u1, t1⟩ := HJ.out.2.1.uw.set (4 + j) (.int .i64 (-1))
      have HN : Hid (RZ N0 (wr.setCell ⟨U, 4 + j, none⟩ (.int .i64 (-1))) c h R r (takeM n m S) (takeS n S) ∧ UP (wr.setCell ⟨U, 4 + j, none⟩ (.int .i64 (-1))) U c R gu t (j + 1) ∧ Tq N0 (fun k => k = h ∨ k = U) w (wr.setCell ⟨U, 4 + j, none⟩ (.int .i64 (-1)))) := ⟨HJ.out.1.other HJ.out.2.1.uw t1, HJ.out.2.1.set hj2, HJ.out.2.2.trans (Tq.of_trn t1 fun _ e => .inr e)⟩
      clear u1 t1 HJ
      go_wp2_with fail
      go_roundw
      case rel => exact ⟨j + 1, by omega, by go_num, HN.out⟩
      case measure => simp [intOf]; omega
    · obtain rfl : j = 32 := by omega
      have HK : Hid (Tq N0 (fun k => k = h) w wr) := ⟨HJ.out.2.2.os, HJ.out.2.2.tape, HJ.out.2.2.output, HJ.out.2.2.size, fun k o hk hp hr => HJ.out.2.2.keep k o hk (fun e => e.elim hp (fun e => by
        have h1 := lt_of_heap hk
        have h2 := H1.out.2.size
        omega)) hr⟩
      have hUs : w.heap.size ≤ U := by have := H1.out.2.size; omega
      have HV : Hid (UB wr U c R gu (xr t)) := HJ.out.2.1.ub
      go_wp2_with fail
      go_ret2
      exact ⟨U, rfl, HJ.out.1, HV.out, hUs, HK.out⟩
end
end Go.Proofs.YteghkhdpdeiocaaGreatDoor
