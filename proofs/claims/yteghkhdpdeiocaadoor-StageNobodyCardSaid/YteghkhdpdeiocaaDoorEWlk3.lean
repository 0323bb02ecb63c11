/-
  What read of package walk tells: its contract.
-/
import Derived.Test.YteghkhdpdeiocaaDoorEWlk1
namespace Go.Proofs.YteghkhdpdeiocaaDoor.E
open Go.RowKit
set_option linter.unusedVariables false
set_option maxRecDepth 100000

/-- the entry at a place of a table, if it can be told -/
def readP [Bits] (zs : List Int) (f p : Int) : Option En :=
  if f ≤ 72057594037927935 ∧ numE zs.length (atP f p) 8 = 0 ∧ unpackE (loadV zs (atP f p) 8) = 0 then some (enOf (loadV zs (atP f p) 8)) else none
def rdV (t a : Int) : Option En → Value
  | none => .tuple #[En.zero.val, trapV (faultP a 12 13 15) t 0]
  | some e => .tuple #[e.val, trapV 0 0 0]

theorem at_range (f p : Int) : 0 ≤ atP f p ∧ atP f p < 18446744073709551616 := wrap_range _
theorem load_range (zs : List Int) (h : Bytes zs) (t : Int) : 0 ≤ loadV zs t 8 ∧ loadV zs t 8 < 18446744073709551616 := by
  unfold loadV
  split
  · have := leFrom_bound zs h 8 t.toNat
    simp only [extW]
    simpa using this
  · omega

theorem unpack_en [Bits] (n : Int) (h0 : 0 ≤ n) (h1 : n < 18446744073709551616) (W : World) (hT : BT W) :
    Calls Tryd.prog 61 #[.int .u64 n] W fun e W' => e = .returned (.tuple #[(enOf n).val, .int .i64 (unpackE n)]) ∧ Below W.heap.size W W' := by
  rw [← unpackV_en]
  cases hz : flagP n 0
  · rw [(wp_zero n hz).1, (wp_zero n hz).2]; exact unpack_zero n h0 h1 hz W hT
  · cases hp : isP n
    · rw [(wp_bad n hp hz).1, (wp_bad n hp hz).2]; exact unpack_bad n h0 h1 hz hp W hT
    · rw [(wp_good n hp hz).1, (wp_good n hp hz).2]; exact unpack_good n h0 h1 hz hp W hT

/-- the state in which a memory is walked -/
structure St [Bits] (w : World) (b g : Nat) (zs : List Int) : Prop where
  sz : SZ w
  bt : BT w
  mm : MM w b g zs
theorem St.below [Bits] {w w' : World} {b g : Nat} {zs : List Int} (h : St w b g zs) (hb : Below w.heap.size w w') : St w' b g zs := ⟨h.sz.below hb, h.bt.below hb, h.mm.below hb⟩

theorem below_set83 {B : Nat} {W w : World} (h : Below B W w) {b c : Nat} (hb : B ≤ b) (hc : B ≤ c) (v0 v1 v2 v3 v4 v5 v6 v7 u0 u1 u2 : Value) :
    Below B W (((((((((((w.setCell ⟨b, 0, none⟩ v0).setCell ⟨b, 1, none⟩ v1).setCell ⟨b, 2, none⟩ v2).setCell ⟨b, 3, none⟩ v3).setCell ⟨b, 4, none⟩ v4).setCell ⟨b, 5, none⟩ v5).setCell ⟨b, 6, none⟩ v6).setCell ⟨b, 7, none⟩ v7).setCell ⟨c, 0, none⟩ u0).setCell ⟨c, 1, none⟩ u1).setCell ⟨c, 2, none⟩ u2) :=
  below_set3 (below_set8 h hb _ _ _ _ _ _ _ _) hc _ _ _

set_option maxHeartbeats 1600000 in
theorem read_no_fit (t a : Int) (u : Bool) (f p : Int) (m : Value) (h0 : 0 ≤ f) (h1 : f < 9223372036854775808) (hp : 0 ≤ p) (hp' : p < 32) (hf : ¬ f ≤ 72057594037927935) (W : World) :
    Calls Tryd.prog 54 #[askV t a u, m, .int .i64 f, .int .i64 p] W fun e W' => e = .returned (rdV t a none) ∧ Below W.heap.size W W' := by
  have C1 := entryAt_any f p h0 h1 hp hp'
  have C2 := refused_any t a u
  rw [decide_eq_false hf] at C1
  unfold rdV En.zero En.val ent trapV askV at *
  generalize faultP a 12 13 15 = x at *
  generalize atP f p = q at *
  go_enter Tryd.func54, Tryd.ntmps54
  go_wp2_with fail
  refine (C1 _).mono ?_
  rintro e w1 ⟨rfl, rfl⟩
  go_wp2_with fail
  refine (C2 _).mono ?_
  rintro e w2 ⟨rfl, hb2⟩
  obtain ⟨hc2, hf2⟩ := bcell hb2
  simp only [World.size_alloc] at hc2 hf2
  have HB : Hid (Below W.heap.size W w2) := ((((Below.refl _ _).alloc (Nat.le_refl _) _).alloc (by simp) _).alloc (by simp; omega) _).trans (hb2.mono (by simp; omega))
  have hs2 : W.heap.size + 2 < w2.heap.size := by have := hb2.size; simp at this; omega
  clear hb2 C1 C2
  go_wp2_with fail
  refine bodyPost_ret (v := _) ?h1 rfl ⟨rfl, below_set83 HB.out (by omega) (by omega) _ _ _ _ _ _ _ _ _ _ _⟩
  case h1 => simp [results, Tryd.results54, go_sem, hc2]

set_option maxHeartbeats 1600000 in
theorem read_no_load [Bits] (t a : Int) (u : Bool) (f p : Int) (b g : Nat) (zs : List Int) (h0 : 0 ≤ f) (hp : 0 ≤ p) (hp' : p < 32) (hf : f ≤ 72057594037927935) (hn : ¬ numE zs.length (atP f p) 8 = 0) (W : World) (hS : St W b g zs) :
    Calls Tryd.prog 54 #[askV t a u, .iface 27 (.pointer (some ⟨b, 0, none⟩)), .int .i64 f, .int .i64 p] W fun e W' => e = .returned (rdV t a none) ∧ Below W.heap.size W W' := by
  have C1 := entryAt_any f p h0 (by omega) hp hp'
  have C2 := refused_any t a u
  have C3 := fun (W : World) (h : St W b g zs) => number_mm b g zs (atP f p) W h.sz h.mm (at_range f p).1 (at_range f p).2
  rw [decide_eq_true hf] at C1
  rw [decide_eq_false hn] at C3
  have HS : Hid (St W b g zs) := hS
  clear hS hn
  unfold rdV En.zero En.val ent trapV askV at *
  generalize faultP a 12 13 15 = x at *
  generalize atP f p = q at *
  generalize loadV zs q 8 = y at *
  go_enter Tryd.func54, Tryd.ntmps54
  go_wp2_with fail
  refine (C1 _).mono ?_
  rintro e w1 ⟨rfl, rfl⟩
  go_wp2_with fail
  refine (C3 _ (HS.out.below ((((Below.refl _ _).alloc (Nat.le_refl _) _).alloc (by simp) _).alloc (by simp; omega) _))).mono ?_
  rintro e w2 ⟨rfl, hb2⟩
  obtain ⟨hc2, hf2⟩ := bcell hb2
  simp only [World.size_alloc] at hc2 hf2
  have HB : Hid (Below W.heap.size W w2) := ((((Below.refl _ _).alloc (Nat.le_refl _) _).alloc (by simp) _).alloc (by simp; omega) _).trans (hb2.mono (by simp; omega))
  have HC : Hid (_) := hb2
  have hs2 : W.heap.size + 2 < w2.heap.size := by have := hb2.size; simp at this; omega
  clear hb2 C1 C3
  go_wp2_with fail
  refine (C2 _).mono ?_
  rintro e w3 ⟨rfl, hb3⟩
  have HB3 : Hid (Below W.heap.size W w3) := HB.out.trans (hb3.mono (by omega))
  have HC3 := HC.out.trans (hb3.mono (by simp; omega))
  clear hc2 hf2
  obtain ⟨hc3, hf3⟩ := bcell HC3
  simp only [World.size_alloc] at hc3 hf3
  have hs3 : W.heap.size + 2 < w3.heap.size := by have := hb3.size; omega
  clear hb3 C2 HC3 HC HB hs2
  go_wp2_with fail
  refine bodyPost_ret (v := _) ?h1 rfl ⟨rfl, below_set83 HB3.out (by omega) (by omega) _ _ _ _ _ _ _ _ _ _ _⟩
  case h1 => simp [results, Tryd.results54, go_sem, hc3]
end Go.Proofs.YteghkhdpdeiocaaDoor.E
