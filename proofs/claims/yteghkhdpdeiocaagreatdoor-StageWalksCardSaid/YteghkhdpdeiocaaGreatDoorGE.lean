/-
  What the small functions of package walk tell: their contracts.
  What read of package walk tells: its contract.
-/
import Derived.Test.YteghkhdpdeiocaaGreatDoorGB
import Derived.Test.YteghkhdpdeiocaaGreatDoorGD
import Derived.Defers
import Derived.Recover
namespace Go.Proofs.YteghkhdpdeiocaaGreatDoor.E
open Go.RowKit
set_option linter.unusedVariables false
set_option maxRecDepth 100000

/-- an entry -/
structure En where
  v : Bool
  r : Bool
  w : Bool
  x : Bool
  u : Bool
  s : Bool
  d : Bool
  f : Int
def En.val (e : En) : Value := ent e.v e.r e.w e.x e.u e.s e.d e.f
def En.zero : En := ⟨false, false, false, false, false, false, false, 0⟩
/-- the entry of a number, all 0 if there is none -/
def enOf [Bits] (n : Int) : En := if flagP n 0 && isP n then ⟨flagP n 0, flagP n 1, flagP n 2, flagP n 3, flagP n 4, flagP n 5, flagP n 6, frameP n⟩ else En.zero
theorem unpackV_en [Bits] (n : Int) : unpackV n = (enOf n).val := by
  unfold unpackV enOf
  split <;> rfl

def trapV (c v g : Int) : Value := .agg #[.int .i64 c, .int .u64 v, .int .u64 g]
def askV (t a : Int) (u : Bool) : Value := .agg #[.int .u64 t, .int .i64 a, .bool u]
def foundV (f : Int) (r w x u : Bool) (l : Int) : Value := .agg #[.int .i64 f, .bool r, .bool w, .bool x, .bool u, .int .i64 l]
/-- the fault of an access -/
def faultP (a f l s : Int) : Int := if a = 0 then f else if a = 2 then s else l
/-- the address of a table's entry -/
def atP (f p : Int) : Int := IntKind.u64.wrap (IntKind.u64.wrap (f * 256) + p * 8)

theorem fault_any (t a : Int) (u : Bool) (f l s : Int) (W : World) :
    Calls Tryz.prog 92 #[askV t a u, .int .i64 f, .int .i64 l, .int .i64 s] W fun e W' => e = .returned (.int .i64 (faultP a f l s)) ∧ Below W.heap.size W W' := by
  unfold askV
  go_enter Tryz.func92, Tryz.ntmps92
  go_wp2
  all_goals
    go_ret
    refine ⟨ret_int ?_, (Below.refl _ _).alloc (Nat.le_refl _) _⟩
    unfold faultP
    simp_all

theorem entryAt_any (f p : Int) (h0 : 0 ≤ f) (h1 : f < 9223372036854775808) (hp : 0 ≤ p) (hp' : p < 32) (W : World) :
    Calls Tryz.prog 76 #[.int .i64 f, .int .i64 p] W fun e W' => e = .returned (.tuple #[.int .u64 (atP f p), .bool (decide (f ≤ 72057594037927935))]) ∧ W' = W := by
  have w1 : IntKind.u64.wrap f = f := wraps_u64 _ (by omega) (by omega)
  have w2 : IntKind.u64.wrap p = p := wraps_u64 _ (by omega) (by omega)
  have w3 : IntKind.u64.wrap (p * 8) = p * 8 := wraps_u64 _ (by omega) (by omega)
  unfold atP
  go_enter Tryz.func76, Tryz.ntmps76
  go_wp2
  go_ret2
  exact ⟨rfl, rfl⟩

theorem catch_idle (W : World) : CallsD Tryz.prog 94 #[] .returning W fun e u' w' => e = .returned (.tuple #[]) ∧ u' = .returning ∧ w' = W := by
  refine callsD_of_wpS Tryz.func94 rfl fun c₀ cs hu => ?_
  apply wpS_region
  simp [wpOpsS, go_sem, recoverD, hu, Tryz.ntmps94]
  cases c₀
  simp_all [bodyPostS, results, Tryz.results94]

theorem load_method (b : Nat) (w : World) : (method 308 36 (.pointer (some ⟨b, 0, none⟩)) "Load").run Tryz.prog w = .ok (82, .pointer (some ⟨b, 0, none⟩)) w := by kernel_rfl
theorem number_mm (b g : Nat) (zs : List Int) (t : Int) (W : World) (hz : SZ W) (h : MM W b g zs) (ht : 0 ≤ t) (ht' : t < 18446744073709551616) :
    Calls Tryz.prog 77 #[.iface 36 (.pointer (some ⟨b, 0, none⟩)), .int .u64 t] W fun e W' => e = .returned (.tuple #[.int .u64 (loadV zs t 8), .bool (decide (numE zs.length t 8 = 0))]) ∧ Below W.heap.size W W' := by
  have L := mload_mm b g zs t 8 W hz h ht ht' (by decide)
  generalize loadV zs t 8 = x at *
  generalize numE zs.length t 8 = y at *
  have hm := load_method b
  go_enter_defers Tryz.func77, Tryz.ntmps77
  go_wp2_with fail
  refine L.mono ?_
  rintro e w1 ⟨rfl, hb1⟩
  go_wp2_with fail
  refine leaves_cons (f := 94) (args := #[]) (by simp) (by simp [go_sem]) ?_
  refine (catch_idle _).mono ?_
  rintro e u' w'' ⟨rfl, rfl, rfl⟩
  simp [Leaves, settle, results, Tryz.results77, go_sem]
  exact ⟨rfl, hb1⟩

theorem below_set3 {B : Nat} {W w : World} (h : Below B W w) {b : Nat} (hb : B ≤ b) (v0 v1 v2 : Value) :
    Below B W (((w.setCell ⟨b, 0, none⟩ v0).setCell ⟨b, 1, none⟩ v1).setCell ⟨b, 2, none⟩ v2) := ((h.setCell hb _).setCell hb _).setCell hb _

theorem refused_any (t a : Int) (u : Bool) (W : World) :
    Calls Tryz.prog 73 #[askV t a u] W fun e W' => e = .returned (trapV (faultP a 12 13 15) t 0) ∧ Below W.heap.size W W' := by
  obtain ⟨WW, HW⟩ : ∃ WW, Hid (WW = (W.alloc (.cells #[.int .u64 t, .int .i64 a, .bool u] 100)).alloc (.cells #[.int .i64 0, .int .u64 0, .int .u64 0] 102)) := ⟨_, rfl⟩
  have hb0 : Below W.heap.size W WW := by rw [HW.out]; exact ((Below.refl _ _).alloc (Nat.le_refl _) _).alloc (by simp) _
  have hsz : WW.heap.size = W.heap.size + 2 := by rw [HW.out]; simp
  have hcs : ∀ (s : Above WW) k, s.wld.cell? ⟨W.heap.size, k, none⟩ = _ := fun s k => (s.bel.cell (p := ⟨W.heap.size, k, none⟩) (by show W.heap.size < _; omega)).trans (by rw [HW.out])
  have hcell : ∀ (s : Above WW) k, s.wld.cell? ⟨W.heap.size + 1, k, none⟩ = _ := fun s k => (s.bel.cell (p := ⟨W.heap.size + 1, k, none⟩) (by show W.heap.size + 1 < _; omega)).trans (by rw [HW.out])
  have hfro : ∀ (s : Above WW) k, s.wld.frozen? ⟨W.heap.size + 1, k, none⟩ = _ := fun s k => (s.bel.frozen (p := ⟨W.heap.size + 1, k, none⟩) (by show W.heap.size + 1 < _; omega)).trans (by rw [HW.out])
  have C := fun s : Above WW => fault_any t a u 12 13 15 s.wld
  have hne := above_here WW
  unfold trapV askV at *
  generalize faultP a 12 13 15 = x at *
  go_enter Tryz.func73, Tryz.ntmps73
  go_wp2_with fail
  rw [← HW.out]
  refine wp_region_last_lit (by simp) (fun w' => ∃ s : Above WW, w' = s.wld) (by kernel_rfl) (by kernel_rfl) rfl rfl (by kernel_rfl) (by kernel_rfl) ⟨⟨_, (Below.refl _ _).drew⟩, rfl⟩ ?_
  simp only [List.dropLast, List.getLast]
  repeat (first
    | go_big_quiet_skip
    | (go_big_quiet_want; go_big_quiet_op; go_big_quiet_on))
  (go_big_quiet_want; go_big_quiet_op; apply Exists.intro; refine ⟨fun s => ?_, ?_⟩; exact above_call s (C s); go_big_quiet_on)
  repeat (first
    | go_big_quiet_skip
    | (go_big_quiet_want; go_big_quiet_op; go_big_quiet_on))
  refine wpQuiet_nil ?_
  rintro _ ⟨s, rfl⟩
  clear C
  go_wp2_with fail
  have hbase : Below W.heap.size W s.wld := hb0.trans (s.bel.mono (by omega))
  exact bodyPost_ret (v := .agg #[.int .i64 x, .int .u64 t, .int .u64 0]) (by simp [results, Tryz.results73, go_sem, hcell]) rfl ⟨rfl, below_set3 hbase (by omega) _ _ _⟩

theorem found_any (e : En) (l : Int) (W : World) :
    Calls Tryz.prog 41 #[e.val, .int .i64 l] W fun o W' => o = .returned (foundV e.f e.r e.w e.x e.u l) ∧ Below W.heap.size W W' := by
  obtain ⟨v, r, w, x, u, s, d, f⟩ := e
  unfold En.val ent foundV
  go_enter Tryz.func41, Tryz.ntmps41
  go_wp2
  exact bodyPost_ret (v := .agg #[.int .i64 f, .bool r, .bool w, .bool x, .bool u, .int .i64 l]) (by simp [results, Tryz.results41, go_sem]) rfl ⟨rfl, ((Below.refl _ _).alloc (Nat.le_refl _) _).alloc (by simp) _⟩
end Go.Proofs.YteghkhdpdeiocaaGreatDoor.E
namespace Go.Proofs.YteghkhdpdeiocaaGreatDoor.E
open Go.RowKit
set_option linter.unusedVariables false
set_option maxRecDepth 100000

/-- the entry at a place of a table, if it can be told -/
def readP [Bits] (zs : List Int) (f p : Int) : Option En :=
  if f ≤ 72057594037927935 ∧ numE zs.length (atP f p) 8 = 0 ∧ unpackE (loadV zs (atP f p) 8) = 0 then some (enOf (loadV zs (atP f p) 8)) else none
def rdV (t a : Int) : Option En → Value
  | none => .tuple #[En.zero.val, trapV (faultP a 12 13 15) t 0]
  | some e => .tuple #[e.val, trapV 0 0 0]

theorem at_range (f p : Int) : 0 ≤ atP f p ∧ atP f p < 18446744073709551616 := wrap_range _
theorem load_range (zs : List Int) (h : Bytes zs) (t : Int) : 0 ≤ loadV zs t 8 ∧ loadV zs t 8 < 18446744073709551616 := by
  unfold loadV
  split
  · have := leFrom_bound zs h 8 t.toNat
    simp only [extW]
    simpa using this
  · omega

theorem unpack_en [Bits] (n : Int) (h0 : 0 ≤ n) (h1 : n < 18446744073709551616) (W : World) (hT : BT W) :
    Calls Tryz.prog 78 #[.int .u64 n] W fun e W' => e = .returned (.tuple #[(enOf n).val, .int .i64 (unpackE n)]) ∧ Below W.heap.size W W' := by
  rw [← unpackV_en]
  cases hz : flagP n 0
  · rw [(wp_zero n hz).1, (wp_zero n hz).2]; exact unpack_zero n h0 h1 hz W hT
  · cases hp : isP n
    · rw [(wp_bad n hp hz).1, (wp_bad n hp hz).2]; exact unpack_bad n h0 h1 hz hp W hT
    · rw [(wp_good n hp hz).1, (wp_good n hp hz).2]; exact unpack_good n h0 h1 hz hp W hT

/-- the state in which a memory is walked -/
structure St [Bits] (w : World) (b g : Nat) (zs : List Int) : Prop where
  sz : SZ w
  bt : BT w
  mm : MM w b g zs
theorem St.below [Bits] {w w' : World} {b g : Nat} {zs : List Int} (h : St w b g zs) (hb : Below w.heap.size w w') : St w' b g zs := ⟨h.sz.below hb, h.bt.below hb, h.mm.below hb⟩

theorem below_set83 {B : Nat} {W w : World} (h : Below B W w) {b c : Nat} (hb : B ≤ b) (hc : B ≤ c) (v0 v1 v2 v3 v4 v5 v6 v7 u0 u1 u2 : Value) :
    Below B W (((((((((((w.setCell ⟨b, 0, none⟩ v0).setCell ⟨b, 1, none⟩ v1).setCell ⟨b, 2, none⟩ v2).setCell ⟨b, 3, none⟩ v3).setCell ⟨b, 4, none⟩ v4).setCell ⟨b, 5, none⟩ v5).setCell ⟨b, 6, none⟩ v6).setCell ⟨b, 7, none⟩ v7).setCell ⟨c, 0, none⟩ u0).setCell ⟨c, 1, none⟩ u1).setCell ⟨c, 2, none⟩ u2) :=
  below_set3 (below_set8 h hb _ _ _ _ _ _ _ _) hc _ _ _

set_option maxHeartbeats 1600000 in
theorem read_no_fit (t a : Int) (u : Bool) (f p : Int) (m : Value) (h0 : 0 ≤ f) (h1 : f < 9223372036854775808) (hp : 0 ≤ p) (hp' : p < 32) (hf : ¬ f ≤ 72057594037927935) (W : World) :
    Calls Tryz.prog 40 #[askV t a u, m, .int .i64 f, .int .i64 p] W fun e W' => e = .returned (rdV t a none) ∧ Below W.heap.size W W' := by
  have C1 := entryAt_any f p h0 h1 hp hp'
  have C2 := refused_any t a u
  rw [decide_eq_false hf] at C1
  unfold rdV En.zero En.val ent trapV askV at *
  generalize faultP a 12 13 15 = x at *
  generalize atP f p = q at *
  go_enter Tryz.func40, Tryz.ntmps40
  go_wp2_with fail
  refine (C1 _).mono ?_
  rintro e w1 ⟨rfl, rfl⟩
  go_wp2_with fail
  refine (C2 _).mono ?_
  rintro e w2 ⟨rfl, hb2⟩
  obtain ⟨hc2, hf2⟩ := bcell hb2
  simp only [World.size_alloc] at hc2 hf2
  have HB : Hid (Below W.heap.size W w2) := ((((Below.refl _ _).alloc (Nat.le_refl _) _).alloc (by simp) _).alloc (by simp; omega) _).trans (hb2.mono (by simp; omega))
  have hs2 : W.heap.size + 2 < w2.heap.size := by have := hb2.size; simp at this; omega
  clear hb2 C1 C2
  go_wp2_with fail
  refine bodyPost_ret (v := _) ?h1 rfl ⟨rfl, below_set83 HB.out (by omega) (by omega) _ _ _ _ _ _ _ _ _ _ _⟩
  case h1 => simp [results, Tryz.results40, go_sem, hc2]

set_option maxHeartbeats 1600000 in
theorem read_no_load [Bits] (t a : Int) (u : Bool) (f p : Int) (b g : Nat) (zs : List Int) (h0 : 0 ≤ f) (hp : 0 ≤ p) (hp' : p < 32) (hf : f ≤ 72057594037927935) (hn : ¬ numE zs.length (atP f p) 8 = 0) (W : World) (hS : St W b g zs) :
    Calls Tryz.prog 40 #[askV t a u, .iface 36 (.pointer (some ⟨b, 0, none⟩)), .int .i64 f, .int .i64 p] W fun e W' => e = .returned (rdV t a none) ∧ Below W.heap.size W W' := by
  have C1 := entryAt_any f p h0 (by omega) hp hp'
  have C2 := refused_any t a u
  have C3 := fun (W : World) (h : St W b g zs) => number_mm b g zs (atP f p) W h.sz h.mm (at_range f p).1 (at_range f p).2
  rw [decide_eq_true hf] at C1
  rw [decide_eq_false hn] at C3
  have HS : Hid (St W b g zs) := hS
  clear hS hn
  unfold rdV En.zero En.val ent trapV askV at *
  generalize faultP a 12 13 15 = x at *
  generalize atP f p = q at *
  generalize loadV zs q 8 = y at *
  go_enter Tryz.func40, Tryz.ntmps40
  go_wp2_with fail
  refine (C1 _).mono ?_
  rintro e w1 ⟨rfl, rfl⟩
  go_wp2_with fail
  refine (C3 _ (HS.out.below ((((Below.refl _ _).alloc (Nat.le_refl _) _).alloc (by simp) _).alloc (by simp; omega) _))).mono ?_
  rintro e w2 ⟨rfl, hb2⟩
  obtain ⟨hc2, hf2⟩ := bcell hb2
  simp only [World.size_alloc] at hc2 hf2
  have HB : Hid (Below W.heap.size W w2) := ((((Below.refl _ _).alloc (Nat.le_refl _) _).alloc (by simp) _).alloc (by simp; omega) _).trans (hb2.mono (by simp; omega))
  have HC : Hid (_) := hb2
  have hs2 : W.heap.size + 2 < w2.heap.size := by have := hb2.size; simp at this; omega
  clear hb2 C1 C3
  go_wp2_with fail
  refine (C2 _).mono ?_
  rintro e w3 ⟨rfl, hb3⟩
  have HB3 : Hid (Below W.heap.size W w3) := HB.out.trans (hb3.mono (by omega))
  have HC3 := HC.out.trans (hb3.mono (by simp; omega))
  clear hc2 hf2
  obtain ⟨hc3, hf3⟩ := bcell HC3
  simp only [World.size_alloc] at hc3 hf3
  have hs3 : W.heap.size + 2 < w3.heap.size := by have := hb3.size; omega
  clear hb3 C2 HC3 HC HB hs2
  go_wp2_with fail
  refine bodyPost_ret (v := _) ?h1 rfl ⟨rfl, below_set83 HB3.out (by omega) (by omega) _ _ _ _ _ _ _ _ _ _ _⟩
  case h1 => simp [results, Tryz.results40, go_sem, hc3]
end Go.Proofs.YteghkhdpdeiocaaGreatDoor.E
