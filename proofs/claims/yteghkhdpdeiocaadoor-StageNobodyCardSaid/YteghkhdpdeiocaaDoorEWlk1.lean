/-
  What the small functions of package walk tell: their contracts.
-/
import Derived.Test.YteghkhdpdeiocaaDoorMem4
import Derived.Test.YteghkhdpdeiocaaDoorEEnt6
import Derived.Test.YteghkhdpdeiocaaDoorEEnt5
import Derived.Defers
import Derived.Recover
namespace Go.Proofs.YteghkhdpdeiocaaDoor.E
open Go.RowKit
set_option linter.unusedVariables false
set_option maxRecDepth 100000

/-- an entry -/
structure En where
  v : Bool
  r : Bool
  w : Bool
  x : Bool
  u : Bool
  s : Bool
  d : Bool
  f : Int
def En.val (e : En) : Value := ent e.v e.r e.w e.x e.u e.s e.d e.f
def En.zero : En := ⟨false, false, false, false, false, false, false, 0⟩
/-- the entry of a number, all 0 if there is none -/
def enOf [Bits] (n : Int) : En := if flagP n 0 && isP n then ⟨flagP n 0, flagP n 1, flagP n 2, flagP n 3, flagP n 4, flagP n 5, flagP n 6, frameP n⟩ else En.zero
theorem unpackV_en [Bits] (n : Int) : unpackV n = (enOf n).val := by
  unfold unpackV enOf
  split <;> rfl

def trapV (c v g : Int) : Value := .agg #[.int .i64 c, .int .u64 v, .int .u64 g]
def askV (t a : Int) (u : Bool) : Value := .agg #[.int .u64 t, .int .i64 a, .bool u]
def foundV (f : Int) (r w x u : Bool) (l : Int) : Value := .agg #[.int .i64 f, .bool r, .bool w, .bool x, .bool u, .int .i64 l]
/-- the fault of an access -/
def faultP (a f l s : Int) : Int := if a = 0 then f else if a = 2 then s else l
/-- the address of a table's entry -/
def atP (f p : Int) : Int := IntKind.u64.wrap (IntKind.u64.wrap (f * 256) + p * 8)

theorem fault_any (t a : Int) (u : Bool) (f l s : Int) (W : World) :
    Calls Tryd.prog 91 #[askV t a u, .int .i64 f, .int .i64 l, .int .i64 s] W fun e W' => e = .returned (.int .i64 (faultP a f l s)) ∧ Below W.heap.size W W' := by
  unfold askV
  go_enter Tryd.func91, Tryd.ntmps91
  go_wp2
  all_goals
    go_ret
    refine ⟨ret_int ?_, (Below.refl _ _).alloc (Nat.le_refl _) _⟩
    unfold faultP
    simp_all

theorem entryAt_any (f p : Int) (h0 : 0 ≤ f) (h1 : f < 9223372036854775808) (hp : 0 ≤ p) (hp' : p < 32) (W : World) :
    Calls Tryd.prog 79 #[.int .i64 f, .int .i64 p] W fun e W' => e = .returned (.tuple #[.int .u64 (atP f p), .bool (decide (f ≤ 72057594037927935))]) ∧ W' = W := by
  have w1 : IntKind.u64.wrap f = f := wraps_u64 _ (by omega) (by omega)
  have w2 : IntKind.u64.wrap p = p := wraps_u64 _ (by omega) (by omega)
  have w3 : IntKind.u64.wrap (p * 8) = p * 8 := wraps_u64 _ (by omega) (by omega)
  unfold atP
  go_enter Tryd.func79, Tryd.ntmps79
  go_wp2
  go_ret2
  exact ⟨rfl, rfl⟩

theorem catch_idle (W : World) : CallsD Tryd.prog 93 #[] .returning W fun e u' w' => e = .returned (.tuple #[]) ∧ u' = .returning ∧ w' = W := by
  refine callsD_of_wpS Tryd.func93 rfl fun c₀ cs hu => ?_
  apply wpS_region
  simp [wpOpsS, go_sem, recoverD, hu, Tryd.ntmps93]
  cases c₀
  simp_all [bodyPostS, results, Tryd.results93]

theorem load_method (b : Nat) (w : World) : (method 308 27 (.pointer (some ⟨b, 0, none⟩)) "Load").run Tryd.prog w = .ok (59, .pointer (some ⟨b, 0, none⟩)) w := by kernel_rfl
theorem number_mm (b g : Nat) (zs : List Int) (t : Int) (W : World) (hz : SZ W) (h : MM W b g zs) (ht : 0 ≤ t) (ht' : t < 18446744073709551616) :
    Calls Tryd.prog 80 #[.iface 27 (.pointer (some ⟨b, 0, none⟩)), .int .u64 t] W fun e W' => e = .returned (.tuple #[.int .u64 (loadV zs t 8), .bool (decide (numE zs.length t 8 = 0))]) ∧ Below W.heap.size W W' := by
  have L := mload_mm b g zs t 8 W hz h ht ht' (by decide)
  generalize loadV zs t 8 = x at *
  generalize numE zs.length t 8 = y at *
  have hm := load_method b
  go_enter_defers Tryd.func80, Tryd.ntmps80
  go_wp2_with fail
  refine L.mono ?_
  rintro e w1 ⟨rfl, hb1⟩
  go_wp2_with fail
  refine leaves_cons (f := 93) (args := #[]) (by simp) (by simp [go_sem]) ?_
  refine (catch_idle _).mono ?_
  rintro e u' w'' ⟨rfl, rfl, rfl⟩
  simp [Leaves, settle, results, Tryd.results80, go_sem]
  exact ⟨rfl, hb1⟩

theorem below_set3 {B : Nat} {W w : World} (h : Below B W w) {b : Nat} (hb : B ≤ b) (v0 v1 v2 : Value) :
    Below B W (((w.setCell ⟨b, 0, none⟩ v0).setCell ⟨b, 1, none⟩ v1).setCell ⟨b, 2, none⟩ v2) := ((h.setCell hb _).setCell hb _).setCell hb _

theorem refused_any (t a : Int) (u : Bool) (W : World) :
    Calls Tryd.prog 76 #[askV t a u] W fun e W' => e = .returned (trapV (faultP a 12 13 15) t 0) ∧ Below W.heap.size W W' := by
  obtain ⟨WW, HW⟩ : ∃ WW, Hid (WW = (W.alloc (.cells #[.int .u64 t, .int .i64 a, .bool u] 115)).alloc (.cells #[.int .i64 0, .int .u64 0, .int .u64 0] 117)) := ⟨_, rfl⟩
  have hb0 : Below W.heap.size W WW := by rw [HW.out]; exact ((Below.refl _ _).alloc (Nat.le_refl _) _).alloc (by simp) _
  have hsz : WW.heap.size = W.heap.size + 2 := by rw [HW.out]; simp
  have hcs : ∀ (s : Above WW) k, s.wld.cell? ⟨W.heap.size, k, none⟩ = _ := fun s k => (s.bel.cell (p := ⟨W.heap.size, k, none⟩) (by show W.heap.size < _; omega)).trans (by rw [HW.out])
  have hcell : ∀ (s : Above WW) k, s.wld.cell? ⟨W.heap.size + 1, k, none⟩ = _ := fun s k => (s.bel.cell (p := ⟨W.heap.size + 1, k, none⟩) (by show W.heap.size + 1 < _; omega)).trans (by rw [HW.out])
  have hfro : ∀ (s : Above WW) k, s.wld.frozen? ⟨W.heap.size + 1, k, none⟩ = _ := fun s k => (s.bel.frozen (p := ⟨W.heap.size + 1, k, none⟩) (by show W.heap.size + 1 < _; omega)).trans (by rw [HW.out])
  have C := fun s : Above WW => fault_any t a u 12 13 15 s.wld
  have hne := above_here WW
  unfold trapV askV at *
  generalize faultP a 12 13 15 = x at *
  go_enter Tryd.func76, Tryd.ntmps76
  go_wp2_with fail
  rw [← HW.out]
  refine wp_region_last_lit (by simp) (fun w' => ∃ s : Above WW, w' = s.wld) (by kernel_rfl) (by kernel_rfl) rfl rfl (by kernel_rfl) (by kernel_rfl) ⟨⟨_, (Below.refl _ _).drew⟩, rfl⟩ ?_
  simp only [List.dropLast, List.getLast]
  repeat (first
    | go_big_quiet_skip
    | (go_big_quiet_want; go_big_quiet_op; go_big_quiet_on))
  (go_big_quiet_want; go_big_quiet_op; apply Exists.intro; refine ⟨fun s => ?_, ?_⟩; exact above_call s (C s); go_big_quiet_on)
  repeat (first
    | go_big_quiet_skip
    | (go_big_quiet_want; go_big_quiet_op; go_big_quiet_on))
  refine wpQuiet_nil ?_
  rintro _ ⟨s, rfl⟩
  clear C
  go_wp2_with fail
  have hbase : Below W.heap.size W s.wld := hb0.trans (s.bel.mono (by omega))
  exact bodyPost_ret (v := .agg #[.int .i64 x, .int .u64 t, .int .u64 0]) (by simp [results, Tryd.results76, go_sem, hcell]) rfl ⟨rfl, below_set3 hbase (by omega) _ _ _⟩

theorem found_any (e : En) (l : Int) (W : World) :
    Calls Tryd.prog 55 #[e.val, .int .i64 l] W fun o W' => o = .returned (foundV e.f e.r e.w e.x e.u l) ∧ Below W.heap.size W W' := by
  obtain ⟨v, r, w, x, u, s, d, f⟩ := e
  unfold En.val ent foundV
  go_enter Tryd.func55, Tryd.ntmps55
  go_wp2
  exact bodyPost_ret (v := .agg #[.int .i64 f, .bool r, .bool w, .bool x, .bool u, .int .i64 l]) (by simp [results, Tryd.results55, go_sem]) rfl ⟨rfl, ((Below.refl _ _).alloc (Nat.le_refl _) _).alloc (by simp) _⟩
end Go.Proofs.YteghkhdpdeiocaaDoor.E
