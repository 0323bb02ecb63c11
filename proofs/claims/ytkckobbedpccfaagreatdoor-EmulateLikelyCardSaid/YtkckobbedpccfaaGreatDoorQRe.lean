/-
  Where an instruction loads or stores: the contract of reach.
-/
import Derived.Test.YtkckobbedpccfaaGreatDoorQHg
import Derived.Test.YtkckobbedpccfaaGreatDoorQOp
namespace Go.Proofs.YtkckobbedpccfaaGreatDoor
open Go.RowKit
set_option linter.unusedVariables false
set_option maxRecDepth 100000

def widthP (op : Int) : Int := if op = 25 ∨ op = 28 then 1 else if op = 24 ∨ op = 27 then 4 else 8
theorem width_cases (op : Int) : widthP op = 1 ∨ widthP op = 4 ∨ widthP op = 8 := by unfold widthP; split <;> (try split) <;> simp
set_option maxHeartbeats 1600000 in
theorem width_any (op : Int) (w : World) : Calls Tryz.prog 146 #[.int .i64 op] w fun e w' => e = .returned (.int .i64 (widthP op)) ∧ w' = w := by
  unfold widthP
  go_enter Tryz.func146, Tryz.ntmps146
  go_wp2
  all_goals
    go_ret
    refine ⟨ret_int ?_, rfl⟩
    simp_all
def plV (q pa wd k : Int) : Value := .agg #[.int .u64 q, .int .u64 pa, .int .i64 wd, .int .i64 k]
def kindC (k l s : Int) : Int := if k = 2 then s else l
set_option maxHeartbeats 1600000 in
theorem placeTrap_any (q pa wd k l s : Int) (w : World) : Calls Tryz.prog 145 #[plV q pa wd k, .int .i64 l, .int .i64 s] w fun e w' => e = .returned (trV (kindC k l s) q 0) ∧ Below w.heap.size w w' := by
  have hb : ∀ o1 o2, Below w.heap.size w ((w.alloc o1).alloc o2) := fun o1 o2 => below_res (Below.refl _ _) (Nat.le_refl _) o1 o2
  unfold plV trV kindC
  by_cases h : k = 2
  · rw [if_pos h]
    subst h
    go_enter Tryz.func145, Tryz.ntmps145
    go_wp2_with fail
    refine bodyPost_ret (v := _) ?h1 rfl ⟨rfl, hb _ _⟩
    case h1 => simp [results, Tryz.results145, go_sem]
  · rw [if_neg h]
    go_enter Tryz.func145, Tryz.ntmps145
    go_wp2_with fail
    refine bodyPost_ret (v := _) ?h1 rfl ⟨rfl, hb _ _⟩
    case h1 => simp [results, Tryz.results145, go_sem]

theorem below_set4 {B : Nat} {W w : World} (h : Below B W w) {b : Nat} (hb : B ≤ b) (v0 v1 v2 v3 : Value) :
    Below B W ((((w.setCell ⟨b, 0, none⟩ v0).setCell ⟨b, 1, none⟩ v1).setCell ⟨b, 2, none⟩ v2).setCell ⟨b, 3, none⟩ v3) := (((h.setCell hb _).setCell hb _).setCell hb _).setCell hb _
/-- the address that an instruction asks for -/
def Hs.asked (s : Hs) : Int := IntKind.u64.wrap (s.reg s.r1 + IntKind.u64.wrap s.im)
/-- what its access comes to -/
def Hs.rch (T : Hs → Int → Int → Int → Bool → Tr) (s : Hs) (k : Int) : Tr := if s.asked % widthP s.op = 0 then s.tr T s.asked k else ⟨0, kindC k 4 6, s.asked, 0⟩
def Hs.plc (T : Hs → Int → Int → Int → Bool → Tr) (s : Hs) (k : Int) : Value := if (s.rch T k).none then plV s.asked (s.rch T k).pa (widthP s.op) k else plV 0 0 0 0

end Go.Proofs.YtkckobbedpccfaaGreatDoor
