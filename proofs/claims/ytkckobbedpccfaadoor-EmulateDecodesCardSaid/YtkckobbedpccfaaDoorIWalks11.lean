/-
  Encode of package insn: its contract.
-/
import Derived.Test.YtkckobbedpccfaaDoorIWalks10
namespace Go.Proofs.YtkckobbedpccfaaDoor.I
open Go.RowKit
set_option linter.unusedVariables false
set_option maxRecDepth 100000

theorem rpl26 (v : Int) (h0 : 0 ≤ v) (h1 : v ≤ 63) (w : World) :
    Calls Tryd.prog 20 #[.int .u32 0, .int .i64 v, .int .i64 26, .int .i64 6] w fun e w' => e = .returned (.int .u32 (v * 67108864)) ∧ w' = w := by
  have := rplace_any 0 v 26 6 (by decide) (by decide) (by decide) (by decide) w
  rwa [p26, Int.emod_eq_of_lt h0 (by omega)] at this
theorem rpl22 (a v : Int) (ha : 0 ≤ a) (ha' : a ≤ 4294967295) (hm : a % 67108864 = 0) (h0 : 0 ≤ v) (h1 : v ≤ 15) (w : World) :
    Calls Tryd.prog 20 #[.int .u32 a, .int .i64 v, .int .i64 22, .int .i64 4] w fun e w' => e = .returned (.int .u32 (a + v * 4194304)) ∧ w' = w := by
  have := rplace_any a v 22 4 ha ha' (by decide) (by decide) w
  rwa [p22 a v ha ha' hm, Int.emod_eq_of_lt h0 (by omega)] at this
theorem rpl18 (a v : Int) (ha : 0 ≤ a) (ha' : a ≤ 4294967295) (hm : a % 4194304 = 0) (h0 : 0 ≤ v) (h1 : v ≤ 15) (w : World) :
    Calls Tryd.prog 20 #[.int .u32 a, .int .i64 v, .int .i64 18, .int .i64 4] w fun e w' => e = .returned (.int .u32 (a + v * 262144)) ∧ w' = w := by
  have := rplace_any a v 18 4 ha ha' (by decide) (by decide) w
  rwa [p18 a v ha ha' hm, Int.emod_eq_of_lt h0 (by omega)] at this
theorem rpl14 (a v : Int) (ha : 0 ≤ a) (ha' : a ≤ 4294967295) (hm : a % 262144 = 0) (h0 : 0 ≤ v) (h1 : v ≤ 15) (w : World) :
    Calls Tryd.prog 20 #[.int .u32 a, .int .i64 v, .int .i64 14, .int .i64 4] w fun e w' => e = .returned (.int .u32 (a + v * 16384)) ∧ w' = w := by
  have := rplace_any a v 14 4 ha ha' (by decide) (by decide) w
  rwa [p14 a v ha ha' hm, Int.emod_eq_of_lt h0 (by omega)] at this
theorem rpl0s (a v : Int) (ha : 0 ≤ a) (ha' : a ≤ 4294967295) (hm : a % 16384 = 0) (w : World) :
    Calls Tryd.prog 20 #[.int .u32 a, .int .i64 v, .int .i64 0, .int .i64 14] w fun e w' => e = .returned (.int .u32 (a + v % 16384)) ∧ w' = w := by
  have := rplace_any a v 0 14 ha ha' (by decide) (by decide) w
  rwa [p0s a v ha ha' hm] at this
theorem rpl0l (a v : Int) (ha : 0 ≤ a) (ha' : a ≤ 4294967295) (hm : a % 262144 = 0) (w : World) :
    Calls Tryd.prog 20 #[.int .u32 a, .int .i64 v, .int .i64 0, .int .i64 18] w fun e w' => e = .returned (.int .u32 (a + v % 262144)) ∧ w' = w := by
  have := rplace_any a v 0 18 ha ha' (by decide) (by decide) w
  rwa [p0l a v ha ha' hm] at this

theorem ret_ii {k l : IntKind} {a b c d : Int} (h : a = b) (g : c = d) : Ending.returned (.tuple #[.int k a, .int l c]) = .returned (.tuple #[.int k b, .int l d]) := by rw [h, g]

def encW (op rd rs1 rs2 imm : Int) : Int := if validP op rd rs1 rs2 imm then wordP op rd rs1 rs2 imm else 0
def encE (op rd rs1 rs2 imm : Int) : Int := if validP op rd rs1 rs2 imm then 0 else 10

end Go.Proofs.YtkckobbedpccfaaDoor.I
