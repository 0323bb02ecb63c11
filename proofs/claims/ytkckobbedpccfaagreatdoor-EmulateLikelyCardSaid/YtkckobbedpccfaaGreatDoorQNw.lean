/-
  The law HartNobody: without registers, file or bus there is no step.
-/
import Derived.Test.YtkckobbedpccfaaGreatDoorQN
namespace Go.Proofs.YtkckobbedpccfaaGreatDoor
open Go.RowKit
set_option linter.unusedVariables false
set_option maxRecDepth 100000

/-- what a law is given: a state of thirty-four cells, and what its slices hold -/
structure Given (W : World) (cs : Array Value) (X R : Nat → Int) (pc mode sec : Int) (iN wN pN : Nat) (xs : List I5) (ws : List Int) (ps : List (Int × Int)) (ia wa pa : Option Addr) (iC wC pC : Nat) : Prop where
  kX : ∀ n, n < 16 → cs[n]? = some (.int .u64 (X n))
  k16 : cs[16]? = some (.int .u64 pc)
  k17 : cs[17]? = some (.int .i64 mode)
  kR : ∀ n, n < 12 → cs[18 + n]? = some (.int .u64 (R n))
  k30 : cs[30]? = some (.slice ia iN iC)
  k31 : cs[31]? = some (.slice wa wN wC)
  k32 : cs[32]? = some (.slice pa pN pC)
  k33 : cs[33]? = some (.int .i64 sec)
  size : cs.size = 34
  one : cs.all (·.oneCell') = true
  hX : ∀ n, n < 16 → C.U (X n)
  hpc : C.U pc
  hR : ∀ n, n < 12 → C.U (R n)
  hi : InsnsIn W ia iN xs
  hiC : iN ≤ iC
  hiM : iC ≤ 9223372036854775807
  hw : WordsIn W wa wN ws
  hwC : wN ≤ wC
  hwM : wC ≤ 9223372036854775807
  hwn : wa = none → wN = 0 ∧ wC = 0
  hp : PokesIn W pa pN ps
  hpC : pN ≤ pC
  hpM : pC ≤ 9223372036854775807
  hsz : (wN + iN) * 4 ≤ 140737488355328
/-- both, of a world that has grown -/
theorem Given.both {W W1 : World} {cs : Array Value} {X R : Nat → Int} {pc mode sec : Int} {iN wN pN : Nat} {xs : List I5} {ws : List Int} {ps : List (Int × Int)} {ia wa pa : Option Addr} {iC wC pC : Nat} (h : Given W cs X R pc mode sec iN wN pN xs ws ps ia wa pa iC wC pC) (hz : SZ W) (hb : Below W.heap.size W W1) :
    Calls Tryz.prog 16 #[.agg cs] W1 fun e W' => ∃ b g c h F G B Q, e = .returned (.tuple #[.pointer (some ⟨F, 0, none⟩), .pointer (some ⟨G, 0, none⟩), .pointer (some ⟨B, 0, none⟩), .pointer (some ⟨Q, 0, none⟩), .bool true]) ∧
      Made W1 W' b g c h F G B Q (memW pc (ws ++ xs.map I5.enc) (memP ps (List.replicate 3072 0) pN) (wN + iN)) R sec :=
  both_any cs R pc sec ia wa pa iN iC wN wC pN pC xs ws ps W1 h.k16 h.k30 h.k31 h.k32 h.k33 h.kR (hz.below hb) h.hpc h.hR h.size (h.hi.below rfl hb) h.hiC h.hiM (h.hw.below rfl hb) h.hwC h.hwM h.hwn (h.hp.below rfl hb) h.hpC h.hpM h.hsz
/-- the registers in a state -/
theorem Given.regs {W : World} {cs : Array Value} {X R : Nat → Int} {pc mode sec : Int} {iN wN pN : Nat} {xs : List I5} {ws : List Int} {ps : List (Int × Int)} {ia wa pa : Option Addr} {iC wC pC : Nat} (h : Given W cs X R pc mode sec iN wN pN xs ws ps ia wa pa iC wC pC) :
    (regC X pc mode).size = 18 ∧ (∀ n, n < 16 → (regC X pc mode)[n]? = some (.int .u64 (X n))) ∧ ∀ (w : World) (A : Nat), w.heap[A]? = some (.cells cs 31 (0, 0)) → w.rangeAt A 0 (regC X pc mode).toList := by
  have e : ∀ n, n < 16 → (regC X pc mode)[n]? = some (.int .u64 (X n)) := fun n hn => by
    match n, hn with
    | 0, _ | 1, _ | 2, _ | 3, _ | 4, _ | 5, _ | 6, _ | 7, _ | 8, _ | 9, _ | 10, _ | 11, _ | 12, _ | 13, _ | 14, _ | 15, _ => rfl
    | k + 16, h => omega
  refine ⟨rfl, e, fun w A ha j v hv => ?_⟩
  rw [Nat.zero_add, C.cell_at ha]
  have hv' : (regC X pc mode)[j]? = some v := by simpa using hv
  have hj : j < 18 := (Array.getElem?_eq_some_iff.1 hv').1
  by_cases h16 : j < 16
  · rw [e j h16] at hv'
    rw [h.kX j h16, hv']
  · have : j = 16 ∨ j = 17 := by omega
    rcases this with rfl | rfl
    · rw [h.k16]; exact hv'
    · rw [h.k17]; exact hv'
theorem reg_one (X : Nat → Int) (pc mode : Int) : (regC X pc mode).all (·.oneCell') = true := by simp [regC, Value.oneCell']

theorem new_row (w : World) (old rc : Array Value) (t : TypeId) : ((w.alloc (.cells old t)).setRow w.heap.size rc).heap[w.heap.size]? = some (.cells rc t (0, 0)) ∧ Below w.heap.size w ((w.alloc (.cells old t)).setRow w.heap.size rc) ∧ ((w.alloc (.cells old t)).setRow w.heap.size rc).heap.size = w.heap.size + 1 := by
  refine ⟨setRow_heap _ _ old rc t _ (C.heap_alloc_at w _), ?_, by simp [World.setRow]⟩
  refine ((Below.refl w.heap.size w).alloc (Nat.le_refl _) (.cells old t)).trans ⟨rfl, rfl, rfl, by simp [World.setRow], fun k hk => setRow_other _ _ k _ (by omega)⟩

theorem cells18 {w : World} {k : Nat} {cs : Array Value} {t : TypeId} {X : Nat → Int} {pc mode : Int} (h : w.heap[k]? = some (.cells cs t (0, 0))) (hc : ∀ n, n < 16 → cs[n]? = some (.int .u64 (X n))) (h16 : cs[16]? = some (.int .u64 pc)) (h17 : cs[17]? = some (.int .i64 mode)) :
    w.cell? ⟨k, 0, none⟩ = some (.int .u64 (X 0)) ∧ w.cell? ⟨k, 1, none⟩ = some (.int .u64 (X 1)) ∧ w.cell? ⟨k, 2, none⟩ = some (.int .u64 (X 2)) ∧ w.cell? ⟨k, 3, none⟩ = some (.int .u64 (X 3)) ∧ w.cell? ⟨k, 4, none⟩ = some (.int .u64 (X 4)) ∧ w.cell? ⟨k, 5, none⟩ = some (.int .u64 (X 5)) ∧ w.cell? ⟨k, 6, none⟩ = some (.int .u64 (X 6)) ∧ w.cell? ⟨k, 7, none⟩ = some (.int .u64 (X 7)) ∧
    w.cell? ⟨k, 8, none⟩ = some (.int .u64 (X 8)) ∧ w.cell? ⟨k, 9, none⟩ = some (.int .u64 (X 9)) ∧ w.cell? ⟨k, 10, none⟩ = some (.int .u64 (X 10)) ∧ w.cell? ⟨k, 11, none⟩ = some (.int .u64 (X 11)) ∧ w.cell? ⟨k, 12, none⟩ = some (.int .u64 (X 12)) ∧ w.cell? ⟨k, 13, none⟩ = some (.int .u64 (X 13)) ∧ w.cell? ⟨k, 14, none⟩ = some (.int .u64 (X 14)) ∧ w.cell? ⟨k, 15, none⟩ = some (.int .u64 (X 15)) ∧
    w.cell? ⟨k, 16, none⟩ = some (.int .u64 pc) ∧ w.cell? ⟨k, 17, none⟩ = some (.int .i64 mode) ∧ k < w.heap.size := by
  refine ⟨?_, ?_, ?_, ?_, ?_, ?_, ?_, ?_, ?_, ?_, ?_, ?_, ?_, ?_, ?_, ?_, ?_, ?_, lt_of_heap h⟩
  all_goals rw [C.cell_at h]
  any_goals exact hc _ (by decide)
  · exact h16
  · exact h17

theorem und41 : ∃ fs, Tryz.prog.underlying 57 = some (.struct fs) := ⟨_, Tryz.underlying57⟩
theorem inf41 : (Tryz.prog.info? 57).map (·.size) = some 6 := by kernel_rfl
theorem eq_none (w : World) : (Op.equalIn 10000 57 (.agg #[.int .i64 0, .int .i64 0, .int .u64 0, .int .u64 0, .bool false, .bool false]) (.agg #[.int .i64 0, .int .i64 0, .int .u64 0, .int .u64 0, .bool false, .bool false])).run Tryz.prog w = .ok true w := by kernel_rfl

end Go.Proofs.YtkckobbedpccfaaGreatDoor
