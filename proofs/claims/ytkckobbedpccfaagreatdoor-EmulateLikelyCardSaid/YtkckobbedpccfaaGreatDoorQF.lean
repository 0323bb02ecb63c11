/-
  The control registers as a block of thirteen cells: the small functions' contracts.
  What made, isRegister, has, turn, waiting, reach, New, Get and Set do.
-/
import Derived.Test.YtkckobbedpccfaaGreatDoorRows
import Derived.WalkKit
import Derived.ProofKit
import Derived.OpenShut
import Derived.Deep.QuietTactic
import Derived.BigQuiet
import Derived.Deep.RegionLaw
import Derived.Laws.Closers25b
namespace Go.Proofs.YtkckobbedpccfaaGreatDoor.C
open Go.RowKit
set_option linter.unusedVariables false
set_option maxRecDepth 100000

theorem ret_bool {a b : Bool} (h : a = b) : Ending.returned (.bool a) = .returned (.bool b) := by rw [h]
theorem ret_int {k : IntKind} {a b : Int} (h : a = b) : Ending.returned (.int k a) = .returned (.int k b) := by rw [h]
theorem bcell {B : Nat} {W w1 : World} (hb : Below B W w1) : (∀ b o, b < B → w1.cell? ⟨b, o, none⟩ = W.cell? ⟨b, o, none⟩) ∧ (∀ b o, b < B → w1.frozen? ⟨b, o, none⟩ = W.frozen? ⟨b, o, none⟩) :=
  ⟨fun b o h => hb.cell (p := ⟨b, o, none⟩) h, fun b o h => hb.frozen (p := ⟨b, o, none⟩) h⟩
theorem lt_of_heap {w : World} {b : Nat} {o : Obj} (h : w.heap[b]? = some o) : b < w.heap.size := (Array.getElem?_eq_some_iff.1 h).1
theorem cell_at {w : World} {b : Nat} {cs : Array Value} {t : TypeId} (h : w.heap[b]? = some (.cells cs t (0, 0))) (o : Nat) : w.cell? ⟨b, o, none⟩ = cs[o]? := by simp [World.cell?, h]
theorem heap_alloc_at (w : World) (o : Obj) : (w.alloc o).heap[w.heap.size]? = some o := by show (w.heap.push o)[w.heap.size]? = _; simp
theorem heap_alloc_past (w : World) (o : Obj) {k : Nat} (h : k < w.heap.size) : (w.alloc o).heap[k]? = w.heap[k]? := by show (w.heap.push o)[k]? = _; simp [Array.getElem?_push, Nat.ne_of_lt h]
theorem gr_keep {w w' : World} {m : Nat} (h : w.grownBy w' (some m)) {k : Nat} (hk : k < w.heap.size) (hm : k ≠ m) : w'.heap[k]? = w.heap[k]? :=
  h.block k hk (fun e => hm (by cases e; rfl))
theorem grown_trans {a b c : World} {r : Option Nat} (h : a.grownBy b r) (k : b.grownBy c r) : a.grownBy c r :=
  ⟨k.os.trans h.os, k.tape.trans h.tape, k.output.trans h.output, Nat.le_trans h.size k.size, fun i hi hr => (k.block i (Nat.lt_of_lt_of_le hi h.size) hr).trans (h.block i hi hr)⟩
theorem grown_of_below {w w' : World} {m : Option Nat} (h : Below w.heap.size w w') : w.grownBy w' m := ⟨h.os, h.tape, h.output, h.size, fun k hk _ => h.block k hk⟩
theorem grown_refl (w : World) (m : Option Nat) : w.grownBy w m := ⟨rfl, rfl, rfl, Nat.le_refl _, fun _ _ _ => rfl⟩
theorem gr_below {B : Nat} {w w' : World} {m : Nat} (h : w.grownBy w' (some m)) (hB : B ≤ m) (hw : B ≤ w.heap.size) : Below B w w' :=
  ⟨h.os, h.tape, h.output, h.size, fun k hk => h.block k (by omega) (fun e => by cases e; omega)⟩

/-- a register is a word -/
def U (x : Int) : Prop := 0 ≤ x ∧ x < 18446744073709551616
/-- one register turned -/
def upd (R : Nat → Int) (n : Nat) (v : Int) : Nat → Int := fun k => if k = n then v else R k
/-- the control registers, in the block F -/
structure FF (w : World) (F : Nat) (R : Nat → Int) : Prop where
  blk : ∃ cs : Array Value, w.heap[F]? = some (.cells cs 91 (0, 0)) ∧ cs.size = 13 ∧ cs[0]? = some (.bool true) ∧ ∀ n, n < 12 → cs[1 + n]? = some (.int .u64 (R n))
  rg : ∀ n, n < 12 → U (R n)
theorem FF.lt {w : World} {F : Nat} {R : Nat → Int} (h : FF w F R) : F < w.heap.size := by
  obtain ⟨⟨cs, h, _⟩, _⟩ := h
  exact lt_of_heap h
theorem FF.keep {w w' : World} {F : Nat} {R : Nat → Int} (h : FF w F R) (hk : w'.heap[F]? = w.heap[F]?) : FF w' F R := by
  obtain ⟨⟨cs, h, r⟩, q⟩ := h
  exact ⟨⟨cs, hk.trans h, r⟩, q⟩
theorem FF.below {w w' : World} {F : Nat} {R : Nat → Int} (h : FF w F R) (hk : Below w.heap.size w w') : FF w' F R := h.keep (hk.block F h.lt)
theorem FF.c0 {w : World} {F : Nat} {R : Nat → Int} (h : FF w F R) : w.cell? ⟨F, 0, none⟩ = some (.bool true) := by
  obtain ⟨⟨cs, h, h1, h2, h3⟩, _⟩ := h
  rw [cell_at h, h2]
theorem FF.c {w : World} {F : Nat} {R : Nat → Int} (h : FF w F R) (n : Nat) (hn : n < 12) : w.cell? ⟨F, 1 + n, none⟩ = some (.int .u64 (R n)) := by
  obtain ⟨⟨cs, h, h1, h2, h3⟩, _⟩ := h
  rw [cell_at h, h3 n hn]
theorem FF.f {w : World} {F : Nat} {R : Nat → Int} (h : FF w F R) (o : Nat) : w.frozen? ⟨F, o, none⟩ = false := by
  obtain ⟨⟨cs, h, h1, h2, h3⟩, _⟩ := h
  simp [World.frozen?, h]
theorem FF.set {w : World} {F : Nat} {R : Nat → Int} (h : FF w F R) (n : Nat) (hn : n < 12) (v : Int) (hv : U v) : FF (w.setCell ⟨F, 1 + n, none⟩ (.int .u64 v)) F (upd R n v) ∧ w.grownBy (w.setCell ⟨F, 1 + n, none⟩ (.int .u64 v)) (some F) := by
  obtain ⟨⟨cs, h, h1, h2, h3⟩, h4⟩ := h
  have e := setCell_eq_setRow w F (1 + n) cs 91 (0, 0) (.int .u64 v) h
  rw [e]
  have hh : (w.setRow F (cs.setIfInBounds (1 + n) (.int .u64 v))).heap[F]? = _ := setRow_heap w F cs _ 91 _ h
  refine ⟨⟨⟨_, hh, by simpa using h1, ?_, fun k hk => ?_⟩, fun k hk => ?_⟩, ?_⟩
  · rw [Array.getElem?_setIfInBounds]
    rw [if_neg (by omega)]
    exact h2
  · rw [Array.getElem?_setIfInBounds]
    unfold upd
    by_cases e : k = n
    · subst e
      rw [if_pos rfl, if_pos (by omega), if_pos rfl]
    · rw [if_neg (by omega), if_neg e]
      exact h3 k hk
  · unfold upd
    by_cases e : k = n
    · rw [if_pos e]; exact hv
    · rw [if_neg e]; exact h4 k hk
  · exact ⟨rfl, rfl, rfl, by simp [World.setRow], fun k hk hne => setRow_other w F k _ (fun e => hne (by rw [e]))⟩
end Go.Proofs.YtkckobbedpccfaaGreatDoor.C
namespace Go.Proofs.YtkckobbedpccfaaGreatDoor.C
open Go.RowKit
set_option linter.unusedVariables false
set_option maxRecDepth 100000

theorem FF.congr {w : World} {F : Nat} {R R' : Nat → Int} (h : FF w F R) (e : ∀ n, n < 12 → R n = R' n) : FF w F R' := by
  obtain ⟨⟨cs, b1, b2, b3, b4⟩, q⟩ := h
  exact ⟨⟨cs, b1, b2, b3, fun n hn => e n hn ▸ b4 n hn⟩, fun n hn => e n hn ▸ q n hn⟩
theorem made_ff (F : Nat) (R : Nat → Int) (w : World) (h : FF w F R) : Calls Tryz.prog 25 #[.pointer (some ⟨F, 0, none⟩)] w fun e w' => e = .returned (.bool true) ∧ w' = w := by
  have c0 := h.c0
  have hl := h.lt
  clear h
  go_enter Tryz.func25, Tryz.ntmps25
  go_wp2
  go_ret
  exact ⟨rfl, rfl⟩
theorem below_drewN {B : Nat} {W w : World} (h : Below B W w) : ∀ n, Below B W (w.drewN n) := fun n => ⟨h.os, h.tape, h.output, h.size, h.block⟩
/-- is it a register -/
def regP (n : Int) : Bool := decide (0 ≤ n) && decide (n < 12)
theorem isreg (n : Int) (w : World) : Calls Tryz.prog 26 #[.int .i64 n] w fun e w' => e = .returned (.bool (regP n)) ∧ w' = w := by
  unfold regP
  by_cases h0 : 0 ≤ n
  · by_cases h1 : n < 12
    · go_enter Tryz.func26, Tryz.ntmps26
      go_wp2
      go_ret
      exact ⟨ret_bool (by simp [h0, h1]), rfl⟩
    · go_enter Tryz.func26, Tryz.ntmps26
      go_wp2
      go_ret
      exact ⟨ret_bool (by simp [h1]), rfl⟩
  · go_enter Tryz.func26, Tryz.ntmps26
    go_wp2
    go_ret
    exact ⟨ret_bool (by simp; omega), rfl⟩
theorem regP_nat (n : Nat) (h : n < 12) : regP n = true := by simp [regP]; omega
/-- is a bit set -/
def hasP (x b : Int) : Bool := bits .and .u64 x b != 0
theorem has_ff (F : Nat) (R : Nat → Int) (n : Nat) (hn : n < 12) (b : Int) (w : World) (h : FF w F R) : Calls Tryz.prog 69 #[.pointer (some ⟨F, 0, none⟩), .int .i64 n, .int .u64 b] w fun e w' => e = .returned (.bool (hasP (R n) b)) ∧ w' = w := by
  have c := h.c n hn
  have hl := h.lt
  have hr := h.rg n hn
  have hn' : (n : Int) < 12 := by omega
  clear h
  unfold hasP
  go_enter Tryz.func69, Tryz.ntmps69
  go_wp2
  go_ret
  exact ⟨rfl, rfl⟩
theorem grown_drew {w w' : World} {m : Option Nat} (h : w.grownBy w' m) : w.grownBy w'.drew m := ⟨h.os, h.tape, h.output, h.size, h.block⟩
/-- a bit set, or taken away -/
def turnP (x b : Int) (on : Bool) : Int := if on then bits .or .u64 x b else bits .andNot .u64 x b
theorem bits_U (op : BinOp) (a b : Int) : U (bits op .u64 a b) := ⟨Go.bits_lo_u64 op a b, by have := Go.bits_hi_u64 op a b; omega⟩
theorem turn_ff (F : Nat) (R : Nat → Int) (n : Nat) (hn : n < 12) (b : Int) (on : Bool) (w : World) (h : FF w F R) : Calls Tryz.prog 89 #[.pointer (some ⟨F, 0, none⟩), .int .i64 n, .int .u64 b, .bool on] w fun e w' => e = .returned (.tuple #[]) ∧ FF w' F (upd R n (turnP (R n) b on)) ∧ w.grownBy w' (some F) := by
  have c := h.c n hn
  have hl := h.lt
  have hf := h.f (1 + n)
  have hn' : (n : Int) < 12 := by omega
  cases on
  · have HF : Hid (FF (w.setCell ⟨F, 1 + n, none⟩ (.int .u64 (bits .andNot .u64 (R n) b))) F (upd R n (turnP (R n) b false)) ∧ w.grownBy (w.setCell ⟨F, 1 + n, none⟩ (.int .u64 (bits .andNot .u64 (R n) b))) (some F)) := h.set n hn _ (bits_U _ _ _)
    clear h
    go_enter Tryz.func89, Tryz.ntmps89
    go_wp2_with fail
    go_region
    all_goals
      exact bodyPost_end (v := .tuple #[]) (by simp [results, Tryz.results89]) rfl ⟨rfl, HF.out.1.keep rfl, grown_drew HF.out.2⟩
  · have HF : Hid (FF (w.setCell ⟨F, 1 + n, none⟩ (.int .u64 (bits .or .u64 (R n) b))) F (upd R n (turnP (R n) b true)) ∧ w.grownBy (w.setCell ⟨F, 1 + n, none⟩ (.int .u64 (bits .or .u64 (R n) b))) (some F)) := h.set n hn _ (bits_U _ _ _)
    clear h
    go_enter Tryz.func89, Tryz.ntmps89
    go_wp2_with fail
    go_region
    all_goals
      go_wp2_with fail
      exact bodyPost_ret (v := .tuple #[]) (by simp [results, Tryz.results89]) rfl ⟨rfl, HF.out.1.keep rfl, grown_drew HF.out.2⟩

/-- the lines that are enabled and set -/
def waitP (R : Nat → Int) : Int := bits .and .u64 (bits .and .u64 (R 1) (R 2)) 546
theorem waiting_ff (F : Nat) (R : Nat → Int) (w : World) (h : FF w F R) : Calls Tryz.prog 70 #[.pointer (some ⟨F, 0, none⟩)] w fun e w' => e = .returned (.int .u64 (waitP R)) ∧ Below w.heap.size w w' := by
  have c1 := h.c 1 (by decide)
  have c2 := h.c 2 (by decide)
  have hl := h.lt
  unfold waitP
  clear h
  go_enter Tryz.func70, Tryz.ntmps70
  go_wp2_with fail
  go_quiet (fail)
  go_wp2_with fail
  go_ret
  exact ⟨rfl, below_drewN (Below.refl _ _) _⟩
/-- why a register is not reached -/
def reachP (n mode : Int) : Int := if mode = 1 then (if regP n then 0 else 14) else 16
theorem reach_ff (F : Nat) (R : Nat → Int) (n mode : Int) (w : World) (h : FF w F R) : Calls Tryz.prog 68 #[.pointer (some ⟨F, 0, none⟩), .int .i64 n, .int .i64 mode] w fun e w' => e = .returned (.int .i64 (reachP n mode)) ∧ w' = w := by
  have C := made_ff F R w h
  have D := isreg n w
  clear h
  unfold reachP
  by_cases hm : mode = 1
  · rw [if_pos hm]
    cases hb : regP n
    · rw [hb] at D
      simp only [Bool.false_eq_true, if_false]
      go_enter Tryz.func68, Tryz.ntmps68
      go_wp2_with fail
      refine C.mono ?_
      rintro e w1 ⟨rfl, rfl⟩
      go_wp2_with fail
      refine D.mono ?_
      rintro e w1 ⟨rfl, rfl⟩
      go_wp2_with fail
      go_ret
      exact ⟨rfl, rfl⟩
    · rw [hb] at D
      simp only [if_true]
      go_enter Tryz.func68, Tryz.ntmps68
      go_wp2_with fail
      refine C.mono ?_
      rintro e w1 ⟨rfl, rfl⟩
      go_wp2_with fail
      refine D.mono ?_
      rintro e w1 ⟨rfl, rfl⟩
      go_wp2_with fail
      go_ret
      exact ⟨rfl, rfl⟩
  · rw [if_neg hm]
    go_enter Tryz.func68, Tryz.ntmps68
    go_wp2_with fail
    refine C.mono ?_
    rintro e w1 ⟨rfl, rfl⟩
    go_wp2_with fail
    go_ret
    exact ⟨rfl, rfl⟩

theorem get_ff (F : Nat) (R : Nat → Int) (n : Nat) (hn : n < 12) (w : World) (h : FF w F R) : Calls Tryz.prog 12 #[.pointer (some ⟨F, 0, none⟩), .int .i64 n] w fun e w' => e = .returned (.int .u64 (R n)) ∧ w' = w := by
  have C := made_ff F R w h
  have D := isreg n w
  rw [regP_nat n hn] at D
  have c := h.c n hn
  have hl := h.lt
  have hn' : (n : Int) < 12 := by omega
  clear h
  go_enter Tryz.func12, Tryz.ntmps12
  go_wp2_with fail
  refine C.mono ?_
  rintro e w1 ⟨rfl, rfl⟩
  go_wp2_with fail
  refine D.mono ?_
  rintro e w1 ⟨rfl, rfl⟩
  go_wp2_with fail
  go_ret
  exact ⟨rfl, rfl⟩
theorem set_ff (F : Nat) (R : Nat → Int) (n : Nat) (hn : n < 12) (v : Int) (hv : U v) (w : World) (h : FF w F R) : Calls Tryz.prog 34 #[.pointer (some ⟨F, 0, none⟩), .int .i64 n, .int .u64 v] w fun e w' => e = .returned (.int .i64 0) ∧ FF w' F (upd R n v) ∧ w.grownBy w' (some F) := by
  have C := made_ff F R w h
  have D := isreg n w
  rw [regP_nat n hn] at D
  have c := h.c n hn
  have hl := h.lt
  have hf := h.f (1 + n)
  have hn' : (n : Int) < 12 := by omega
  have HF : Hid (FF (w.setCell ⟨F, 1 + n, none⟩ (.int .u64 v)) F (upd R n v) ∧ w.grownBy (w.setCell ⟨F, 1 + n, none⟩ (.int .u64 v)) (some F)) := h.set n hn _ hv
  clear h
  go_enter Tryz.func34, Tryz.ntmps34
  go_wp2_with fail
  refine C.mono ?_
  rintro e w1 ⟨rfl, rfl⟩
  go_wp2_with fail
  refine D.mono ?_
  rintro e w1 ⟨rfl, rfl⟩
  go_wp2_with fail
  go_ret
  exact ⟨rfl, HF.out⟩
/-- a new file's registers -/
def newP (hart : Int) : Nat → Int := fun k => if k = 11 then hart else 0
theorem new_ff (hart : Int) (h0 : 0 ≤ hart) (h1 : hart < 9223372036854775808) (w : World) : Calls Tryz.prog 31 #[.int .i64 hart] w fun e w' => ∃ F, e = .returned (.pointer (some ⟨F, 0, none⟩)) ∧ w.heap.size ≤ F ∧ FF w' F (newP hart) ∧ Below w.heap.size w w' := by
  have hu : U hart := ⟨h0, by omega⟩
  have HF : Hid (FF (w.alloc (.cells #[.bool true, .int .u64 0, .int .u64 0, .int .u64 0, .int .u64 0, .int .u64 0, .int .u64 0, .int .u64 0, .int .u64 0, .int .u64 0, .int .u64 0, .int .u64 0, .int .u64 hart] 91)) w.heap.size (newP hart) ∧
    Below w.heap.size w (w.alloc (.cells #[.bool true, .int .u64 0, .int .u64 0, .int .u64 0, .int .u64 0, .int .u64 0, .int .u64 0, .int .u64 0, .int .u64 0, .int .u64 0, .int .u64 0, .int .u64 0, .int .u64 hart] 91))) := by
    refine ⟨⟨⟨_, heap_alloc_at w _, rfl, rfl, fun n hn => ?_⟩, fun n hn => ?_⟩, (Below.refl _ _).alloc (Nat.le_refl _) _⟩
    · match n, hn with
      | 0, _ | 1, _ | 2, _ | 3, _ | 4, _ | 5, _ | 6, _ | 7, _ | 8, _ | 9, _ | 10, _ | 11, _ => rfl
    · unfold newP
      split
      · exact hu
      · exact ⟨by omega, by omega⟩
  go_enter Tryz.func31, Tryz.ntmps31
  go_wp2
  go_ret
  exact ⟨_, rfl, Nat.le_refl _, HF.out⟩
end Go.Proofs.YtkckobbedpccfaaGreatDoor.C
