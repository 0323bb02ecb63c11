/-
  Plain arithmetic of entries and addresses, over no program.
-/
import Derived.RowKit
import Derived.Test.YteghkhdpdeiocaaDoorMath4
import Derived.IntWalk
import Derived.Laws.BitsAllLaws
import Derived.Laws.BitsLemmas
namespace Go.Proofs.YteghkhdpdeiocaaDoor.E
open Go.RowKit
set_option linter.unusedVariables false
set_option maxRecDepth 100000

def leafP (v r x : Bool) : Bool := v && (r || x)
def grantP (r w x : Bool) (a : Int) : Bool := if a = 0 then x else if a = 1 then r else if a = 2 then w else false
def allowP (v r w x u : Bool) (a : Int) (k : Bool) : Bool := leafP v r x && (u == k) && grantP r w x a


/-- the table of bits: any seven numbers -/
class Bits where
  b : Nat → Int
  lo : ∀ k, 0 ≤ b k
  hi : ∀ k, b k < 18446744073709551616
def b2 (b : Bool) : Int := if b then 1 else 0
/-- a flag put into a number -/
def orP [Bits] (acc : Int) (g : Bool) (k : Nat) : Int := if g then bits .or .u64 acc (IntKind.u64.wrap (2 ^ min (Bits.b k).toNat 64)) else acc
/-- an entry's number -/
def numP [Bits] (v r w x u s d : Bool) (f : Int) : Int := orP (orP (orP (orP (orP (orP (orP (f * 1024) v 0) r 1) w 2) x 3) u 4) s 5) d 6
/-- may an entry be -/
def mayP (v r w x u s d : Bool) (f : Int) : Bool :=
  if v then decide (0 ≤ f ∧ f < 65536) && (!w || r) && (r || x || (!u && !s && !d)) else !r && !w && !x && !u && !s && !d && decide (f = 0)
def packN [Bits] (v r w x u s d : Bool) (f : Int) : Int := if mayP v r w x u s d f then numP v r w x u s d f else 0
def packE (v r w x u s d : Bool) (f : Int) : Int := if mayP v r w x u s d f then 0 else 10

theorem may_frame {v r w x u s d : Bool} {f : Int} (h : mayP v r w x u s d f = true) : 0 ≤ f ∧ f < 65536 := by
  unfold mayP at h
  split at h
  · simp at h; omega
  · simp at h; omega

theorem and_one (x : Int) (h0 : 0 ≤ x) (h1 : x < 18446744073709551616) : bits .and .u64 x 1 = x % 2 :=
  bits_mask .u64 64 (by decide) wraps_u64 1 (by decide) x h0 (by omega)

/-- what stands at a bit -/
def flagP [Bits] (n : Int) (k : Nat) : Bool := decide (n / 2 ^ min (Bits.b k).toNat 64 % 2 ≠ 0)
def frameP (n : Int) : Int := n / 1024 % 65536
/-- the entry of a number, if it is one -/
def isP [Bits] (n : Int) : Bool := mayP (flagP n 0) (flagP n 1) (flagP n 2) (flagP n 3) (flagP n 4) (flagP n 5) (flagP n 6) (frameP n) && decide (numP (flagP n 0) (flagP n 1) (flagP n 2) (flagP n 3) (flagP n 4) (flagP n 5) (flagP n 6) (frameP n) = n)

theorem b2_range (b : Bool) : 0 ≤ b2 b ∧ b2 b ≤ 1 := by cases b <;> simp [b2]

end Go.Proofs.YteghkhdpdeiocaaDoor.E
