/-
  What is shown of a word: the program's Show.
-/
import Derived.Test.YtopankjjlapfbaaGreatDoorPlc
import Derived.Test.YtopankjjlapfbaaGreatDoorWalks12
namespace Go.Proofs.YtopankjjlapfbaaGreatDoor
open Go.RowKit
set_option linter.unusedVariables false
set_option maxRecDepth 100000

/-- the operations' names, each in its operation's place -/
def nameL : List ByteArray := [⟨#[]⟩, ⟨#[97, 100, 100]⟩, ⟨#[115, 117, 98]⟩, ⟨#[97, 110, 100]⟩, ⟨#[111, 114]⟩, ⟨#[120, 111, 114]⟩, ⟨#[115, 108, 108]⟩, ⟨#[115, 114, 108]⟩, ⟨#[115, 114, 97]⟩, ⟨#[115, 108, 116]⟩, ⟨#[115, 108, 116, 117]⟩, ⟨#[109, 117, 108]⟩, ⟨#[100, 105, 118, 117]⟩, ⟨#[114, 101, 109, 117]⟩, ⟨#[97, 100, 100, 105]⟩, ⟨#[97, 110, 100, 105]⟩, ⟨#[111, 114, 105]⟩, ⟨#[120, 111, 114, 105]⟩, ⟨#[115, 108, 108, 105]⟩, ⟨#[115, 114, 108, 105]⟩, ⟨#[115, 114, 97, 105]⟩, ⟨#[115, 108, 116, 105]⟩, ⟨#[108, 117, 105]⟩, ⟨#[108, 100]⟩, ⟨#[108, 119]⟩, ⟨#[108, 98]⟩, ⟨#[115, 100]⟩, ⟨#[115, 119]⟩, ⟨#[115, 98]⟩, ⟨#[98, 101, 113]⟩, ⟨#[98, 110, 101]⟩, ⟨#[98, 108, 116]⟩, ⟨#[98, 103, 101]⟩, ⟨#[98, 108, 116, 117]⟩, ⟨#[98, 103, 101, 117]⟩, ⟨#[106, 97, 108]⟩, ⟨#[106, 97, 108, 114]⟩, ⟨#[108, 114]⟩, ⟨#[115, 99]⟩, ⟨#[97, 109, 111, 97, 100, 100]⟩, ⟨#[97, 109, 111, 115, 119, 112]⟩, ⟨#[102, 101, 110, 99, 101]⟩, ⟨#[101, 99, 97, 108, 108]⟩, ⟨#[115, 114, 101, 116]⟩, ⟨#[119, 102, 105]⟩, ⟨#[115, 102, 101, 110, 99, 101]⟩, ⟨#[99, 115, 114, 114, 119]⟩, ⟨#[99, 115, 114, 114, 115]⟩, ⟨#[99, 115, 114, 114, 99]⟩]
def nameS (op : Int) : ByteArray := nameL.getD op.toNat ⟨#[]⟩
theorem nameS_size (op : Int) : (nameS op).size ≤ 10 := by
  have h : ∀ s ∈ nameL, s.size ≤ 10 := by decide
  unfold nameS
  rw [List.getD_eq_getElem?_getD]
  cases hx : nameL[op.toNat]? with
  | none => exact Nat.zero_le _
  | some s => exact h s (List.mem_of_getElem? hx)

/-- the variable that holds them, and the table of powers of ten, as they lie -/
structure Lies (w : World) : Prop where
  tab : Tab w
  nam : ∀ i : Nat, i < 49 → w.cell? ⟨0, i, none⟩ = some (.string (nameL.getD i ⟨#[]⟩))
  big : 2 ≤ w.heap.size
theorem Lies.below {w w' : World} (h : Lies w) (hb : Below w.heap.size w w') : Lies w' :=
  ⟨h.tab.below hb, fun i hi => by rw [hb.cell (p := ⟨0, i, none⟩) (by have := h.big; show 0 < _; omega)]; exact h.nam i hi, Nat.le_trans h.big hb.size⟩
theorem Lies.alloc {w : World} (h : Lies w) (o : Obj) : Lies (w.alloc o) := h.below ((Below.refl _ _).alloc (Nat.le_refl _) _)

def fv (x1 x2 x3 x4 p : Int) : Int := if p = 0 then x1 else if p = 1 then x2 else if p = 2 then x3 else x4
/-- a line: a name, and the first k of its operands, a blank ahead of each -/
def lineS (nm : ByteArray) (x1 x2 x3 x4 : Int) : List Int → ByteArray
  | [] => nm
  | p :: r => lineS (nm ++ (⟨#[32]⟩ ++ opdS p (fv x1 x2 x3 x4 p))) x1 x2 x3 x4 r
theorem lineS_snoc (x1 x2 x3 x4 p : Int) : ∀ (l : List Int) (nm : ByteArray), lineS nm x1 x2 x3 x4 (l ++ [p]) = lineS nm x1 x2 x3 x4 l ++ (⟨#[32]⟩ ++ opdS p (fv x1 x2 x3 x4 p))
  | [], nm => rfl
  | q :: r, nm => lineS_snoc x1 x2 x3 x4 p r _
theorem opdS_size (p v : Int) (h0 : -1000000 ≤ v) (h1 : v ≤ 1000000) : (opdS p v).size ≤ 1000010 := by
  have hs := itoS_size v
  unfold opdS
  split
  · rw [Go.ByteArray.size_append']
    show 1 + _ ≤ _
    omega
  · omega
theorem lineS_size (x1 x2 x3 x4 : Int) (hx : ∀ p, -1000000 ≤ fv x1 x2 x3 x4 p ∧ fv x1 x2 x3 x4 p ≤ 1000000) : ∀ (l : List Int) (nm : ByteArray), (lineS nm x1 x2 x3 x4 l).size ≤ nm.size + 1000020 * l.length
  | [], nm => by simp [lineS]
  | p :: r, nm => by
    have h := lineS_size x1 x2 x3 x4 hx r (nm ++ (⟨#[32]⟩ ++ opdS p (fv x1 x2 x3 x4 p)))
    have h2 := opdS_size p _ (hx p).1 (hx p).2
    rw [Go.ByteArray.size_append', Go.ByteArray.size_append'] at h
    have h3 : (⟨#[32]⟩ : ByteArray).size = 1 := rfl
    rw [List.length_cons]
    unfold lineS
    omega
