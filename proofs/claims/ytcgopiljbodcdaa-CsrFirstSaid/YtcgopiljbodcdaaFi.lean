/-
  Which line is due, of those that are set and enabled: plain.
-/
import Derived.Test.YtcgopiljbodcdaaTr
namespace Go.Proofs.Ytcgopiljbodcdaa
open Go.RowKit
set_option linter.unusedVariables false
namespace csrFirst
/-- a line's number, and its bit -/
def lineN (j : Nat) : Int := match j with | 0 => 9 | 1 => 1 | _ => 5
def lineB (j : Nat) : Int := match j with | 0 => 512 | 1 => 2 | _ => 32
/-- the lines that are enabled, and set, behind j rounds -/
def enJ (e : Nat → Bool) : Nat → Int
  | 0 => 0
  | j + 1 => if e j then bits .or .u64 (enJ e j) (lineB j) else enJ e j
def peJ (s : Nat → Bool) : Nat → Int
  | 0 => 0
  | j + 1 => turnP (peJ s j) (lineB j) (s j)
def isJ (s e : Nat → Bool) : Nat → Bool
  | 0 => false
  | j + 1 => isJ s e j || (e j && s j)
def wantJ (s e : Nat → Bool) : Nat → Int
  | 0 => 0
  | j + 1 => if e j && s j && !isJ s e j then 4611686018427387904 + lineN j else wantJ s e j
theorem enJ_U (e : Nat → Bool) : ∀ j, U (enJ e j)
  | 0 => ⟨by simp [enJ], by simp [enJ]⟩
  | j + 1 => by
    unfold enJ
    split
    · exact bits_U _ _ _
    · exact enJ_U e j
/-- three answers -/
def pick (a b c : Bool) : Nat → Bool := fun k => match k with | 0 => a | 1 => b | _ => c
theorem first_all : ∀ s0 s1 s2 e0 e1 e2 : Bool, dueL (bits .and .u64 (bits .and .u64 (enJ (pick e0 e1 e2) 3) (peJ (pick s0 s1 s2) 3)) 546) = (wantJ (pick s0 s1 s2) (pick e0 e1 e2) 3, isJ (pick s0 s1 s2) (pick e0 e1 e2) 3) ∧
    (bits .and .u64 (bits .and .u64 (enJ (pick e0 e1 e2) 3) (peJ (pick s0 s1 s2) 3)) 546 != 0) = isJ (pick s0 s1 s2) (pick e0 e1 e2) 3 := by decide +kernel
/-- what is due is what is wanted -/
theorem first_of (s e : Nat → Bool) : dueL (bits .and .u64 (bits .and .u64 (enJ e 3) (peJ s 3)) 546) = (wantJ s e 3, isJ s e 3) ∧ (bits .and .u64 (bits .and .u64 (enJ e 3) (peJ s 3)) 546 != 0) = isJ s e 3 :=
  first_all (s 0) (s 1) (s 2) (e 0) (e 1) (e 2)
theorem enJ_congr {e e' : Nat → Bool} : ∀ j, (∀ k, k < j → e k = e' k) → enJ e j = enJ e' j
  | 0, _ => rfl
  | j + 1, h => by
    unfold enJ
    rw [enJ_congr j (fun k hk => h k (by omega)), h j (by omega)]
theorem peJ_congr {s s' : Nat → Bool} : ∀ j, (∀ k, k < j → s k = s' k) → peJ s j = peJ s' j
  | 0, _ => rfl
  | j + 1, h => by
    unfold peJ
    rw [peJ_congr j (fun k hk => h k (by omega)), h j (by omega)]
theorem isJ_congr {s s' e e' : Nat → Bool} : ∀ j, (∀ k, k < j → s k = s' k) → (∀ k, k < j → e k = e' k) → isJ s e j = isJ s' e' j
  | 0, _, _ => rfl
  | j + 1, h, g => by
    unfold isJ
    rw [isJ_congr j (fun k hk => h k (by omega)) (fun k hk => g k (by omega)), h j (by omega), g j (by omega)]
theorem wantJ_congr {s s' e e' : Nat → Bool} : ∀ j, (∀ k, k < j → s k = s' k) → (∀ k, k < j → e k = e' k) → wantJ s e j = wantJ s' e' j
  | 0, _, _ => rfl
  | j + 1, h, g => by
    unfold wantJ
    rw [wantJ_congr j (fun k hk => h k (by omega)) (fun k hk => g k (by omega)), isJ_congr j (fun k hk => h k (by omega)) (fun k hk => g k (by omega)), h j (by omega), g j (by omega)]
/-- one answer more -/
def put (s : Nat → Bool) (j : Nat) (v : Bool) : Nat → Bool := fun k => if k = j then v else s k
theorem put_old (s : Nat → Bool) (j : Nat) (v : Bool) (k : Nat) (h : k < j) : put s j v k = s k := by
  unfold put
  rw [if_neg (by omega)]
theorem put_new (s : Nat → Bool) (j : Nat) (v : Bool) : put s j v j = v := by
  unfold put
  rw [if_pos rfl]
theorem put_en (e : Nat → Bool) (j : Nat) (v : Bool) : enJ (put e j v) (j + 1) = if v then bits .or .u64 (enJ e j) (lineB j) else enJ e j := by
  conv => lhs; unfold enJ
  rw [put_new, enJ_congr j (put_old e j v)]
theorem put_pe (s : Nat → Bool) (j : Nat) (v : Bool) : peJ (put s j v) (j + 1) = turnP (peJ s j) (lineB j) v := by
  conv => lhs; unfold peJ
  rw [put_new, peJ_congr j (put_old s j v)]
theorem put_is (s e : Nat → Bool) (j : Nat) (v u : Bool) : isJ (put s j v) (put e j u) (j + 1) = (isJ s e j || (u && v)) := by
  conv => lhs; unfold isJ
  rw [put_new, put_new, isJ_congr j (put_old s j v) (put_old e j u)]
theorem put_want (s e : Nat → Bool) (j : Nat) (v u : Bool) : wantJ (put s j v) (put e j u) (j + 1) = if u && v && !isJ s e j then 4611686018427387904 + lineN j else wantJ s e j := by
  conv => lhs; unfold wantJ
  rw [put_new, put_new, isJ_congr j (put_old s j v) (put_old e j u), wantJ_congr j (put_old s j v) (put_old e j u)]
end csrFirst
end Go.Proofs.Ytcgopiljbodcdaa
