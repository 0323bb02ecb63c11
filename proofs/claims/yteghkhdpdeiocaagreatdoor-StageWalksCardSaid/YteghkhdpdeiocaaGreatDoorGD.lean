/-
  Plain arithmetic of entries and addresses, over no program.
  Plain arithmetic of entries and addresses, over no program.
  What Leaf, grants and Allows of package entry tell: their contracts.
  What mayBe, Pack and the document's may, Allows and Pack tell: their contracts.
  What Pack and the document's Pack tell: their contracts, over the table of bits as it is laid.
  A region that draws its order, whose operations but the last only read, and whose last waits for all others: one walk in the text's order serves every order. Over no program.
  What seen and its closure, Unpack and the document's Unpack tell: their contracts, over the table of bits as it is laid.
  What Unpack and the document's Unpack tell: their contracts, over the table of bits as it is laid.
  What Split, Join, names and the document's Split, Join and Allows tell: their contracts.
-/
import Derived.RowKit
import Derived.IntWalk
import Derived.Laws.BitsAllLaws
import Derived.Laws.BitsLemmas
import Derived.Test.YteghkhdpdeiocaaGreatDoorGA
import Derived.WalkKit
import Derived.ProofKit
import Derived.OpenShut
import Derived.Deep.QuietTactic
import Derived.BigQuiet
import Derived.Below
namespace Go.Proofs.YteghkhdpdeiocaaGreatDoor.A
open Go.RowKit
set_option linter.unusedVariables false

def leafP (v r x : Bool) : Bool := v && (r || x)
def grantP (r w x : Bool) (a : Int) : Bool := if a = 0 then x else if a = 1 then r else if a = 2 then w else false
def allowP (v r w x u : Bool) (a : Int) (k : Bool) : Bool := leafP v r x && (u == k) && grantP r w x a


def b2 (b : Bool) : Int := if b then 1 else 0
/-- an entry's number -/
def numP (v r w x u s d : Bool) (f : Int) : Int := b2 v * 2 ^ 0 + b2 r * 2 ^ 1 + b2 w * 2 ^ 2 + b2 x * 2 ^ 3 + b2 u * 2 ^ 4 + b2 s * 2 ^ 5 + b2 d * 2 ^ 6 + f * 1024
/-- may an entry be -/
def mayP (v r w x u s d : Bool) (f : Int) : Bool :=
  if v then decide (0 ≤ f ∧ f < 65536) && (!w || r) && (r || x || (!u && !s && !d)) else !r && !w && !x && !u && !s && !d && decide (f = 0)
def packN (v r w x u s d : Bool) (f : Int) : Int := if mayP v r w x u s d f then numP v r w x u s d f else 0
def packE (v r w x u s d : Bool) (f : Int) : Int := if mayP v r w x u s d f then 0 else 10

theorem may_frame {v r w x u s d : Bool} {f : Int} (h : mayP v r w x u s d f = true) : 0 ≤ f ∧ f < 65536 := by
  unfold mayP at h
  split at h
  · simp at h; omega
  · simp at h; omega

theorem b2_cases (b : Bool) : (b = false ∧ b2 b = 0) ∨ (b = true ∧ b2 b = 1) := by cases b <;> simp [b2]

theorem wraps_u64 (n : Int) (h0 : 0 ≤ n) (h1 : n < 2 ^ 64) : IntKind.u64.wrap n = n := by rw [IntKind.wrap_u64]; omega
theorem and_one (x : Int) (h0 : 0 ≤ x) (h1 : x < 18446744073709551616) : bits .and .u64 x 1 = x % 2 :=
  bits_mask .u64 64 (by decide) wraps_u64 1 (by decide) x h0 (by omega)

theorem or_high (A low k : Nat) (h : low < 2 ^ k) : (2 ^ (k + 1) * A + low) ||| 2 ^ k = 2 ^ (k + 1) * A + low + 2 ^ k := by
  have h2 : low < 2 ^ (k + 1) := by rw [Nat.pow_succ]; omega
  have h3 : 2 ^ k + low < 2 ^ (k + 1) := by rw [Nat.pow_succ]; omega
  have e1 : 2 ^ k ||| low = 2 ^ k + low := by have := Nat.two_pow_add_eq_or_of_lt h 1; simpa using this.symm
  have e2 : (2 ^ (k + 1) * A + low) ||| 2 ^ k = 2 ^ (k + 1) * A + (2 ^ k + low) := by
    rw [Nat.two_pow_add_eq_or_of_lt h3, ← e1, Nat.two_pow_add_eq_or_of_lt h2, Nat.or_assoc, Nat.or_comm low]
  rw [e2]
  omega

/-- a flag that is put where there is none -/
theorem or_flag (F low : Int) (k : Nat) (hF0 : 0 ≤ F) (hF1 : F < 65536) (h0 : 0 ≤ low) (hk : k ≤ 6) (h1 : low < 2 ^ k) : bits .or .u64 (low + F * 1024) (2 ^ k) = low + 2 ^ k + F * 1024 := by
  obtain ⟨F, rfl⟩ := Int.eq_ofNat_of_zero_le hF0
  obtain ⟨low, rfl⟩ := Int.eq_ofNat_of_zero_le h0
  have hl : low < 2 ^ k := by
    have : ((2 ^ k : Nat) : Int) = 2 ^ k := by simp
    rw [← this] at h1; omega
  have hle : 2 ^ k ≤ 2 ^ 6 := Nat.pow_le_pow_right (by decide) hk
  have e0 : ((low : Int) + (F : Int) * 1024) = ((low + F * 1024 : Nat) : Int) := by omega
  have e1 : (2 : Int) ^ k = ((2 ^ k : Nat) : Int) := by simp
  rw [e0, e1, u64_or_nat _ _ (by omega) (by omega)]
  have e2 : low + F * 1024 = 2 ^ (k + 1) * (F * 2 ^ (9 - k)) + low := by
    have : 2 ^ (k + 1) * (F * 2 ^ (9 - k)) = F * (2 ^ (k + 1) * 2 ^ (9 - k)) := by rw [Nat.mul_left_comm]
    rw [this, ← Nat.pow_add, show k + 1 + (9 - k) = 10 by omega]; omega
  rw [e2, or_high _ _ _ hl, ← e2]
  omega

/-- what stands at a bit -/
def flagP (n : Int) (k : Nat) : Bool := decide (n / 2 ^ k % 2 ≠ 0)
def frameP (n : Int) : Int := n / 1024 % 65536
/-- the entry of a number, if it is one -/
def isP (n : Int) : Bool := mayP (flagP n 0) (flagP n 1) (flagP n 2) (flagP n 3) (flagP n 4) (flagP n 5) (flagP n 6) (frameP n) && decide (numP (flagP n 0) (flagP n 1) (flagP n 2) (flagP n 3) (flagP n 4) (flagP n 5) (flagP n 6) (frameP n) = n)

theorem b2_flag (n : Int) (k : Nat) : b2 (flagP n k) = n / 2 ^ k % 2 := by
  unfold b2 flagP
  have : 0 ≤ n / 2 ^ k % 2 ∧ n / 2 ^ k % 2 < 2 := by omega
  by_cases h : n / 2 ^ k % 2 = 0
  · simp [h]
  · simp [h]; omega

theorem b2_inj {a b : Bool} (h : b2 a = b2 b) : a = b := by cases a <;> cases b <;> simp_all [b2]

theorem b2_range (b : Bool) : 0 ≤ b2 b ∧ b2 b ≤ 1 := by cases b <;> simp [b2]

/-- what is packed is seen again -/
theorem flag_num (v r w x u s d : Bool) (f : Int) (h0 : 0 ≤ f) (h1 : f < 65536) :
    flagP (numP v r w x u s d f) 0 = v ∧ flagP (numP v r w x u s d f) 1 = r ∧ flagP (numP v r w x u s d f) 2 = w ∧ flagP (numP v r w x u s d f) 3 = x ∧ flagP (numP v r w x u s d f) 4 = u ∧ flagP (numP v r w x u s d f) 5 = s ∧ flagP (numP v r w x u s d f) 6 = d ∧ frameP (numP v r w x u s d f) = f := by
  have hv := b2_range v
  have hr := b2_range r
  have hw := b2_range w
  have hx := b2_range x
  have hu := b2_range u
  have hs := b2_range s
  have hd := b2_range d
  refine ⟨b2_inj ?_, b2_inj ?_, b2_inj ?_, b2_inj ?_, b2_inj ?_, b2_inj ?_, b2_inj ?_, ?_⟩
  all_goals
    first
      | rw [b2_flag]
      | skip
    unfold numP
    try unfold frameP
    generalize b2 v = v at *
    generalize b2 r = r at *
    generalize b2 w = w at *
    generalize b2 x = x at *
    generalize b2 u = u at *
    generalize b2 s = s at *
    generalize b2 d = d at *
    omega

theorem num_range {v r w x u s d : Bool} {f : Int} (h0 : 0 ≤ f) (h1 : f < 65536) : 0 ≤ numP v r w x u s d f ∧ numP v r w x u s d f < 67108864 := by
  have hv := b2_range v
  have hr := b2_range r
  have hw := b2_range w
  have hx := b2_range x
  have hu := b2_range u
  have hs := b2_range s
  have hd := b2_range d
  unfold numP
  omega
end Go.Proofs.YteghkhdpdeiocaaGreatDoor.A
namespace Go.Proofs.YteghkhdpdeiocaaGreatDoor.E
open Go.RowKit
set_option linter.unusedVariables false
set_option maxRecDepth 100000

def leafP (v r x : Bool) : Bool := v && (r || x)
def grantP (r w x : Bool) (a : Int) : Bool := if a = 0 then x else if a = 1 then r else if a = 2 then w else false
def allowP (v r w x u : Bool) (a : Int) (k : Bool) : Bool := leafP v r x && (u == k) && grantP r w x a


/-- the table of bits: any seven numbers -/
class Bits where
  b : Nat → Int
  lo : ∀ k, 0 ≤ b k
  hi : ∀ k, b k < 18446744073709551616
def b2 (b : Bool) : Int := if b then 1 else 0
/-- a flag put into a number -/
def orP [Bits] (acc : Int) (g : Bool) (k : Nat) : Int := if g then bits .or .u64 acc (IntKind.u64.wrap (2 ^ min (Bits.b k).toNat 64)) else acc
/-- an entry's number -/
def numP [Bits] (v r w x u s d : Bool) (f : Int) : Int := orP (orP (orP (orP (orP (orP (orP (f * 1024) v 0) r 1) w 2) x 3) u 4) s 5) d 6
/-- may an entry be -/
def mayP (v r w x u s d : Bool) (f : Int) : Bool :=
  if v then decide (0 ≤ f ∧ f < 65536) && (!w || r) && (r || x || (!u && !s && !d)) else !r && !w && !x && !u && !s && !d && decide (f = 0)
def packN [Bits] (v r w x u s d : Bool) (f : Int) : Int := if mayP v r w x u s d f then numP v r w x u s d f else 0
def packE (v r w x u s d : Bool) (f : Int) : Int := if mayP v r w x u s d f then 0 else 10

theorem may_frame {v r w x u s d : Bool} {f : Int} (h : mayP v r w x u s d f = true) : 0 ≤ f ∧ f < 65536 := by
  unfold mayP at h
  split at h
  · simp at h; omega
  · simp at h; omega

theorem and_one (x : Int) (h0 : 0 ≤ x) (h1 : x < 18446744073709551616) : bits .and .u64 x 1 = x % 2 :=
  bits_mask .u64 64 (by decide) wraps_u64 1 (by decide) x h0 (by omega)

/-- what stands at a bit -/
def flagP [Bits] (n : Int) (k : Nat) : Bool := decide (n / 2 ^ min (Bits.b k).toNat 64 % 2 ≠ 0)
def frameP (n : Int) : Int := n / 1024 % 65536
/-- the entry of a number, if it is one -/
def isP [Bits] (n : Int) : Bool := mayP (flagP n 0) (flagP n 1) (flagP n 2) (flagP n 3) (flagP n 4) (flagP n 5) (flagP n 6) (frameP n) && decide (numP (flagP n 0) (flagP n 1) (flagP n 2) (flagP n 3) (flagP n 4) (flagP n 5) (flagP n 6) (frameP n) = n)

theorem b2_range (b : Bool) : 0 ≤ b2 b ∧ b2 b ≤ 1 := by cases b <;> simp [b2]

end Go.Proofs.YteghkhdpdeiocaaGreatDoor.E
namespace Go.Proofs.YteghkhdpdeiocaaGreatDoor.E
open Go.RowKit
set_option linter.unusedVariables false
set_option maxRecDepth 100000

/-- an entry as a value -/
def ent (v r w x u s d : Bool) (f : Int) : Value := .agg #[.bool v, .bool r, .bool w, .bool x, .bool u, .bool s, .bool d, .int .i64 f]
theorem leaf_any (v r w x u s d : Bool) (f : Int) (W : World) :
    Calls Tryz.prog 74 #[ent v r w x u s d f] W fun e W' => e = .returned (.bool (leafP v r x)) ∧ Below W.heap.size W W' := by
  unfold ent
  cases v <;> cases r
  all_goals
    go_enter Tryz.func74, Tryz.ntmps74
    go_wp2
    go_ret
    exact ⟨ret_bool (by simp [leafP]), (Below.refl _ _).alloc (Nat.le_refl _) _⟩

theorem grants_any (v r w x u s d : Bool) (f a : Int) (W : World) :
    Calls Tryz.prog 93 #[ent v r w x u s d f, .int .i64 a] W fun e W' => e = .returned (.bool (grantP r w x a)) ∧ Below W.heap.size W W' := by
  unfold ent
  go_enter Tryz.func93, Tryz.ntmps93
  go_wp2
  all_goals
    go_ret
    refine ⟨ret_bool ?_, (Below.refl _ _).alloc (Nat.le_refl _) _⟩
    unfold grantP
    simp_all

theorem allows_any (v r w x u s d : Bool) (f a : Int) (k : Bool) (W : World) :
    Calls Tryz.prog 75 #[ent v r w x u s d f, .int .i64 a, .bool k] W fun e W' => e = .returned (.bool (allowP v r w x u a k)) ∧ Below W.heap.size W W' := by
  have C1 := leaf_any v r w x u s d f
  have C2 := grants_any v r w x u s d f a
  unfold allowP
  generalize leafP v r x = L at *
  generalize grantP r w x a = G at *
  unfold ent at *
  cases L
  · clear C2
    go_enter Tryz.func75, Tryz.ntmps75
    go_wp2_with fail
    refine (C1 _).mono ?_
    rintro e w1 ⟨rfl, hb1⟩
    have HB : Hid (Below W.heap.size W w1) := ((Below.refl _ _).alloc (Nat.le_refl _) _).trans (hb1.mono (by simp))
    clear hb1 C1
    go_wp2_with fail
    go_ret
    exact ⟨rfl, HB.out⟩
  · cases hk : (u == k)
    · clear C2
      go_enter Tryz.func75, Tryz.ntmps75
      go_wp2_with fail
      refine (C1 _).mono ?_
      rintro e w1 ⟨rfl, hb1⟩
      have HB : Hid (Below W.heap.size W w1) := ((Below.refl _ _).alloc (Nat.le_refl _) _).trans (hb1.mono (by simp))
      obtain ⟨hcc1, hff1⟩ := bcell hb1
      simp only [World.size_alloc] at hcc1 hff1
      clear hb1 C1
      go_wp2_with fail
      go_ret
      exact ⟨rfl, HB.out⟩
    · go_enter Tryz.func75, Tryz.ntmps75
      go_wp2_with fail
      refine (C1 _).mono ?_
      rintro e w1 ⟨rfl, hb1⟩
      have HB : Hid (Below W.heap.size W w1) := ((Below.refl _ _).alloc (Nat.le_refl _) _).trans (hb1.mono (by simp))
      have hs : W.heap.size < w1.heap.size := by have := hb1.size; simp at this; omega
      obtain ⟨hcc1, hff1⟩ := bcell hb1
      simp only [World.size_alloc] at hcc1 hff1
      clear hb1 C1
      go_wp2_with fail
      refine (C2 _).mono ?_
      rintro e w2 ⟨rfl, hb2⟩
      have HB2 : Hid (Below W.heap.size W w2) := HB.out.trans (hb2.mono (by omega))
      clear hb2 C2 HB
      go_wp2_with fail
      go_ret
      exact ⟨ret_bool (by simp), HB2.out⟩

theorem below_any (n m : Int) (W : World) :
    Calls Tryz.prog 112 #[.int .i64 n, .int .i64 m] W fun e W' => e = .returned (.bool (decide (0 ≤ n ∧ n < m))) ∧ W' = W := by
  go_enter Tryz.func112, Tryz.ntmps112
  go_wp2
  all_goals
    go_ret
    refine ⟨ret_bool ?_, rfl⟩
    simp_all
    try omega

theorem table_any (f : Int) (W : World) :
    Calls Tryz.prog 113 #[.int .i64 f] W fun e W' => e = .returned (ent true false false false false false false f) ∧ Below W.heap.size W W' := by
  unfold ent
  go_enter Tryz.func113, Tryz.ntmps113
  go_wp2
  exact bodyPost_ret (v := .agg #[.bool true, .bool false, .bool false, .bool false, .bool false, .bool false, .bool false, .int .i64 f]) (by simp [results, Tryz.results113, go_sem]) rfl ⟨rfl, (Below.refl _ _).alloc (Nat.le_refl _) _⟩

theorem flags_any (v r w x u s d : Bool) (f : Int) (W : World) :
    Calls Tryz.prog 106 #[ent v r w x u s d f] W fun e W' => e = .returned (.agg #[.bool v, .bool r, .bool w, .bool x, .bool u, .bool s, .bool d]) ∧ Below W.heap.size W W' := by
  unfold ent
  go_enter Tryz.func106, Tryz.ntmps106
  go_wp2
  exact bodyPost_ret (v := .agg #[.bool v, .bool r, .bool w, .bool x, .bool u, .bool s, .bool d]) (by simp [results, Tryz.results106, go_sem]) rfl ⟨rfl, ((Below.refl _ _).alloc (Nat.le_refl _) _).alloc (by simp) _⟩
end Go.Proofs.YteghkhdpdeiocaaGreatDoor.E
namespace Go.Proofs.YteghkhdpdeiocaaGreatDoor.E
open Go.RowKit
set_option linter.unusedVariables false
set_option maxRecDepth 100000

/-- a world that has all blocks of another one as they were -/
structure Above (W : World) where
  wld : World
  bel : Below W.heap.size W wld

theorem above_here (W : World) : Nonempty (Above W) := ⟨⟨W, Below.refl _ _⟩⟩

theorem wp_region_above {P : Program} {id : Nat} {Q : Exit → Act → World → Prop} {a : Act} {w : World} {l : List Oper} (hm : P.follows .mixedOrders = true) (hB : Region.lexB .any l.toArray = true)
    (h : wpQuiet P l.toArray (fun w' => ∃ s : Above w, w' = s.wld) (fun a' => ∀ w', (∃ s : Above w, w' = s.wld) → Q .normal a' w') l a) : (Code.region id l.toArray true).wp P Q a w :=
  wp_region_quiet (C := fun w' => ∃ s : Above w, w' = s.wld) hm hB ⟨⟨_, (Below.refl _ _).drew⟩, rfl⟩ (by simpa using h)

theorem above_call {P : Program} {f : FuncId} {args : Array Value} {W : World} {v : Value} (s : Above W)
    (h : Calls P f args s.wld fun e w' => e = .returned v ∧ Below s.wld.heap.size s.wld w') : Calls P f args s.wld fun e w'' => e = .returned v ∧ ∃ s' : Above W, w'' = s'.wld :=
  h.mono fun _ w' ⟨he, hb⟩ => ⟨he, ⟨w', s.bel.trans (hb.mono s.bel.size)⟩, rfl⟩

theorem above_same {P : Program} {f : FuncId} {args : Array Value} {W : World} {v : Value} (s : Above W)
    (h : Calls P f args s.wld fun e w' => e = .returned v ∧ w' = s.wld) : Calls P f args s.wld fun e w'' => e = .returned v ∧ ∃ s' : Above W, w'' = s'.wld :=
  h.mono fun _ w' ⟨he, hb⟩ => ⟨he, s, hb⟩

theorem above_alloc {W : World} {o : Obj} (s : Above (W.alloc o)) (k : Nat) : s.wld.cell? ⟨W.heap.size, k, none⟩ = (W.alloc o).cell? ⟨W.heap.size, k, none⟩ :=
  s.bel.cell (p := ⟨W.heap.size, k, none⟩) (by simp)

theorem may_out (v r w x u s d : Bool) (f : Int) (h : ¬ (0 ≤ f ∧ f < 65536)) : mayP v r w x u s d f = false := by
  cases hm : mayP v r w x u s d f
  · rfl
  · exact absurd (may_frame hm) h

set_option maxHeartbeats 3200000 in
theorem mayBe_any (v r w x u s d : Bool) (f : Int) (W : World) :
    Calls Tryz.prog 105 #[ent v r w x u s d f] W fun e W' => e = .returned (.bool (mayP v r w x u s d f)) ∧ Below W.heap.size W W' := by
  have C1 := below_any f 65536
  by_cases hf : 0 ≤ f ∧ f < 65536
  · rw [decide_eq_true hf] at C1
    cases v
    · have e : mayP false r w x u s d f = (!r && !w && !x && !u && !s && !d && decide (f = 0)) := rfl
      rw [e]
      clear e
      unfold ent
      go_enter Tryz.func105, Tryz.ntmps105
      go_wp2_with fail
      refine (C1 _).mono ?_
      rintro e w1 ⟨rfl, rfl⟩
      clear C1
      go_wp2_with fail
      all_goals
        go_ret
        refine ⟨ret_bool ?_, (Below.refl _ _).alloc (Nat.le_refl _) _⟩
        simp_all
    · have e : mayP true r w x u s d f = ((!w || r) && (r || x || (!u && !s && !d))) := by simp [mayP, hf]
      rw [e]
      clear e
      cases w
      · have C2 := leaf_any true r false x u s d f
        have C3 := table_any f
        unfold ent at *
        cases r
        · cases x
          · have e1 : leafP true false false = false := by simp [leafP]
            rw [e1] at C2
            clear e1
            have hab := fun (o : Obj) (s : Above (W.alloc o)) k => above_alloc s k
            have hne := above_here (W.alloc (.cells #[.bool true, .bool false, .bool false, .bool false, .bool u, .bool s, .bool d, .int .i64 f] 93))
            cases u <;> cases s <;> cases d
            all_goals
              go_enter Tryz.func105, Tryz.ntmps105
              go_wp2_with fail
              refine (C1 _).mono ?_
              rintro e w1 ⟨rfl, rfl⟩
              clear C1
              go_wp2_with fail
              refine wp_region_above (by kernel_rfl) (by kernel_rfl) ?_
              repeat (first
                | go_big_quiet_skip
                | (go_big_quiet_want; go_big_quiet_op; go_big_quiet_on)
                | (go_big_quiet_want; go_big_quiet_op; apply Exists.intro; refine ⟨fun s => ?_, ?_⟩; (first | exact above_call s (C2 _) | exact above_call s (C3 _)); go_big_quiet_on))
              refine wpQuiet_nil ?_
              rintro _ ⟨s, rfl⟩
              go_wp2_with fail
              go_ret
              exact ⟨ret_bool (by simp), ((Below.refl _ _).alloc (Nat.le_refl _) _).trans (s.bel.mono (by simp))⟩
          · have e1 : leafP true false true = true := by simp [leafP]
            rw [e1] at C2
            clear e1
            have hab := fun (o : Obj) (s : Above (W.alloc o)) k => above_alloc s k
            have hne := above_here (W.alloc (.cells #[.bool true, .bool false, .bool false, .bool true, .bool u, .bool s, .bool d, .int .i64 f] 93))
            go_enter Tryz.func105, Tryz.ntmps105
            go_wp2_with fail
            refine (C1 _).mono ?_
            rintro e w1 ⟨rfl, rfl⟩
            clear C1
            go_wp2_with fail
            refine wp_region_above (by kernel_rfl) (by kernel_rfl) ?_
            repeat (first
              | go_big_quiet_skip
              | (go_big_quiet_want; go_big_quiet_op; go_big_quiet_on)
              | (go_big_quiet_want; go_big_quiet_op; apply Exists.intro; refine ⟨fun s => ?_, ?_⟩; (first | exact above_call s (C2 _) | exact above_call s (C3 _)); go_big_quiet_on))
            refine wpQuiet_nil ?_
            rintro _ ⟨s, rfl⟩
            go_wp2_with fail
            go_ret
            exact ⟨ret_bool (by simp), ((Below.refl _ _).alloc (Nat.le_refl _) _).trans (s.bel.mono (by simp))⟩
        · have e1 : leafP true true x = true := by simp [leafP]
          rw [e1] at C2
          clear e1
          have hab := fun (o : Obj) (s : Above (W.alloc o)) k => above_alloc s k
          have hne := above_here (W.alloc (.cells #[.bool true, .bool true, .bool false, .bool x, .bool u, .bool s, .bool d, .int .i64 f] 93))
          go_enter Tryz.func105, Tryz.ntmps105
          go_wp2_with fail
          refine (C1 _).mono ?_
          rintro e w1 ⟨rfl, rfl⟩
          clear C1
          go_wp2_with fail
          refine wp_region_above (by kernel_rfl) (by kernel_rfl) ?_
          repeat (first
            | go_big_quiet_skip
            | (go_big_quiet_want; go_big_quiet_op; go_big_quiet_on)
            | (go_big_quiet_want; go_big_quiet_op; apply Exists.intro; refine ⟨fun s => ?_, ?_⟩; (first | exact above_call s (C2 _) | exact above_call s (C3 _)); go_big_quiet_on))
          refine wpQuiet_nil ?_
          rintro _ ⟨s, rfl⟩
          go_wp2_with fail
          go_ret
          exact ⟨ret_bool (by simp), ((Below.refl _ _).alloc (Nat.le_refl _) _).trans (s.bel.mono (by simp))⟩
      · unfold ent
        go_enter Tryz.func105, Tryz.ntmps105
        go_wp2_with fail
        refine (C1 _).mono ?_
        rintro e w1 ⟨rfl, rfl⟩
        clear C1
        go_wp2_with fail
        go_ret
        exact ⟨ret_bool (by cases r <;> simp), (Below.refl _ _).alloc (Nat.le_refl _) _⟩
  · rw [may_out _ _ _ _ _ _ _ _ hf]
    rw [decide_eq_false hf] at C1
    unfold ent
    go_enter Tryz.func105, Tryz.ntmps105
    go_wp2_with fail
    refine (C1 _).mono ?_
    rintro e w1 ⟨rfl, rfl⟩
    clear C1
    go_wp2_with fail
    go_ret
    exact ⟨rfl, (Below.refl _ _).alloc (Nat.le_refl _) _⟩

end Go.Proofs.YteghkhdpdeiocaaGreatDoor.E
namespace Go.Proofs.YteghkhdpdeiocaaGreatDoor.E
open Go.RowKit
set_option linter.unusedVariables false
set_option maxRecDepth 100000

/-- the table of bits -/
structure BT [Bits] (w : World) : Prop where
  c0 : w.cell? ⟨0, 0, none⟩ = some (.int .u64 (Bits.b 0))
  c1 : w.cell? ⟨0, 1, none⟩ = some (.int .u64 (Bits.b 1))
  c2 : w.cell? ⟨0, 2, none⟩ = some (.int .u64 (Bits.b 2))
  c3 : w.cell? ⟨0, 3, none⟩ = some (.int .u64 (Bits.b 3))
  c4 : w.cell? ⟨0, 4, none⟩ = some (.int .u64 (Bits.b 4))
  c5 : w.cell? ⟨0, 5, none⟩ = some (.int .u64 (Bits.b 5))
  c6 : w.cell? ⟨0, 6, none⟩ = some (.int .u64 (Bits.b 6))
  pos : 0 < w.heap.size
theorem BT.below [Bits] {w w' : World} (h : BT w) (hb : Below w.heap.size w w') : BT w' := by
  have hp := h.pos
  have e : ∀ k, w'.cell? ⟨0, k, none⟩ = w.cell? ⟨0, k, none⟩ := fun k => hb.cell (p := ⟨0, k, none⟩) hp
  exact ⟨(e 0).trans h.c0, (e 1).trans h.c1, (e 2).trans h.c2, (e 3).trans h.c3, (e 4).trans h.c4, (e 5).trans h.c5, (e 6).trans h.c6, Nat.lt_of_lt_of_le hp hb.size⟩

/-- the number so far -/
def lowP [Bits] (v r w x u s d : Bool) (a : Int) : Nat → Int
  | 0 => a
  | 1 => orP a v 0
  | 2 => orP (orP a v 0) r 1
  | 3 => orP (orP (orP a v 0) r 1) w 2
  | 4 => orP (orP (orP (orP a v 0) r 1) w 2) x 3
  | 5 => orP (orP (orP (orP (orP a v 0) r 1) w 2) x 3) u 4
  | 6 => orP (orP (orP (orP (orP (orP a v 0) r 1) w 2) x 3) u 4) s 5
  | _ => orP (orP (orP (orP (orP (orP (orP a v 0) r 1) w 2) x 3) u 4) s 5) d 6
theorem eidx0 (v r w x u s d : Bool) (W : World) : (Instr.index 178 (.agg #[.bool v, .bool r, .bool w, .bool x, .bool u, .bool s, .bool d]) (.int .i64 0)).run Tryz.prog W = .ok (.bool v) W := by kernel_rfl
theorem eidx1 (v r w x u s d : Bool) (W : World) : (Instr.index 178 (.agg #[.bool v, .bool r, .bool w, .bool x, .bool u, .bool s, .bool d]) (.int .i64 1)).run Tryz.prog W = .ok (.bool r) W := by kernel_rfl
theorem eidx2 (v r w x u s d : Bool) (W : World) : (Instr.index 178 (.agg #[.bool v, .bool r, .bool w, .bool x, .bool u, .bool s, .bool d]) (.int .i64 2)).run Tryz.prog W = .ok (.bool w) W := by kernel_rfl
theorem eidx3 (v r w x u s d : Bool) (W : World) : (Instr.index 178 (.agg #[.bool v, .bool r, .bool w, .bool x, .bool u, .bool s, .bool d]) (.int .i64 3)).run Tryz.prog W = .ok (.bool x) W := by kernel_rfl
theorem eidx4 (v r w x u s d : Bool) (W : World) : (Instr.index 178 (.agg #[.bool v, .bool r, .bool w, .bool x, .bool u, .bool s, .bool d]) (.int .i64 4)).run Tryz.prog W = .ok (.bool u) W := by kernel_rfl
theorem eidx5 (v r w x u s d : Bool) (W : World) : (Instr.index 178 (.agg #[.bool v, .bool r, .bool w, .bool x, .bool u, .bool s, .bool d]) (.int .i64 5)).run Tryz.prog W = .ok (.bool s) W := by kernel_rfl
theorem eidx6 (v r w x u s d : Bool) (W : World) : (Instr.index 178 (.agg #[.bool v, .bool r, .bool w, .bool x, .bool u, .bool s, .bool d]) (.int .i64 6)).run Tryz.prog W = .ok (.bool d) W := by kernel_rfl

theorem pack_any [Bits] (v r w x u s d : Bool) (f : Int) (W : World) (hT : BT W) :
    Calls Tryz.prog 96 #[ent v r w x u s d f] W fun e W' => e = .returned (.tuple #[.int .u64 (packN v r w x u s d f), .int .i64 (packE v r w x u s d f)]) ∧ Below W.heap.size W W' := by
  have C1 := mayBe_any v r w x u s d f
  have C2 := flags_any v r w x u s d f
  unfold packN packE
  cases hm : mayP v r w x u s d f
  · rw [hm] at C1
    simp only [Bool.false_eq_true, if_false]
    clear hm C2
    unfold ent at *
    go_enter Tryz.func96, Tryz.ntmps96
    go_wp2_with fail
    refine (C1 _).mono ?_
    rintro e w1 ⟨rfl, hb1⟩
    have HB : Hid (Below W.heap.size W w1) := ((Below.refl _ _).alloc (Nat.le_refl _) _).trans (hb1.mono (by simp))
    clear hb1 C1
    go_wp2_with fail
    go_ret2
    exact ⟨rfl, HB.out⟩
  · rw [hm] at C1
    simp only [if_true]
    have hf := may_frame hm
    clear hm
    have w1 : IntKind.u64.wrap f = f := wraps_u64 _ (by omega) (by omega)
    have w2 : IntKind.u64.wrap (f * 1024) = f * 1024 := wraps_u64 _ (by omega) (by omega)
    have HN : Hid (numP v r w x u s d f = lowP v r w x u s d (f * 1024) 7) := (rfl : numP v r w x u s d f = lowP v r w x u s d (f * 1024) 7)
    have lo := Bits.lo
    have l0 := lo 0
    have l1 := lo 1
    have l2 := lo 2
    have l3 := lo 3
    have l4 := lo 4
    have l5 := lo 5
    have l6 := lo 6
    clear lo
    have i0 := eidx0 v r w x u s d
    have i1 := eidx1 v r w x u s d
    have i2 := eidx2 v r w x u s d
    have i3 := eidx3 v r w x u s d
    have i4 := eidx4 v r w x u s d
    have i5 := eidx5 v r w x u s d
    have i6 := eidx6 v r w x u s d
    unfold ent at *
    go_enter Tryz.func96, Tryz.ntmps96
    go_wp2_with fail
    refine (C1 _).mono ?_
    rintro e wa ⟨rfl, hb1⟩
    have HB : Hid (Below W.heap.size W wa) := ((Below.refl _ _).alloc (Nat.le_refl _) _).trans (hb1.mono (by simp))
    obtain ⟨hcc1, hff1⟩ := bcell hb1
    simp only [World.size_alloc] at hcc1 hff1
    have hs1 : W.heap.size < wa.heap.size := by have := hb1.size; simp at this; omega
    clear hb1 C1
    go_wp2_with fail
    refine (C2 _).mono ?_
    rintro e wb ⟨rfl, hb2⟩
    have HB2 : Hid (Below W.heap.size W wb) := HB.out.trans (hb2.mono (by omega))
    have hT2 := hT.below HB2.out
    obtain ⟨c0, c1, c2, c3, c4, c5, c6, hp⟩ := hT2
    clear hb2 C2 HB hcc1 hff1 hs1
    go_wp2_with fail
    go_loopw [4, 16] (fun n i w' => ∃ k : Nat, k ≤ 7 ∧ i = .int .i64 k ∧ n = .int .u64 (lowP v r w x u s d (f * 1024) k) ∧ w' = wb) (fun _ i _ => 7 - (intOf i).toNat)
    case atStart => exact ⟨0, by omega, rfl, by simp [lowP], rfl⟩
    case round =>
      obtain ⟨k, hk, rfl, rfl, rfl⟩ := hrel
      obtain rfl | rfl | rfl | rfl | rfl | rfl | rfl | rfl : k = 0 ∨ k = 1 ∨ k = 2 ∨ k = 3 ∨ k = 4 ∨ k = 5 ∨ k = 6 ∨ k = 7 := by omega
      · have E0 : Hid (lowP v r w x u s d (f * 1024) 1 = orP (lowP v r w x u s d (f * 1024) 0) v 0) := (rfl : lowP v r w x u s d (f * 1024) 1 = orP (lowP v r w x u s d (f * 1024) 0) v 0)
        generalize lowP v r w x u s d (f * 1024) 0 = acc at *
        cases v
        all_goals
          go_wp2
          go_roundw
          case rel => exact ⟨1, by omega, rfl, congrArg _ (by rw [E0.out]; simp [orP]), trivial⟩
          case measure => simp [intOf]
      · have E0 : Hid (lowP v r w x u s d (f * 1024) 2 = orP (lowP v r w x u s d (f * 1024) 1) r 1) := (rfl : lowP v r w x u s d (f * 1024) 2 = orP (lowP v r w x u s d (f * 1024) 1) r 1)
        generalize lowP v r w x u s d (f * 1024) 1 = acc at *
        cases r
        all_goals
          go_wp2
          go_roundw
          case rel => exact ⟨2, by omega, rfl, congrArg _ (by rw [E0.out]; simp [orP]), trivial⟩
          case measure => simp [intOf]
      · have E0 : Hid (lowP v r w x u s d (f * 1024) 3 = orP (lowP v r w x u s d (f * 1024) 2) w 2) := (rfl : lowP v r w x u s d (f * 1024) 3 = orP (lowP v r w x u s d (f * 1024) 2) w 2)
        generalize lowP v r w x u s d (f * 1024) 2 = acc at *
        cases w
        all_goals
          go_wp2
          go_roundw
          case rel => exact ⟨3, by omega, rfl, congrArg _ (by rw [E0.out]; simp [orP]), trivial⟩
          case measure => simp [intOf]
      · have E0 : Hid (lowP v r w x u s d (f * 1024) 4 = orP (lowP v r w x u s d (f * 1024) 3) x 3) := (rfl : lowP v r w x u s d (f * 1024) 4 = orP (lowP v r w x u s d (f * 1024) 3) x 3)
        generalize lowP v r w x u s d (f * 1024) 3 = acc at *
        cases x
        all_goals
          go_wp2
          go_roundw
          case rel => exact ⟨4, by omega, rfl, congrArg _ (by rw [E0.out]; simp [orP]), trivial⟩
          case measure => simp [intOf]
      · have E0 : Hid (lowP v r w x u s d (f * 1024) 5 = orP (lowP v r w x u s d (f * 1024) 4) u 4) := (rfl : lowP v r w x u s d (f * 1024) 5 = orP (lowP v r w x u s d (f * 1024) 4) u 4)
        generalize lowP v r w x u s d (f * 1024) 4 = acc at *
        cases u
        all_goals
          go_wp2
          go_roundw
          case rel => exact ⟨5, by omega, rfl, congrArg _ (by rw [E0.out]; simp [orP]), trivial⟩
          case measure => simp [intOf]
      · have E0 : Hid (lowP v r w x u s d (f * 1024) 6 = orP (lowP v r w x u s d (f * 1024) 5) s 5) := (rfl : lowP v r w x u s d (f * 1024) 6 = orP (lowP v r w x u s d (f * 1024) 5) s 5)
        generalize lowP v r w x u s d (f * 1024) 5 = acc at *
        cases s
        all_goals
          go_wp2
          go_roundw
          case rel => exact ⟨6, by omega, rfl, congrArg _ (by rw [E0.out]; simp [orP]), trivial⟩
          case measure => simp [intOf]
      · have E0 : Hid (lowP v r w x u s d (f * 1024) 7 = orP (lowP v r w x u s d (f * 1024) 6) d 6) := (rfl : lowP v r w x u s d (f * 1024) 7 = orP (lowP v r w x u s d (f * 1024) 6) d 6)
        generalize lowP v r w x u s d (f * 1024) 6 = acc at *
        cases d
        all_goals
          go_wp2
          go_roundw
          case rel => exact ⟨7, by omega, rfl, congrArg _ (by rw [E0.out]; simp [orP]), trivial⟩
          case measure => simp [intOf]
      · go_wp2
        go_ret2
        exact ⟨by rw [HN.out]; rfl, HB2.out⟩

end Go.Proofs.YteghkhdpdeiocaaGreatDoor.E
namespace Go.Proofs.YteghkhdpdeiocaaGreatDoor.E
open Go.RowKit
set_option linter.unusedVariables false
set_option maxRecDepth 100000

/-- the operation with the same edges that does nothing -/
def idle (o : Oper) : Oper := { o with op := .move (.const undef) }

theorem get_idle (l : List Oper) (o : Oper) (j : Nat) : (l ++ [idle o]).toArray[j]? = ((l ++ [o]).toArray[j]?).map (fun x => if j = l.length then idle o else x) := by
  simp only [List.getElem?_toArray]
  rcases Nat.lt_trichotomy j l.length with h | h | h
  · simp [List.getElem?_append_left h, Nat.ne_of_lt h]
  · subst h; simp
  · rw [List.getElem?_eq_none (by simp; omega), List.getElem?_eq_none (by simp; omega)]; rfl

theorem ready_idle {md : Region.Mode} (l : List Oper) (o : Oper) (listed : Array Bool) : Region.ready md (l ++ [idle o]).toArray listed = Region.ready md (l ++ [o]).toArray listed := by
  unfold Region.ready
  have hs : (l ++ [idle o]).toArray.size = (l ++ [o]).toArray.size := by simp
  rw [hs]
  congr 1
  funext i
  rw [get_idle]
  cases h : (l ++ [o]).toArray[i]? with
  | none => rfl
  | some x =>
    by_cases hi : i = l.length
    · subst hi
      obtain rfl : o = x := by simpa using h
      simp [idle]
    · simp [hi]

theorem yielded_idle (l : List Oper) (o : Oper) (t : Array Value) : yielded (l ++ [idle o]).toArray t = yielded (l ++ [o]).toArray t := by
  funext j
  unfold yielded
  rw [get_idle]
  cases h : (l ++ [o]).toArray[j]? with
  | none => rfl
  | some x =>
    by_cases hi : j = l.length
    · subst hi
      obtain rfl : o = x := by simpa using h
      simp [idle]
    · simp [hi]

theorem quiet_append {P : Program} {C : World → Prop} {ops : Array Oper} {Q : Act → Prop} : ∀ (l r : List Oper) (a : Act), wpQuiet P ops C (wpQuiet P ops C Q r) l a → wpQuiet P ops C Q (l ++ r) a
  | [], _, _, h => h
  | o :: l, r, a, h => by
    simp only [List.cons_append, wpQuiet] at h ⊢
    split
    · rename_i hw; simp only [hw, if_true] at h; exact Oper.quiet_mono (fun a => quiet_append l r a) h
    · rename_i hw; simp only [hw] at h; exact quiet_append l r _ h

theorem quiet_ops {P : Program} {C : World → Prop} {ops ops' : Array Oper} {Q : Act → Prop} (hy : ∀ t, yielded ops' t = yielded ops t) : ∀ (l : List Oper) (a : Act), wpQuiet P ops C Q l a → wpQuiet P ops' C Q l a
  | [], _, h => h
  | o :: l, a, h => by
    simp only [wpQuiet, hy] at h ⊢
    split
    · rename_i hw; simp only [hw, if_true] at h; exact Oper.quiet_mono (fun a => quiet_ops hy l a) h
    · rename_i hw; simp only [hw] at h; exact quiet_ops hy l _ h

theorem quiet_mono_last {P : Program} {C : World → Prop} {ops : Array Oper} {Q Q' : Act → Prop} (hQ : ∀ a, Q a → Q' a) : ∀ (l : List Oper) (a : Act), wpQuiet P ops C Q l a → wpQuiet P ops C Q' l a
  | [], a, h => hQ a h
  | o :: l, a, h => by
    simp only [wpQuiet] at h ⊢
    split
    · rename_i hw; simp only [hw, if_true] at h; exact Oper.quiet_mono (fun a => quiet_mono_last hQ l a) h
    · rename_i hw; simp only [hw] at h; exact quiet_mono_last hQ l _ h

/-- every edge leads back -/
def backB (ops : Array Oper) : Bool := (List.range ops.size).all fun i => ((ops[i]?).map (·.after.all fun e => decide (e.on < i))).getD true
/-- the last operation waits for all others -/
def waitsB (md : Region.Mode) (l : List Oper) (o : Oper) : Bool := (List.range l.length).all fun i => o.after.any fun e => Region.binds md e && e.on == i

theorem some_ready {md : Region.Mode} {ops : Array Oper} (hb : backB ops = true) {listed : Array Bool} (hs : listed.size = ops.size) : ∀ (n j : Nat), j ≤ n → j < ops.size → listed.getD j true = false → Region.ready md ops listed ≠ [] := by
  intro n
  induction n with
  | zero =>
    intro j hj hlt hun h0
    obtain rfl : j = 0 := by omega
    have hm : (0 : Nat) ∈ Region.ready md ops listed := by
      refine mem_ready.2 ⟨hun, ops[0], by simp [hlt], fun e he _ => ?_⟩
      have := List.all_eq_true.1 hb 0 (by simpa using hlt)
      simp [hlt] at this
      obtain ⟨i, hi, rfl⟩ := Array.mem_iff_getElem.1 he
      exact absurd (this i) (by omega)
    rw [h0] at hm; cases hm
  | succ n ih =>
    intro j hj hlt hun h0
    by_cases hall : ∀ e ∈ ops[j].after, Region.binds md e = true → listed.getD e.on false = true
    · have hm : j ∈ Region.ready md ops listed := mem_ready.2 ⟨hun, ops[j], by simp [hlt], hall⟩
      rw [h0] at hm; cases hm
    · have : ∃ e ∈ ops[j].after, listed.getD e.on false = false := by
        apply Classical.byContradiction
        intro hne
        exact hall fun e he _ => by
          cases hx : listed.getD e.on false
          · exact absurd ⟨e, he, hx⟩ hne
          · rfl
      obtain ⟨e, he, hx⟩ := this
      have hback := List.all_eq_true.1 hb j (by simpa using hlt)
      simp [hlt] at hback
      obtain ⟨i, hi, rfl⟩ := Array.mem_iff_getElem.1 he
      have hlt' := hback i hi
      refine ih (ops[j].after[i].on) (by omega) (by omega) ?_ h0
      have : ops[j].after[i].on < listed.size := by omega
      simp [this] at hx ⊢
      exact hx

theorem any_of_last {P : Program} {md : Region.Mode} {C : World → Prop} {l : List Oper} {o : Oper} {Q : Exit → Act → World → Prop} (hg : o.guard = none) (hd : o.dst = none) (hb : backB (l ++ [o]).toArray = true) (hw : waitsB md l o = true) :
    ∀ (fuel : Nat) (listed : Array Bool) (a : Act) (w : World), C w → listed.size = l.length + 1 → listed.getD l.length true = false →
    wpAnyQ P md (l ++ [idle o]).toArray C (fun a' => ∀ w', C w' → wpList P (l ++ [o]).toArray Q [o] a' w') fuel listed a → wpAny P md (l ++ [o]).toArray Q fuel listed a w := by
  intro fuel
  induction fuel with
  | zero =>
    intro listed a w hC hs hun h
    exact absurd (ready_idle l o listed ▸ h.1) (some_ready hb (by simpa using hs) l.length l.length (Nat.le_refl _) (by simp) hun)
  | succ fuel ih =>
    intro listed a w hC hs hun h
    refine ⟨fun h0 => absurd h0 (some_ready hb (by simpa using hs) l.length l.length (Nat.le_refl _) (by simp) hun), fun i hi => ?_⟩
    have hq := h.2 i (by rw [ready_idle]; exact hi)
    by_cases hil : i = l.length
    · subst hil
      have ho : (l ++ [o]).toArray[l.length]? = some o := by simp
      have ho' : (l ++ [idle o]).toArray[l.length]? = some (idle o) := by simp
      unfold qOp at hq
      simp only [ho'] at hq
      have hwt : Region.wanted (idle o) (yielded (l ++ [idle o]).toArray a.tmps) = true := by simp [Region.wanted, idle, hg]
      simp only [hwt, if_true] at hq
      obtain ⟨v, _, hn⟩ := hq
      have hput : a.put (idle o).dst v = a := by simp [idle, hd, Act.put]
      rw [hput] at hn
      have hr : Region.ready md (l ++ [o]).toArray (listed.setIfInBounds l.length true) = [] := by
        apply List.eq_nil_iff_forall_not_mem.2
        intro j hj
        obtain ⟨hju, oj, hoj, _⟩ := mem_ready.1 hj
        obtain ⟨_, oo, hoo, hall⟩ := mem_ready.1 hi
        obtain rfl : o = oo := by simpa using hoo
        have hjlt : j < l.length + 1 := by
          have := (Array.getElem?_eq_some_iff.1 hoj).1
          simpa using this
        by_cases hjl : j = l.length
        · subst hjl; simp [hs] at hju
        · have h1 := List.all_eq_true.1 hw j (by simp; omega)
          simp only [Array.any_eq_true, Bool.and_eq_true, beq_iff_eq] at h1
          obtain ⟨k, hk, hb1, hb2⟩ := h1
          have h2 := hall _ (Array.getElem_mem hk) hb1
          rw [hb2] at h2
          rw [getD_set_ne true (Ne.symm hjl)] at hju
          have : j < listed.size := by omega
          simp [this] at h2 hju
          rw [hju] at h2; cases h2
      have hQ : ∀ w', C w' → wpList P (l ++ [o]).toArray Q [o] a w' := by
        cases fuel with
        | zero => exact hn.2
        | succ f => exact hn.1 (by rw [ready_idle]; exact hr)
      have hl := hQ w hC
      unfold wpOp
      simp only [ho]
      simp only [wpList] at hl
      have hwt' : Region.wanted o (yielded (l ++ [o]).toArray a.tmps) = true := by simp [Region.wanted, hg]
      simp only [hwt', if_true] at hl ⊢
      refine hl.imp (Oper.wp_mono fun a' w' hQn => ?_) id
      cases fuel with
      | zero => exact ⟨hr, hQn⟩
      | succ f => exact ⟨fun _ => hQn, fun j hj => by rw [hr] at hj; cases hj⟩
    · have hsame : (l ++ [idle o]).toArray[i]? = (l ++ [o]).toArray[i]? := by rw [get_idle]; simp [hil]
      have hq2 : qOp P (l ++ [o]).toArray C i (wpAnyQ P md (l ++ [idle o]).toArray C (fun a' => ∀ w', C w' → wpList P (l ++ [o]).toArray Q [o] a' w') fuel (listed.setIfInBounds i true)) a := by
        unfold qOp at hq ⊢
        rw [hsame, yielded_idle] at hq
        exact hq
      refine wpOp_of_qOp hC (fun a' w' hC' h' => ih _ a' w' hC' (by simpa using hs) ?_ h') hq2
      rw [getD_set_ne true hil]
      exact hun

theorem wp_region_last {P : Program} {id : Nat} {Q : Exit → Act → World → Prop} {a : Act} {w : World} (l : List Oper) (o : Oper) (C : World → Prop) (hm : P.follows .mixedOrders = true)
    (hB : Region.lexB .any (l ++ [idle o]).toArray = true) (hg : o.guard = none) (hd : o.dst = none) (hb : backB (l ++ [o]).toArray = true) (hw : waitsB .any l o = true) (hC : C { w with drawn := w.drawn + 1 })
    (h : wpQuiet P (l ++ [o]).toArray C (fun a' => ∀ w', C w' → wpList P (l ++ [o]).toArray Q [o] a' w') l a) : (Code.region id (l ++ [o]).toArray true).wp P Q a w := by
  refine wp_region_any hm ?_
  have hlex := hB
  simp only [Region.lexB, Bool.and_eq_true] at hlex
  have hq : wpQuiet P (l ++ [idle o]).toArray C (fun a' => ∀ w', C w' → wpList P (l ++ [o]).toArray Q [o] a' w') (l ++ [idle o]) a := by
    refine quiet_append l [idle o] a ?_
    have : ∀ a', (∀ w', C w' → wpList P (l ++ [o]).toArray Q [o] a' w') → wpQuiet P (l ++ [idle o]).toArray C (fun a' => ∀ w', C w' → wpList P (l ++ [o]).toArray Q [o] a' w') [idle o] a' := fun a' ha => by
      have hwt : Region.wanted (idle o) (yielded (l ++ [idle o]).toArray a'.tmps) = true := by simp [Region.wanted, idle, hg]
      refine wpQuiet_step fun K hK => ?_
      rw [if_pos hwt]
      refine ⟨undef, fun w' _ => ?_, ?_⟩
      · unfold Oper.quietAt
        exact ⟨rfl, rfl⟩
      have hput0 : a'.put (idle o).dst undef = a' := by simp [idle, hd, Act.put]
      rw [hput0]
      exact hK _ (wpQuiet_nil ha)
    exact quiet_ops (yielded_idle l o) l a (quiet_mono_last this l a h)
  have hA := wpAnyQ_lex (P := P) (C := C) (md := .any) hlex.1 (l ++ [idle o]) 0 (Array.replicate (l ++ [idle o]).toArray.size false) a (by simp) (by simpa using hlex.2) hq
  have := any_of_last (P := P) (C := C) (Q := Q) hg hd hb hw _ _ a _ hC (by simp) (by simp) hA
  simpa using this

/-- the same, of operations that are written out -/
theorem wp_region_last_lit {P : Program} {id : Nat} {Q : Exit → Act → World → Prop} {a : Act} {w : World} {L : List Oper} (hne : L ≠ []) (C : World → Prop) (hm : P.follows .mixedOrders = true)
    (hB : Region.lexB .any (L.dropLast ++ [idle (L.getLast hne)]).toArray = true) (hg : (L.getLast hne).guard = none) (hd : (L.getLast hne).dst = none) (hb : backB L.toArray = true) (hw : waitsB .any L.dropLast (L.getLast hne) = true)
    (hC : C { w with drawn := w.drawn + 1 })
    (h : wpQuiet P L.toArray C (fun a' => ∀ w', C w' → wpList P L.toArray Q [L.getLast hne] a' w') L.dropLast a) : (Code.region id L.toArray true).wp P Q a w := by
  have e : L.dropLast ++ [L.getLast hne] = L := List.dropLast_concat_getLast hne
  have := wp_region_last (P := P) (id := id) (Q := Q) (a := a) (w := w) L.dropLast (L.getLast hne) C hm hB hg hd (by rw [e]; exact hb) hw hC (by rw [e]; exact h)
  rwa [e] at this
end Go.Proofs.YteghkhdpdeiocaaGreatDoor.E
namespace Go.Proofs.YteghkhdpdeiocaaGreatDoor.E
open Go.RowKit
set_option linter.unusedVariables false
set_option maxRecDepth 100000

theorem below_set8 {B : Nat} {W w : World} (h : Below B W w) {b : Nat} (hb : B ≤ b) (v0 v1 v2 v3 v4 v5 v6 v7 : Value) :
    Below B W ((((((((w.setCell ⟨b, 0, none⟩ v0).setCell ⟨b, 1, none⟩ v1).setCell ⟨b, 2, none⟩ v2).setCell ⟨b, 3, none⟩ v3).setCell ⟨b, 4, none⟩ v4).setCell ⟨b, 5, none⟩ v5).setCell ⟨b, 6, none⟩ v6).setCell ⟨b, 7, none⟩ v7) :=
  (((((((h.setCell hb _).setCell hb _).setCell hb _).setCell hb _).setCell hb _).setCell hb _).setCell hb _).setCell hb _

theorem below_drewN (W : World) : ∀ n, Below W.heap.size W (W.drewN n)
  | 0 => Below.refl _ _
  | n + 1 => (below_drewN W n).drew

theorem bit_at [Bits] (n : Int) (k : Nat) (hk : k ≤ 6) (h0 : 0 ≤ n) (h1 : n < 18446744073709551616) (b : Nat) (W : World) (hT : BT W) (hc : W.cell? ⟨b, 0, none⟩ = some (.int .u64 n)) :
    Calls Tryz.prog 104 #[.int .i64 (k : Int), .pointer (some ⟨b, 0, none⟩)] W fun e W' => e = .returned (.bool (flagP n k)) ∧ Below W.heap.size W W' := by
  obtain ⟨c0, c1, c2, c3, c4, c5, c6, hp⟩ := hT
  have HF : Hid (∀ x : Int, x = n / 2 ^ min (Bits.b k).toNat 64 → (bits .and .u64 x 1 != 0) = flagP n k) := by
    intro x hx
    have hq : 0 ≤ x ∧ x < 18446744073709551616 := by
      subst hx
      exact ⟨Int.ediv_nonneg h0 (Int.pow_nonneg (by decide)), by have := Int.ediv_le_self (2 ^ min (Bits.b k).toNat 64) h0; omega⟩
    rw [and_one x hq.1 hq.2, hx]
    unfold flagP
    rw [Bool.eq_iff_iff]
    simp
  have lo := Bits.lo k
  obtain rfl | rfl | rfl | rfl | rfl | rfl | rfl : k = 0 ∨ k = 1 ∨ k = 2 ∨ k = 3 ∨ k = 4 ∨ k = 5 ∨ k = 6 := by omega
  all_goals
    go_enter Tryz.func104, Tryz.ntmps104
    go_wp2_with fail
    go_quiet (fail)
    go_wp2_with fail
    go_ret
    exact ⟨ret_bool (HF.out _ (by simp)), below_drewN _ _⟩

/-- what stands in a number, as a value -/
def seenV [Bits] (n : Int) : Value := ent (flagP n 0) (flagP n 1) (flagP n 2) (flagP n 3) (flagP n 4) (flagP n 5) (flagP n 6) (frameP n)

set_option maxHeartbeats 3200000 in
theorem seen_any [Bits] (n : Int) (h0 : 0 ≤ n) (h1 : n < 18446744073709551616) (W : World) (hT : BT W) :
    Calls Tryz.prog 95 #[.int .u64 n] W fun e W' => e = .returned (seenV n) ∧ Below W.heap.size W W' := by
  obtain ⟨WW, HW⟩ : ∃ WW, Hid (WW = (W.alloc (.cells #[.int .u64 n] 47)).alloc (.cells #[.bool false, .bool false, .bool false, .bool false, .bool false, .bool false, .bool false, .int .i64 0] 93)) := ⟨_, rfl⟩
  have hb0 : Below W.heap.size W WW := by rw [HW.out]; exact ((Below.refl _ _).alloc (Nat.le_refl _) _).alloc (by simp) _
  have hsz : WW.heap.size = W.heap.size + 2 := by rw [HW.out]; simp
  have hTW : BT WW := hT.below hb0
  have hTs : ∀ s : Above WW, BT s.wld := fun s => hTW.below s.bel
  have hcs : ∀ s : Above WW, s.wld.cell? ⟨W.heap.size, 0, none⟩ = some (.int .u64 n) := fun s => (s.bel.cell (p := ⟨W.heap.size, 0, none⟩) (by show W.heap.size < _; omega)).trans (by rw [HW.out]; simp [go_sem])
  have C0 := fun s : Above WW => bit_at n 0 (by decide) h0 h1 W.heap.size s.wld (hTs s) (hcs s)
  have C1 := fun s : Above WW => bit_at n 1 (by decide) h0 h1 W.heap.size s.wld (hTs s) (hcs s)
  have C2 := fun s : Above WW => bit_at n 2 (by decide) h0 h1 W.heap.size s.wld (hTs s) (hcs s)
  have C3 := fun s : Above WW => bit_at n 3 (by decide) h0 h1 W.heap.size s.wld (hTs s) (hcs s)
  have C4 := fun s : Above WW => bit_at n 4 (by decide) h0 h1 W.heap.size s.wld (hTs s) (hcs s)
  have C5 := fun s : Above WW => bit_at n 5 (by decide) h0 h1 W.heap.size s.wld (hTs s) (hcs s)
  have C6 := fun s : Above WW => bit_at n 6 (by decide) h0 h1 W.heap.size s.wld (hTs s) (hcs s)
  have wf : wrap64 (n / 1024 % 65536) = n / 1024 % 65536 := IntWalk.wrap64_in _ ⟨by omega, by omega⟩
  have hne := above_here WW
  unfold seenV ent frameP
  generalize flagP n 0 = g0 at *
  generalize flagP n 1 = g1 at *
  generalize flagP n 2 = g2 at *
  generalize flagP n 3 = g3 at *
  generalize flagP n 4 = g4 at *
  generalize flagP n 5 = g5 at *
  generalize flagP n 6 = g6 at *
  have hcell : ∀ (s : Above WW) k, s.wld.cell? ⟨W.heap.size + 1, k, none⟩ = _ := fun s k => (s.bel.cell (p := ⟨W.heap.size + 1, k, none⟩) (by show W.heap.size + 1 < _; omega)).trans (by rw [HW.out])
  have hfro : ∀ (s : Above WW) k, s.wld.frozen? ⟨W.heap.size + 1, k, none⟩ = _ := fun s k => (s.bel.frozen (p := ⟨W.heap.size + 1, k, none⟩) (by show W.heap.size + 1 < _; omega)).trans (by rw [HW.out])
  go_enter Tryz.func95, Tryz.ntmps95
  go_wp2_with fail
  rw [← HW.out]
  refine wp_region_last_lit (by simp) (fun w' => ∃ s : Above WW, w' = s.wld) (by kernel_rfl) (by kernel_rfl) rfl rfl (by kernel_rfl) (by kernel_rfl) ⟨⟨_, (Below.refl _ _).drew⟩, rfl⟩ ?_
  simp only [List.dropLast, List.getLast]
  repeat (first
    | go_big_quiet_skip
    | (go_big_quiet_want; go_big_quiet_op; go_big_quiet_on))
  (go_big_quiet_want; go_big_quiet_op; apply Exists.intro; refine ⟨fun s => ?_, ?_⟩; exact above_call s (C0 s); go_big_quiet_on)
  repeat (first
    | go_big_quiet_skip
    | (go_big_quiet_want; go_big_quiet_op; go_big_quiet_on))
  (go_big_quiet_want; go_big_quiet_op; apply Exists.intro; refine ⟨fun s => ?_, ?_⟩; exact above_call s (C1 s); go_big_quiet_on)
  repeat (first
    | go_big_quiet_skip
    | (go_big_quiet_want; go_big_quiet_op; go_big_quiet_on))
  (go_big_quiet_want; go_big_quiet_op; apply Exists.intro; refine ⟨fun s => ?_, ?_⟩; exact above_call s (C2 s); go_big_quiet_on)
  repeat (first
    | go_big_quiet_skip
    | (go_big_quiet_want; go_big_quiet_op; go_big_quiet_on))
  (go_big_quiet_want; go_big_quiet_op; apply Exists.intro; refine ⟨fun s => ?_, ?_⟩; exact above_call s (C3 s); go_big_quiet_on)
  repeat (first
    | go_big_quiet_skip
    | (go_big_quiet_want; go_big_quiet_op; go_big_quiet_on))
  (go_big_quiet_want; go_big_quiet_op; apply Exists.intro; refine ⟨fun s => ?_, ?_⟩; exact above_call s (C4 s); go_big_quiet_on)
  repeat (first
    | go_big_quiet_skip
    | (go_big_quiet_want; go_big_quiet_op; go_big_quiet_on))
  (go_big_quiet_want; go_big_quiet_op; apply Exists.intro; refine ⟨fun s => ?_, ?_⟩; exact above_call s (C5 s); go_big_quiet_on)
  repeat (first
    | go_big_quiet_skip
    | (go_big_quiet_want; go_big_quiet_op; go_big_quiet_on))
  (go_big_quiet_want; go_big_quiet_op; apply Exists.intro; refine ⟨fun s => ?_, ?_⟩; exact above_call s (C6 s); go_big_quiet_on)
  repeat (first
    | go_big_quiet_skip
    | (go_big_quiet_want; go_big_quiet_op; go_big_quiet_on))
  refine wpQuiet_nil ?_
  rintro _ ⟨s, rfl⟩
  clear C0 C1 C2 C3 C4 C5 C6 hTs hTW hcs
  go_wp2_with fail
  have hbase : Below W.heap.size W s.wld := hb0.trans (s.bel.mono (by omega))
  exact bodyPost_ret (v := .agg #[.bool g0, .bool g1, .bool g2, .bool g3, .bool g4, .bool g5, .bool g6, .int .i64 (n / 1024 % 65536)]) (by simp [results, Tryz.results95, go_sem, hcell]) rfl ⟨rfl, below_set8 hbase (by omega) _ _ _ _ _ _ _ _⟩
end Go.Proofs.YteghkhdpdeiocaaGreatDoor.E
namespace Go.Proofs.YteghkhdpdeiocaaGreatDoor.E
open Go.RowKit
set_option linter.unusedVariables false
set_option maxRecDepth 100000

/-- what Unpack tells -/
def unpackV [Bits] (n : Int) : Value := if flagP n 0 && isP n then seenV n else ent false false false false false false false 0
def unpackE [Bits] (n : Int) : Int := if flagP n 0 && !isP n then 10 else 0

theorem wp_zero [Bits] (n : Int) (h : flagP n 0 = false) : unpackV n = ent false false false false false false false 0 ∧ unpackE n = 0 := by simp [unpackV, unpackE, h]
theorem wp_bad [Bits] (n : Int) (h : isP n = false) (h0 : flagP n 0 = true) : unpackV n = ent false false false false false false false 0 ∧ unpackE n = 10 := by simp [unpackV, unpackE, h, h0]
theorem wp_good [Bits] (n : Int) (h : isP n = true) (h0 : flagP n 0 = true) : unpackV n = seenV n ∧ unpackE n = 0 := by simp [unpackV, unpackE, h, h0]

set_option maxHeartbeats 1600000 in
theorem unpack_zero [Bits] (n : Int) (h0 : 0 ≤ n) (h1 : n < 18446744073709551616) (hz : flagP n 0 = false) (W : World) (hT : BT W) :
    Calls Tryz.prog 78 #[.int .u64 n] W fun e W' => e = .returned (.tuple #[ent false false false false false false false 0, .int .i64 0]) ∧ Below W.heap.size W W' := by
  have C1 := seen_any n h0 h1
  have HT : Hid (BT W) := hT
  clear hT
  unfold seenV at C1
  rw [hz] at C1
  generalize flagP n 1 = g1 at *
  generalize flagP n 2 = g2 at *
  generalize flagP n 3 = g3 at *
  generalize flagP n 4 = g4 at *
  generalize flagP n 5 = g5 at *
  generalize flagP n 6 = g6 at *
  generalize frameP n = fr at *
  clear hz h0 h1
  unfold ent at *
  go_enter Tryz.func78, Tryz.ntmps78
  go_wp2_with fail
  refine (C1 _ (HT.out.below ((Below.refl _ _).alloc (Nat.le_refl _) _))).mono ?_
  rintro e w1 ⟨rfl, hb1⟩
  have HB1 : Hid (Below W.heap.size W w1) := ((Below.refl _ _).alloc (Nat.le_refl _) _).trans (hb1.mono (by simp))
  obtain ⟨hc1, hf1⟩ := bcell hb1
  simp only [World.size_alloc] at hc1 hf1
  have hs1 : W.heap.size < w1.heap.size := by have := hb1.size; simp at this; omega
  clear hb1 C1
  go_wp2_with fail
  exact bodyPost_ret (v := .tuple #[.agg #[.bool false, .bool false, .bool false, .bool false, .bool false, .bool false, .bool false, .int .i64 0], .int .i64 0]) (by simp [results, Tryz.results78, go_sem, hc1, hs1]) rfl ⟨rfl, (below_set8 HB1.out (Nat.le_refl _) _ _ _ _ _ _ _ _).alloc (by simp; omega) _⟩

set_option maxHeartbeats 1600000 in
theorem unpack_bad [Bits] (n : Int) (h0 : 0 ≤ n) (h1 : n < 18446744073709551616) (hz : flagP n 0 = true) (hp : isP n = false) (W : World) (hT : BT W) :
    Calls Tryz.prog 78 #[.int .u64 n] W fun e W' => e = .returned (.tuple #[ent false false false false false false false 0, .int .i64 10]) ∧ Below W.heap.size W W' := by
  have C1 := seen_any n h0 h1
  have C2 := pack_any (flagP n 0) (flagP n 1) (flagP n 2) (flagP n 3) (flagP n 4) (flagP n 5) (flagP n 6) (frameP n)
  have HT : Hid (BT W) := hT
  clear hT
  unfold isP at hp
  unfold seenV at C1
  unfold packN packE at C2
  rw [hz] at C1 C2 hp
  generalize flagP n 1 = g1 at *
  generalize flagP n 2 = g2 at *
  generalize flagP n 3 = g3 at *
  generalize flagP n 4 = g4 at *
  generalize flagP n 5 = g5 at *
  generalize flagP n 6 = g6 at *
  generalize frameP n = fr at *
  clear hz
  generalize numP true g1 g2 g3 g4 g5 g6 fr = nn at *
  cases hm : mayP true g1 g2 g3 g4 g5 g6 fr
  · rw [hm] at C2
    simp only [Bool.false_eq_true, if_false] at C2
    clear hp hm h0 h1
    unfold ent at *
    go_enter Tryz.func78, Tryz.ntmps78
    go_wp2_with fail
    refine (C1 _ (HT.out.below ((Below.refl _ _).alloc (Nat.le_refl _) _))).mono ?_
    rintro e w1 ⟨rfl, hb1⟩
    have HB1 : Hid (Below W.heap.size W w1) := ((Below.refl _ _).alloc (Nat.le_refl _) _).trans (hb1.mono (by simp))
    have HC1 : Hid (Below (W.heap.size + 1) _ w1) := (by simpa [World.size_alloc] using hb1 : Below (W.heap.size + 1) _ w1)
    obtain ⟨hc1, hf1⟩ := bcell hb1
    simp only [World.size_alloc] at hc1 hf1
    have hs1 : W.heap.size < w1.heap.size := by have := hb1.size; simp at this; omega
    clear hb1 C1
    go_wp2_with fail
    refine (C2 _ (HT.out.below (HB1.out.alloc (by omega) _))).mono ?_
    rintro e w2 ⟨rfl, hb2⟩
    have HB2 : Hid (Below W.heap.size W w2) := (HB1.out.alloc (by omega) _).trans (hb2.mono (by simp; omega))
    have HC2 : Hid (Below (W.heap.size + 1) _ w2) := (HC1.out.alloc (by omega) _).trans (hb2.mono (by simp; omega))
    obtain ⟨hc2, hf2⟩ := bcell HC2.out
    clear hb2 C2 hc1 hf1 HB1 HC1
    go_wp2_with fail
    exact bodyPost_ret (v := .tuple #[.agg #[.bool false, .bool false, .bool false, .bool false, .bool false, .bool false, .bool false, .int .i64 0], .int .i64 10]) (by simp [results, Tryz.results78, go_sem, hc2]) rfl ⟨rfl, below_set8 HB2.out (Nat.le_refl _) _ _ _ _ _ _ _ _⟩
  · rw [hm] at C2
    simp only [if_true] at C2
    have hne : (nn != n) = true := by simpa [hm] using hp
    clear hp hm h0 h1
    unfold ent at *
    go_enter Tryz.func78, Tryz.ntmps78
    go_wp2_with fail
    refine (C1 _ (HT.out.below ((Below.refl _ _).alloc (Nat.le_refl _) _))).mono ?_
    rintro e w1 ⟨rfl, hb1⟩
    have HB1 : Hid (Below W.heap.size W w1) := ((Below.refl _ _).alloc (Nat.le_refl _) _).trans (hb1.mono (by simp))
    have HC1 : Hid (Below (W.heap.size + 1) _ w1) := (by simpa [World.size_alloc] using hb1 : Below (W.heap.size + 1) _ w1)
    obtain ⟨hc1, hf1⟩ := bcell hb1
    simp only [World.size_alloc] at hc1 hf1
    have hs1 : W.heap.size < w1.heap.size := by have := hb1.size; simp at this; omega
    clear hb1 C1
    go_wp2_with fail
    refine (C2 _ (HT.out.below (HB1.out.alloc (by omega) _))).mono ?_
    rintro e w2 ⟨rfl, hb2⟩
    have HB2 : Hid (Below W.heap.size W w2) := (HB1.out.alloc (by omega) _).trans (hb2.mono (by simp; omega))
    have HC2 : Hid (Below (W.heap.size + 1) _ w2) := (HC1.out.alloc (by omega) _).trans (hb2.mono (by simp; omega))
    obtain ⟨hc2, hf2⟩ := bcell HC2.out
    clear hb2 C2 hc1 hf1 HB1 HC1
    go_wp2_with fail
    exact bodyPost_ret (v := .tuple #[.agg #[.bool false, .bool false, .bool false, .bool false, .bool false, .bool false, .bool false, .int .i64 0], .int .i64 10]) (by simp [results, Tryz.results78, go_sem, hc2]) rfl ⟨rfl, below_set8 HB2.out (Nat.le_refl _) _ _ _ _ _ _ _ _⟩

set_option maxHeartbeats 1600000 in
theorem unpack_good [Bits] (n : Int) (h0 : 0 ≤ n) (h1 : n < 18446744073709551616) (hz : flagP n 0 = true) (hp : isP n = true) (W : World) (hT : BT W) :
    Calls Tryz.prog 78 #[.int .u64 n] W fun e W' => e = .returned (.tuple #[seenV n, .int .i64 0]) ∧ Below W.heap.size W W' := by
  have C1 := seen_any n h0 h1
  have C2 := pack_any (flagP n 0) (flagP n 1) (flagP n 2) (flagP n 3) (flagP n 4) (flagP n 5) (flagP n 6) (frameP n)
  have HT : Hid (BT W) := hT
  clear hT
  unfold isP at hp
  unfold seenV at *
  unfold packN packE at C2
  simp only [Bool.and_eq_true, decide_eq_true_eq] at hp
  rw [hp.1, hp.2] at C2
  simp only [if_true] at C2
  clear hp
  rw [hz] at *
  generalize flagP n 1 = g1 at *
  generalize flagP n 2 = g2 at *
  generalize flagP n 3 = g3 at *
  generalize flagP n 4 = g4 at *
  generalize flagP n 5 = g5 at *
  generalize flagP n 6 = g6 at *
  generalize frameP n = fr at *
  clear hz h0 h1
  unfold ent at *
  go_enter Tryz.func78, Tryz.ntmps78
  go_wp2_with fail
  refine (C1 _ (HT.out.below ((Below.refl _ _).alloc (Nat.le_refl _) _))).mono ?_
  rintro e w1 ⟨rfl, hb1⟩
  have HB1 : Hid (Below W.heap.size W w1) := ((Below.refl _ _).alloc (Nat.le_refl _) _).trans (hb1.mono (by simp))
  have HC1 : Hid (Below (W.heap.size + 1) _ w1) := (by simpa [World.size_alloc] using hb1 : Below (W.heap.size + 1) _ w1)
  obtain ⟨hc1, hf1⟩ := bcell hb1
  simp only [World.size_alloc] at hc1 hf1
  have hs1 : W.heap.size < w1.heap.size := by have := hb1.size; simp at this; omega
  clear hb1 C1
  go_wp2_with fail
  refine (C2 _ (HT.out.below (HB1.out.alloc (by omega) _))).mono ?_
  rintro e w2 ⟨rfl, hb2⟩
  have HB2 : Hid (Below W.heap.size W w2) := (HB1.out.alloc (by omega) _).trans (hb2.mono (by simp; omega))
  have HC2 : Hid (Below (W.heap.size + 1) _ w2) := (HC1.out.alloc (by omega) _).trans (hb2.mono (by simp; omega))
  obtain ⟨hc2, hf2⟩ := bcell HC2.out
  obtain ⟨hc3, hf3⟩ := bcell hb2
  simp only [World.size_alloc] at hc3 hf3
  clear hb2 C2 hc1 hf1 HB1 HC1
  go_wp2_with fail
  exact bodyPost_ret (v := .tuple #[.agg #[.bool true, .bool g1, .bool g2, .bool g3, .bool g4, .bool g5, .bool g6, .int .i64 fr], .int .i64 0]) (by simp [results, Tryz.results78, go_sem, hc2]) rfl ⟨rfl, below_set8 HB2.out (Nat.le_refl _) _ _ _ _ _ _ _ _⟩

theorem unpack_any [Bits] (n : Int) (h0 : 0 ≤ n) (h1 : n < 18446744073709551616) (W : World) (hT : BT W) :
    Calls Tryz.prog 78 #[.int .u64 n] W fun e W' => e = .returned (.tuple #[unpackV n, .int .i64 (unpackE n)]) ∧ Below W.heap.size W W' := by
  cases hz : flagP n 0
  · obtain ⟨e1, e2⟩ := wp_zero n hz
    rw [e1, e2]
    exact unpack_zero n h0 h1 hz W hT
  · cases hp : isP n
    · obtain ⟨e1, e2⟩ := wp_bad n hp hz
      rw [e1, e2]
      exact unpack_bad n h0 h1 hz hp W hT
    · obtain ⟨e1, e2⟩ := wp_good n hp hz
      rw [e1, e2]
      exact unpack_good n h0 h1 hz hp W hT
end Go.Proofs.YteghkhdpdeiocaaGreatDoor.E
namespace Go.Proofs.YteghkhdpdeiocaaGreatDoor.E
open Go.RowKit
set_option linter.unusedVariables false
set_option maxRecDepth 100000

/-- an address's parts -/
def splitV (n : Int) : Value := if n < 262144 then .tuple #[.int .i64 (n / 8192), .int .i64 (n / 256 % 32), .int .i64 (n % 256), .bool true] else .tuple #[.int .i64 0, .int .i64 0, .int .i64 0, .bool false]
theorem split_any (n : Int) (h0 : 0 ≤ n) (h1 : n < 18446744073709551616) (W : World) :
    Calls Tryz.prog 72 #[.int .u64 n] W fun e W' => e = .returned (splitV n) ∧ W' = W := by
  by_cases h : n < 262144
  · have e : splitV n = .tuple #[.int .i64 (n / 8192), .int .i64 (n / 256 % 32), .int .i64 (n % 256), .bool true] := by unfold splitV; rw [if_pos h]
    rw [e]
    clear e
    have e0 : (n / 262144 == 0) = true := beq_iff_eq.2 (by omega)
    have e1 : wrap64 (n / 8192) = n / 8192 := IntWalk.wrap64_in _ ⟨by omega, by omega⟩
    have e2 : wrap64 (n / 256 % 32) = n / 256 % 32 := IntWalk.wrap64_in _ ⟨by omega, by omega⟩
    have e3 : wrap64 (n % 256) = n % 256 := IntWalk.wrap64_in _ ⟨by omega, by omega⟩
    go_enter Tryz.func72, Tryz.ntmps72
    go_wp2
    exact bodyPost_ret (v := .tuple #[.int .i64 (n / 8192), .int .i64 (n / 256 % 32), .int .i64 (n % 256), .bool true]) (by simp [results, Tryz.results72, go_sem]) rfl ⟨rfl, rfl⟩
  · have e : splitV n = .tuple #[.int .i64 0, .int .i64 0, .int .i64 0, .bool false] := by unfold splitV; rw [if_neg h]
    rw [e]
    clear e
    have e0 : (n / 262144 == 0) = false := beq_eq_false_iff_ne.2 (by omega)
    go_enter Tryz.func72, Tryz.ntmps72
    go_wp2
    exact bodyPost_ret (v := .tuple #[.int .i64 0, .int .i64 0, .int .i64 0, .bool false]) (by simp [results, Tryz.results72, go_sem]) rfl ⟨rfl, rfl⟩

end Go.Proofs.YteghkhdpdeiocaaGreatDoor.E
