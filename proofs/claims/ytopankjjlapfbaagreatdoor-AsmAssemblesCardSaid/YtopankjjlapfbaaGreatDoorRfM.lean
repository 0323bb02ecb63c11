/-
  The document's Number: what it tells of a word.
  The document's names of operations, and the order of their operands.
  The document's Number, Reg, name and op: what they tell of a word.
  The document's name and op: what they tell of a word.
-/
import Derived.Test.YtopankjjlapfbaaGreatDoorNam
import Derived.Lib.AtoiTie
import Derived.Test.YtopankjjlapfbaaGreatDoorShowC
import Derived.Test.YtopankjjlapfbaaGreatDoorWalks13
import Derived.Test.YtopankjjlapfbaaGreatDoorNumB
import Derived.Test.YtopankjjlapfbaaGreatDoorMp
namespace Go.Proofs.YtopankjjlapfbaaGreatDoor
open Go.RowKit
set_option linter.unusedVariables false
set_option maxRecDepth 100000

/-- the document's number of a word: its digits d, and whether a sign stands ahead of them -/
def rnumD (neg : Bool) (d : List UInt8) : Option Int :=
  if d.length < 1 ∨ 15 < d.length ∨ ((d.headD 0).toNat = 48 ∧ (1 < d.length ∨ neg = true)) then none
  else (Lib.decFrom 0 d).map fun (v : Nat) => if neg = true then -(v : Int) else (v : Int)

theorem decFrom_head (d : List UInt8) (h : d ≠ []) (hb : (d.headD 0).toNat < 48) : Lib.decFrom 0 d = none := by
  cases d with
  | nil => exact absurd rfl h
  | cons c r =>
    have hc : c.toNat < 48 := hb
    unfold Lib.decFrom
    have : Lib.digitVal c = none := by unfold Lib.digitVal; rw [if_neg (by omega)]
    rw [this]
theorem num_neg (r : List UInt8) : numO ⟨(45 :: r).toArray⟩ = rnumD true r := by
  unfold numO rnumD
  have e0 : ¬ (⟨(45 :: r).toArray⟩ : ByteArray) = ⟨#[48]⟩ := by
    intro h
    have := congrArg (fun b : ByteArray => b.data.toList) h
    simp at this
  have e1 : Lib.trimPrefix (45 :: r) [45] = r := by simp [Lib.trimPrefix, Lib.hasPrefix, List.isPrefixOf]
  rw [if_neg e0]
  show (if Lib.trimPrefix (45 :: r) [45] = [] ∨ 15 < (Lib.trimPrefix (45 :: r) [45]).length ∨ ((Lib.trimPrefix (45 :: r) [45]).headD 0).toNat < 49 then none else match Lib.atoiAll (45 :: r) with | .ok v => some v | _ => none) = _
  rw [e1]
  by_cases h1 : r = []
  · subst h1; simp
  · have hl : 1 ≤ r.length := by cases r with | nil => exact absurd rfl h1 | cons _ _ => simp
    by_cases h2 : 15 < r.length
    · rw [if_pos (.inr (.inl h2)), if_pos (.inr (.inl h2))]
    · by_cases h3 : (r.headD 0).toNat < 49
      · rw [if_pos (.inr (.inr h3))]
        by_cases h4 : (r.headD 0).toNat = 48
        · rw [if_pos (.inr (.inr ⟨h4, .inr rfl⟩))]
        · rw [if_neg (by omega), decFrom_head r h1 (by omega)]
          rfl
      · rw [if_neg (by intro h; rcases h with h | h | h; exact h1 h; exact h2 h; exact h3 h), if_neg (by omega)]
        rw [Lib.atoiAll_short _ (by simp; omega)]
        have : Lib.atoi (45 :: r) = (Lib.decFrom 0 r).map fun (m : Nat) => -(m : Int) := by
          simp [Lib.atoi, Lib.decNat, h1]
        rw [this]
        cases Lib.decFrom 0 r <;> rfl
theorem num_pos (l : List UInt8) (h45 : (l.headD 0).toNat ≠ 45) : numO ⟨l.toArray⟩ = rnumD false l := by
  unfold numO rnumD
  by_cases e0 : (⟨l.toArray⟩ : ByteArray) = ⟨#[48]⟩
  · have : l = [48] := by
      have := congrArg (fun b : ByteArray => b.data.toList) e0
      simpa using this
    subst this
    decide
  · rw [if_neg e0]
    have e1 : Lib.trimPrefix l [45] = l := by
      unfold Lib.trimPrefix Lib.hasPrefix
      cases l with
      | nil => rfl
      | cons c r =>
        have hc : c ≠ 45 := fun h => h45 (by rw [h]; rfl)
        have hc' : ¬ 45 = c := fun h => hc h.symm
        simp [List.isPrefixOf, hc']
    show (if Lib.trimPrefix l [45] = [] ∨ 15 < (Lib.trimPrefix l [45]).length ∨ ((Lib.trimPrefix l [45]).headD 0).toNat < 49 then none else match Lib.atoiAll l with | .ok v => some v | _ => none) = _
    rw [e1]
    by_cases h1 : l = []
    · subst h1; simp
    · have hl : 1 ≤ l.length := by cases l with | nil => exact absurd rfl h1 | cons _ _ => simp
      by_cases h2 : 15 < l.length
      · rw [if_pos (.inr (.inl h2)), if_pos (.inr (.inl h2))]
      · by_cases h3 : (l.headD 0).toNat < 49
        · rw [if_pos (.inr (.inr h3))]
          by_cases h4 : (l.headD 0).toNat = 48
          · by_cases h5 : 1 < l.length
            · rw [if_pos (.inr (.inr ⟨h4, .inl h5⟩))]
            · exfalso
              apply e0
              cases l with
              | nil => exact absurd rfl h1
              | cons c r =>
                have hr : r = [] := by cases r with | nil => rfl | cons _ _ => simp at h5
                have hc : c = 48 := by apply UInt8.toNat_inj.1; exact h4
                subst hr hc
                rfl
          · rw [if_neg (by intro h; rcases h with h | h | ⟨h, _⟩; omega; omega; exact h4 h), decFrom_head l h1 (by omega)]
            rfl
        · rw [if_neg (by intro h; rcases h with h | h | h; exact h1 h; exact h2 h; exact h3 h), if_neg (by omega)]
          rw [Lib.atoiAll_short _ (by omega)]
          have : Lib.atoi l = (Lib.decFrom 0 l).map fun (m : Nat) => (m : Int) := by
            cases l with
            | nil => exact absurd rfl h1
            | cons c r =>
              have hc : ¬ c.toNat < 49 := h3
              have c1 : (c == 45) = false := by rw [beq_eq_false_iff_ne]; intro h; rw [h] at hc; exact hc (by decide)
              have c2 : (c == 43) = false := by rw [beq_eq_false_iff_ne]; intro h; rw [h] at hc; exact hc (by decide)
              simp [Lib.atoi, Lib.decNat, beq_eq_false_iff_ne.1 c1, beq_eq_false_iff_ne.1 c2]
          rw [this]
          cases Lib.decFrom 0 l <;> rfl

theorem decFrom_bad (l : List UInt8) (k : Nat) (c : UInt8) (hc : l[k]? = some c) (hd : Lib.digitVal c = none) : ∀ acc, Lib.decFrom acc l = none := by
  induction l generalizing k with
  | nil => cases hc
  | cons b r ih =>
    intro acc
    unfold Lib.decFrom
    cases k with
    | zero =>
      simp at hc
      rw [hc, hd]
    | succ k =>
      simp at hc
      cases Lib.digitVal b with
      | none => rfl
      | some d => exact ih k hc _
theorem decFrom_lt (l : List UInt8) : ∀ acc n j, acc < 10 ^ j → Lib.decFrom acc l = some n → n < 10 ^ (j + l.length) := by
  induction l with
  | nil => intro acc n j h e; simp [Lib.decFrom] at e; subst e; simpa using h
  | cons b r ih =>
    intro acc n j h e
    unfold Lib.decFrom at e
    cases hb : Lib.digitVal b with
    | none => rw [hb] at e; cases e
    | some d =>
      rw [hb] at e
      have hd : d < 10 := by
        unfold Lib.digitVal at hb
        split at hb
        · simp at hb; omega
        · cases hb
      have := ih (acc * 10 + d) n (j + 1) (by rw [Nat.pow_succ]; omega) e
      rw [List.length_cons, show j + (r.length + 1) = j + 1 + r.length by omega]
      exact this

theorem byte_at (s : ByteArray) : ∀ k (h : k < s.size), ((s[k].toNat : Nat) : Int) = bsA s k := fun k h => by
  unfold bsA
  rw [List.getD_eq_getElem?_getD, Array.getElem?_toList, Array.getElem?_eq_getElem (show k < s.data.size from h)]
  rfl
theorem byte_head (s : ByteArray) : (((s.data.toList.headD 0).toNat : Nat) : Int) = bsA s 0 := by unfold bsA; cases s.data.toList <;> rfl
theorem byte_range (s : ByteArray) (k : Nat) : 0 ≤ bsA s k ∧ bsA s k ≤ 255 := by
  unfold bsA
  have := (s.data.toList.getD k 0).toNat_lt
  omega
set_option maxHeartbeats 1600000 in
theorem rnumber_neg (s t : ByteArray) (hp : 0 < s.size) (h45 : bsA s 0 = 45) (hcut : s.extract 1 s.size = t) (htz : t.size + 1 = s.size) (hne : (t.toList == s.toList) = false) (hs : s.size ≤ 65536) (w : World) :
    Calls Tryz.prog 49 #[.string s] w fun e w' => e = .returned (.tuple #[.int .i64 ((rnumD true t.data.toList).getD 0), .bool (rnumD true t.data.toList).isSome]) ∧ w' = w := by
  have hz0 := byte_at s 0 hp
  have e45 : (bsA s 0 == 45) = true := by rw [h45]; rfl
  have hlen : t.data.toList.length = t.size := by rw [Array.length_toList]; rfl
  have hhd := byte_head t
  by_cases c1 : t.size < 1
  · rw [show rnumD true t.data.toList = none by unfold rnumD; rw [if_pos (.inl (by omega))]]
    go_enter Tryz.func49, Tryz.ntmps49
    go_wp2_with fail
    go_ret2
    exact ⟨rfl, rfl⟩
  have hpD : 0 < t.size := Nat.not_lt.1 c1
  clear c1
  have hz1 := byte_at t 0 hpD
  by_cases c2 : 15 < t.size
  · rw [show rnumD true t.data.toList = none by unfold rnumD; rw [if_pos (.inr (.inl (by omega)))]]
    go_enter Tryz.func49, Tryz.ntmps49
    go_wp2_with fail
    go_ret2
    exact ⟨rfl, rfl⟩
  by_cases c3 : bsA t 0 = 48
  · rw [show rnumD true t.data.toList = none by unfold rnumD; rw [if_pos (.inr (.inr ⟨by omega, .inr rfl⟩))]]
    have e48 : (bsA t 0 == 48) = true := by rw [c3]; rfl
    go_enter Tryz.func49, Tryz.ntmps49
    go_wp2_with fail
    all_goals
      go_ret2
      exact ⟨rfl, rfl⟩
  have e48 : (bsA t 0 == 48) = false := by rw [beq_eq_false_iff_ne]; exact c3
  have HR : Hid (rnumD true t.data.toList = (Lib.decFrom 0 t.data.toList).map fun (v : Nat) => -(v : Int)) := by
    show _ = _
    unfold rnumD
    rw [if_neg (by intro h; rcases h with h | h | ⟨h, _⟩; omega; omega; omega)]
    simp
  have HZ : Hid (∀ k (h : k < t.size), ((t[k].toNat : Nat) : Int) = bsA t k) := byte_at t
  have HL : Hid (t.data.toList.length = t.size) := hlen
  clear hhd hlen
  · go_enter Tryz.func49, Tryz.ntmps49
    go_wp2_with fail
    go_loop [5, 6] (fun v i => ∃ (k n : Nat), k ≤ t.size ∧ i = .int .i64 k ∧ v = .int .i64 n ∧ Lib.decFrom 0 (t.data.toList.take k) = some n) (fun _ i => t.size - (intOf i).toNat)
    case atStart => exact ⟨0, 0, by omega, rfl, rfl, rfl⟩
    case round =>
      obtain ⟨k, n, hk, rfl, rfl, hdec⟩ := hrel
      have hnl := decFrom_lt _ 0 n 0 (by decide) hdec
      have hn15 : n < 10 ^ 15 := Nat.lt_of_lt_of_le hnl (Nat.pow_le_pow_right (by decide) (by simp; omega))
      have hn15' : n < 1000000000000000 := hn15
      by_cases hlt : k < t.size
      · have hzk := HZ.out k hlt
        have hbr := byte_range t k
        have hck : t.data.toList[k]? = some (t.data.toList.getD k 0) := by
          rw [List.getD_eq_getElem?_getD, List.getElem?_eq_getElem (by rw [HL.out]; exact hlt)]; rfl
        by_cases hdg : 48 ≤ bsA t k ∧ bsA t k ≤ 57
        · have HN : Hid (Lib.decFrom 0 (t.data.toList.take (k + 1)) = some (n * 10 + ((bsA t k).toNat - 48))) :=
            Lib.decFrom_take _ k 0 n _ _ hdec hck (by unfold Lib.digitVal bsA at *; rw [if_pos (by omega)]; simp)
          clear hck hdec hnl hn15
          generalize bsA t k = z at *
          go_wp2_with fail
          exact ⟨⟨k + 1, n * 10 + (z.toNat - 48), by omega, by go_num, by congr 1; omega, HN.out⟩, by simp [intOf]; omega⟩
        · have HB : Hid (Lib.decFrom 0 t.data.toList = none) := decFrom_bad _ k _ hck (by unfold Lib.digitVal; rw [if_neg (by unfold bsA at hdg; omega)]) 0
          have HQ : Hid (rnumD true t.data.toList = none) := by show _ = _; rw [HR.out, HB.out]; rfl
          clear hck hdec hnl hn15
          generalize bsA t k = z at *
          rcases Int.lt_or_le z 48 with hlo | hhi
          · go_wp2_with fail
            go_ret2
            exact ⟨by rw [HQ.out]; rfl, rfl⟩
          · have hhi2 : 57 < z := by omega
            go_wp2_with fail
            go_ret2
            exact ⟨by rw [HQ.out]; rfl, rfl⟩
      · obtain rfl : k = t.size := by omega
        rw [List.take_of_length_le (by rw [HL.out]; exact Nat.le_refl _)] at hdec
        have HQ : Hid (rnumD true t.data.toList = some (-(n : Int))) := by show _ = _; rw [HR.out, hdec]; rfl
        clear hnl hn15 hdec
        go_wp2_with fail
        go_ret2
        exact ⟨by rw [HQ.out]; rfl, rfl⟩
set_option maxHeartbeats 1600000 in
theorem rnumber_pos (s : ByteArray) (hp : 0 < s.size) (h45 : bsA s 0 ≠ 45) (hs : s.size ≤ 65536) (w : World) :
    Calls Tryz.prog 49 #[.string s] w fun e w' => e = .returned (.tuple #[.int .i64 ((rnumD false s.data.toList).getD 0), .bool (rnumD false s.data.toList).isSome]) ∧ w' = w := by
  have hz0 := byte_at s 0 hp
  have e45 : (bsA s 0 == 45) = false := by rw [beq_eq_false_iff_ne]; exact h45
  have hlen : s.data.toList.length = s.size := by rw [Array.length_toList]; rfl
  have hhd := byte_head s
  have hpD : 0 < s.size := hp
  have hz1 := byte_at s 0 hpD
  by_cases c2 : 15 < s.size
  · rw [show rnumD false s.data.toList = none by unfold rnumD; rw [if_pos (.inr (.inl (by omega)))]]
    go_enter Tryz.func49, Tryz.ntmps49
    go_wp2_with fail
    go_ret2
    exact ⟨rfl, rfl⟩
  by_cases c3 : bsA s 0 = 48 ∧ 1 < s.size
  · rw [show rnumD false s.data.toList = none by unfold rnumD; rw [if_pos (.inr (.inr ⟨by omega, .inl (by omega)⟩))]]
    have e48 : (bsA s 0 == 48) = true := by rw [c3.1]; rfl
    have c32 := c3.2
    go_enter Tryz.func49, Tryz.ntmps49
    go_wp2_with fail
    all_goals
      go_ret2
      exact ⟨rfl, rfl⟩
  have HR : Hid (rnumD false s.data.toList = (Lib.decFrom 0 s.data.toList).map fun (v : Nat) => (v : Int)) := by
    show _ = _
    unfold rnumD
    rw [if_neg (by intro h; rcases h with h | h | ⟨h, h' | h'⟩; omega; omega; exact c3 ⟨by omega, by omega⟩; cases h')]
    simp
  have HZ : Hid (∀ k (h : k < s.size), ((s[k].toNat : Nat) : Int) = bsA s k) := byte_at s
  have HL : Hid (s.data.toList.length = s.size) := hlen
  clear hhd hlen
  rcases (show (bsA s 0 = 48 ∧ s.size = 1) ∨ bsA s 0 ≠ 48 by omega) with ⟨c4, c5⟩ | c4
  case' inl => have e48 : (bsA s 0 == 48) = true := by rw [c4]; rfl
  case' inr => have e48 : (bsA s 0 == 48) = false := by rw [beq_eq_false_iff_ne]; exact c4
  all_goals
    go_enter Tryz.func49, Tryz.ntmps49
    go_wp2_with fail
    go_loop [5, 6] (fun v i => ∃ (k n : Nat), k ≤ s.size ∧ i = .int .i64 k ∧ v = .int .i64 n ∧ Lib.decFrom 0 (s.data.toList.take k) = some n) (fun _ i => s.size - (intOf i).toNat)
    case atStart => exact ⟨0, 0, by omega, rfl, rfl, rfl⟩
    case round =>
      obtain ⟨k, n, hk, rfl, rfl, hdec⟩ := hrel
      have hnl := decFrom_lt _ 0 n 0 (by decide) hdec
      have hn15 : n < 10 ^ 15 := Nat.lt_of_lt_of_le hnl (Nat.pow_le_pow_right (by decide) (by simp; omega))
      have hn15' : n < 1000000000000000 := hn15
      by_cases hlt : k < s.size
      · have hzk := HZ.out k hlt
        have hbr := byte_range s k
        have hck : s.data.toList[k]? = some (s.data.toList.getD k 0) := by
          rw [List.getD_eq_getElem?_getD, List.getElem?_eq_getElem (by rw [HL.out]; exact hlt)]; rfl
        by_cases hdg : 48 ≤ bsA s k ∧ bsA s k ≤ 57
        · have HN : Hid (Lib.decFrom 0 (s.data.toList.take (k + 1)) = some (n * 10 + ((bsA s k).toNat - 48))) :=
            Lib.decFrom_take _ k 0 n _ _ hdec hck (by unfold Lib.digitVal bsA at *; rw [if_pos (by omega)]; simp)
          clear hck hdec hnl hn15
          generalize bsA s k = z at *
          go_wp2_with fail
          exact ⟨⟨k + 1, n * 10 + (z.toNat - 48), by omega, by go_num, by congr 1; omega, HN.out⟩, by simp [intOf]; omega⟩
        · have HB : Hid (Lib.decFrom 0 s.data.toList = none) := decFrom_bad _ k _ hck (by unfold Lib.digitVal; rw [if_neg (by unfold bsA at hdg; omega)]) 0
          have HQ : Hid (rnumD false s.data.toList = none) := by show _ = _; rw [HR.out, HB.out]; rfl
          clear hck hdec hnl hn15
          generalize bsA s k = z at *
          rcases Int.lt_or_le z 48 with hlo | hhi
          · go_wp2_with fail
            go_ret2
            exact ⟨by rw [HQ.out]; rfl, rfl⟩
          · have hhi2 : 57 < z := by omega
            go_wp2_with fail
            go_ret2
            exact ⟨by rw [HQ.out]; rfl, rfl⟩
      · obtain rfl : k = s.size := by omega
        rw [List.take_of_length_le (by rw [HL.out]; exact Nat.le_refl _)] at hdec
        have HQ : Hid (rnumD false s.data.toList = some (n : Int)) := by show _ = _; rw [HR.out, hdec]; rfl
        clear hnl hn15 hdec
        go_wp2_with fail
        go_ret2
        exact ⟨by rw [HQ.out]; rfl, rfl⟩
end Go.Proofs.YtopankjjlapfbaaGreatDoor
namespace Go.Proofs.YtopankjjlapfbaaGreatDoor
open Go.RowKit
set_option linter.unusedVariables false
set_option maxRecDepth 100000

def chr (p : Int) : UInt8 := if p = 0 then 100 else if p = 1 then 97 else if p = 2 then 98 else if p = 3 then 105 else 109
def ordS (op : Int) : ByteArray := ⟨((plcL op).map chr).toArray⟩

theorem order_of (op : Int) (sh : Int) (l : List Int) (C1 : ∀ w, Calls Tryz.prog 30 #[.int .i64 op] w fun e w' => e = .returned (.int .i64 sh) ∧ w' = w)
    (h : sh = 1 ∧ op = 37 ∧ l = [0, 1] ∨ sh = 5 ∧ op = 22 ∧ l = [0, 3] ∨ sh = 1 ∧ op ≠ 37 ∧ l = [0, 1, 2] ∨ sh = 3 ∧ l = [2, 3, 1] ∨ sh = 4 ∧ l = [1, 2, 4] ∨ sh = 5 ∧ op = 35 ∧ l = [0, 4] ∨ sh = 6 ∧ l = [1] ∨ sh = 0 ∧ l = [] ∨ sh = -1 ∧ l = []) (w : World) :
    Calls Tryz.prog 82 #[.int .i64 op] w fun e w' => e = .returned (.string ⟨(l.map chr).toArray⟩) ∧ w' = w := by
  rcases h with ⟨rfl, rfl, rfl⟩ | ⟨rfl, rfl, rfl⟩ | ⟨rfl, h1, rfl⟩ | ⟨rfl, rfl⟩ | ⟨rfl, rfl⟩ | ⟨rfl, rfl, rfl⟩ | ⟨rfl, rfl⟩ | ⟨rfl, rfl⟩ | ⟨rfl, rfl⟩
  all_goals
    go_enter Tryz.func82, Tryz.ntmps82
    go_wp2_with fail
    refine (C1 _).mono ?_
    rintro e w1 ⟨rfl, rfl⟩
    go_wp2_with fail
    go_ret
    exact ⟨rfl, rfl⟩
theorem order_two (op : Int) (l : List Int) (C1 : ∀ w, Calls Tryz.prog 30 #[.int .i64 op] w fun e w' => e = .returned (.int .i64 2) ∧ w' = w)
    (h : (23 ≤ op ∧ op ≤ 25 ∨ op = 36 ∨ 46 ≤ op) ∧ l = [0, 3, 1] ∨ (14 ≤ op ∧ op ≤ 21) ∧ l = [0, 1, 3]) (w : World) :
    Calls Tryz.prog 82 #[.int .i64 op] w fun e w' => e = .returned (.string ⟨(l.map chr).toArray⟩) ∧ w' = w := by
  rcases h with ⟨h1 | rfl | h1, rfl⟩ | ⟨h1, rfl⟩
  all_goals
    go_enter Tryz.func82, Tryz.ntmps82
    go_wp2_with fail
    refine (C1 _).mono ?_
    rintro e w1 ⟨rfl, rfl⟩
    go_wp2_with fail
    all_goals
      go_ret
      first
        | exact ⟨rfl, rfl⟩
        | (exfalso; simp at *; omega)

set_option maxHeartbeats 1600000 in
theorem order_any (op : Int) (w : World) :
    Calls Tryz.prog 82 #[.int .i64 op] w fun e w' => e = .returned (.string (ordS op)) ∧ w' = w := by
  have C1 := rshape_any op
  have hc := shape_cases op
  have key : ∀ l, plcL op = l → (∀ w, Calls Tryz.prog 82 #[.int .i64 op] w fun e w' => e = .returned (.string ⟨(l.map chr).toArray⟩) ∧ w' = w) → Calls Tryz.prog 82 #[.int .i64 op] w fun e w' => e = .returned (.string (ordS op)) ∧ w' = w := by
    intro l hl h
    unfold ordS
    rw [hl]
    exact h w
  by_cases h2 : shapeR op = 2
  · rw [h2] at C1
    by_cases h3 : 14 ≤ op ∧ op ≤ 21
    · exact key [0, 1, 3] (by unfold plcL; rw [if_neg (by omega), if_neg (by omega), if_neg (by omega), if_neg (by omega), if_pos h2]) (order_two op _ C1 (Or.inr ⟨h3, rfl⟩))
    · exact key [0, 3, 1] (by unfold plcL; rw [if_neg (by omega), if_pos (by omega)]) (order_two op _ C1 (Or.inl ⟨by omega, rfl⟩))
  · have n23 : ¬ (op = 23 ∨ op = 24 ∨ op = 25 ∨ op = 36 ∨ op = 46 ∨ op = 47 ∨ op = 48) := by omega
    by_cases h37 : op = 37
    · exact key [0, 1] (by unfold plcL; rw [if_pos h37]) (order_of op _ _ C1 (Or.inl ⟨by omega, h37, rfl⟩))
    · by_cases h22 : op = 22
      · exact key [0, 3] (by unfold plcL; rw [if_neg h37, if_neg n23, if_pos h22]) (order_of op _ _ C1 (Or.inr (Or.inl ⟨by omega, h22, rfl⟩)))
      · by_cases s1 : shapeR op = 1
        · exact key [0, 1, 2] (by unfold plcL; rw [if_neg h37, if_neg n23, if_neg h22, if_pos s1]) (order_of op _ _ C1 (Or.inr (Or.inr (Or.inl ⟨s1, h37, rfl⟩))))
        · by_cases s3 : shapeR op = 3
          · exact key [2, 3, 1] (by unfold plcL; rw [if_neg h37, if_neg n23, if_neg h22, if_neg s1, if_neg h2, if_pos s3]) (order_of op _ _ C1 (Or.inr (Or.inr (Or.inr (Or.inl ⟨s3, rfl⟩)))))
          · by_cases s4 : shapeR op = 4
            · exact key [1, 2, 4] (by unfold plcL; rw [if_neg h37, if_neg n23, if_neg h22, if_neg s1, if_neg h2, if_neg s3, if_pos s4]) (order_of op _ _ C1 (Or.inr (Or.inr (Or.inr (Or.inr (Or.inl ⟨s4, rfl⟩))))))
            · by_cases s5 : shapeR op = 5
              · exact key [0, 4] (by unfold plcL; rw [if_neg h37, if_neg n23, if_neg h22, if_neg s1, if_neg h2, if_neg s3, if_neg s4, if_pos s5]) (order_of op _ _ C1 (Or.inr (Or.inr (Or.inr (Or.inr (Or.inr (Or.inl ⟨s5, by omega, rfl⟩)))))))
              · by_cases s6 : shapeR op = 6
                · exact key [1] (by unfold plcL; rw [if_neg h37, if_neg n23, if_neg h22, if_neg s1, if_neg h2, if_neg s3, if_neg s4, if_neg s5, if_pos s6]) (order_of op _ _ C1 (Or.inr (Or.inr (Or.inr (Or.inr (Or.inr (Or.inr (Or.inl ⟨s6, rfl⟩))))))))
                · have hz : shapeR op = 0 ∧ ([] : List Int) = [] ∨ shapeR op = -1 ∧ ([] : List Int) = [] := by
                    rcases (show shapeR op = 0 ∨ shapeR op = -1 by omega) with h | h
                    · exact Or.inl ⟨h, rfl⟩
                    · exact Or.inr ⟨h, rfl⟩
                  exact key [] (by unfold plcL; rw [if_neg h37, if_neg n23, if_neg h22, if_neg s1, if_neg h2, if_neg s3, if_neg s4, if_neg s5, if_neg s6]) (order_of op _ _ C1 (Or.inr (Or.inr (Or.inr (Or.inr (Or.inr (Or.inr (Or.inr (hz)))))))))

def rnames : Array Value := ((nameL.drop 1).map Value.string).toArray
theorem names_ref (w : World) :
    Calls Tryz.prog 81 #[] w fun e w' => e = .returned (.slice (some ⟨w.heap.size, 0, none⟩) 48 48) ∧ w' = w.alloc (.cells rnames 9) := by
  go_enter Tryz.func81, Tryz.ntmps81
  go_wp2
  go_ret
  exact ⟨rfl, rfl⟩
theorem rnames_at (n : Nat) (h0 : 1 ≤ n) (hn : n < 49) (w : World) : (w.alloc (.cells rnames 9)).cell? ⟨w.heap.size, n - 1, none⟩ = some (.string (nameL.getD n ⟨#[]⟩)) := by
  rw [World.cell?_alloc_new]
  unfold rnames
  have hl : nameL.length = 49 := rfl
  obtain ⟨m, rfl⟩ : ∃ m, n = m + 1 := ⟨n - 1, by omega⟩
  simp [List.getD]
  rw [List.getElem?_eq_getElem (by omega)]
  rfl
end Go.Proofs.YtopankjjlapfbaaGreatDoor
namespace Go.Proofs.YtopankjjlapfbaaGreatDoor
open Go.RowKit
set_option linter.unusedVariables false
set_option maxRecDepth 100000

theorem str_of (s : ByteArray) : (⟨s.data.toList.toArray⟩ : ByteArray) = s := by apply ByteArray.ext; simp
theorem str_diff {s t : ByteArray} (h : s ≠ t) : (s.toList == t.toList) = false := by
  rw [beq_eq_false_iff_ne, Go.ByteArray.toList_eq, Go.ByteArray.toList_eq]
  intro e
  exact h (ByteArray.ext (Array.toList_inj.1 e))
theorem rnumber_any (s : ByteArray) (hs : s.size ≤ 65536) (w : World) :
    Calls Tryz.prog 49 #[.string s] w fun e w' => e = .returned (.tuple #[.int .i64 ((numO s).getD 0), .bool (numO s).isSome]) ∧ w' = w := by
  by_cases h0 : s.size = 0
  · have hl : s.data.toList = [] := List.length_eq_zero_iff.1 (by rw [Array.length_toList]; exact h0)
    have hn : numO s = none := by
      rw [← str_of s, hl]
      decide
    rw [hn]
    go_enter Tryz.func49, Tryz.ntmps49
    go_wp2_with fail
    go_ret2
    exact ⟨rfl, rfl⟩
  · have hp : 0 < s.size := by omega
    by_cases h45 : bsA s 0 = 45
    · obtain ⟨c, r, hcr⟩ : ∃ c r, s.data.toList = c :: r := by
        cases h : s.data.toList with
        | nil =>
          have : s.data.toList.length = s.size := by rw [Array.length_toList]; rfl
          rw [h] at this
          simp at this
          omega
        | cons c r => exact ⟨c, r, rfl⟩
      have hc : c = 45 := by
        have := byte_head s
        rw [h45, hcr] at this
        apply UInt8.toNat_inj.1
        have h2 : ((c.toNat : Nat) : Int) = 45 := this
        show c.toNat = 45
        omega
      subst hc
      have hn : numO s = rnumD true r := by
        rw [← num_neg, ← hcr, str_of]
      have hsz : s.size = r.length + 1 := by
        have : s.data.toList.length = s.size := by rw [Array.length_toList]; rfl
        rw [hcr] at this
        simpa using this.symm
      have hcut : s.extract 1 s.size = ⟨r.toArray⟩ := by
        rw [← str_of (s.extract 1 s.size), Lib.extract_to_end, hcr]
        rfl
      have := rnumber_neg s ⟨r.toArray⟩ hp h45 hcut (by show r.toArray.size + 1 = _; simp; omega) (str_diff (by
        intro e
        have := congrArg ByteArray.size e
        rw [hsz] at this
        have h3 : (⟨r.toArray⟩ : ByteArray).size = r.length := by show r.toArray.size = _; simp
        omega)) hs w
      rw [hn]
      exact this
    · have hn : numO s = rnumD false s.data.toList := by
        rw [← num_pos _ (by intro e; apply h45; rw [← byte_head s, e]; rfl), str_of]
      rw [hn]
      exact rnumber_pos s hp h45 hs w

theorem decFrom_ge (l : List UInt8) : ∀ acc n, Lib.decFrom acc l = some n → acc * 10 ^ l.length ≤ n := by
  induction l with
  | nil => intro acc n e; simp [Lib.decFrom] at e; subst e; simp
  | cons b r ih =>
    intro acc n e
    unfold Lib.decFrom at e
    cases hb : Lib.digitVal b with
    | none => rw [hb] at e; cases e
    | some d =>
      rw [hb] at e
      have := ih (acc * 10 + d) n e
      rw [List.length_cons, Nat.pow_succ, Nat.mul_comm (10 ^ r.length) 10, ← Nat.mul_assoc]
      have h2 : acc * 10 * 10 ^ r.length ≤ (acc * 10 + d) * 10 ^ r.length := Nat.mul_le_mul_right _ (by omega)
      omega
theorem digit_of {c : UInt8} {d : Nat} (h : Lib.digitVal c = some d) : c.toNat = 48 + d ∧ d < 10 := by
  unfold Lib.digitVal at h
  split at h
  · simp at h; omega
  · cases h
/-- small numbers have one row of digits each -/
theorem canon (l : List UInt8) (n : Nat) (hn : n ≤ 15) (hd : Lib.decFrom 0 l = some n) (hne : l ≠ []) (h0 : (l.headD 0).toNat = 48 → l.length = 1) : l = Lib.decDigits n := by
  rcases l with _ | ⟨c, _ | ⟨d, _ | ⟨e, r⟩⟩⟩
  · exact absurd rfl hne
  · unfold Lib.decFrom at hd
    cases hc : Lib.digitVal c with
    | none => rw [hc] at hd; cases hd
    | some k =>
      rw [hc] at hd
      simp [Lib.decFrom] at hd
      subst hd
      obtain ⟨h1, h2⟩ := digit_of hc
      have e : c = UInt8.ofNat (48 + k) := by apply UInt8.toNat_inj.1; rw [h1]; simp; omega
      rw [e]
      have hk : k = 0 ∨ k = 1 ∨ k = 2 ∨ k = 3 ∨ k = 4 ∨ k = 5 ∨ k = 6 ∨ k = 7 ∨ k = 8 ∨ k = 9 := by omega
      rcases hk with rfl | rfl | rfl | rfl | rfl | rfl | rfl | rfl | rfl | rfl <;> decide +kernel
  · unfold Lib.decFrom at hd
    cases hc : Lib.digitVal c with
    | none => rw [hc] at hd; cases hd
    | some k =>
      rw [hc] at hd
      simp only at hd
      unfold Lib.decFrom at hd
      cases hc2 : Lib.digitVal d with
      | none => rw [hc2] at hd; cases hd
      | some j =>
        rw [hc2] at hd
        simp [Lib.decFrom] at hd
        obtain ⟨h1, h2⟩ := digit_of hc
        obtain ⟨h3, h4⟩ := digit_of hc2
        have hk : k = 1 := by
          have hz : ¬ c.toNat = 48 := fun e => by have := h0 e; simp at this
          omega
        subst hk
        have e : c = UInt8.ofNat (48 + 1) := by apply UInt8.toNat_inj.1; rw [h1]; rfl
        have e2 : d = UInt8.ofNat (48 + j) := by apply UInt8.toNat_inj.1; rw [h3]; simp; omega
        rw [e, e2, ← hd]
        have hj : j = 0 ∨ j = 1 ∨ j = 2 ∨ j = 3 ∨ j = 4 ∨ j = 5 := by omega
        rcases hj with rfl | rfl | rfl | rfl | rfl | rfl <;> decide +kernel
  · exfalso
    unfold Lib.decFrom at hd
    cases hc : Lib.digitVal c with
    | none => rw [hc] at hd; cases hd
    | some k =>
      rw [hc] at hd
      obtain ⟨h1, h2⟩ := digit_of hc
      have hz : ¬ c.toNat = 48 := fun e => by have := h0 e; simp at this
      have := decFrom_ge (d :: e :: r) (0 * 10 + k) n hd
      rw [List.length_cons, List.length_cons, Nat.pow_succ, Nat.pow_succ] at this
      have hp : 1 ≤ 10 ^ r.length := Nat.pow_pos (by decide)
      have h5 : 1 * (10 ^ r.length * 10 * 10) ≤ (0 * 10 + k) * (10 ^ r.length * 10 * 10) := Nat.mul_le_mul_right _ (by omega)
      omega
def xS (v : Int) : ByteArray := ⟨#[120]⟩ ++ itoS v
theorem reg_canon (s : ByteArray) (v : Int) (h : regO s = some v) : 0 ≤ v ∧ v ≤ 15 ∧ s = xS v := by
  unfold regO at h
  by_cases hp : Lib.hasPrefix s.data.toList [120] = true
  · rw [if_pos hp] at h
    obtain ⟨r, hr⟩ : ∃ r, s.data.toList = 120 :: r := by
      cases hl : s.data.toList with
      | nil => rw [hl] at hp; cases hp
      | cons c r =>
        rw [hl] at hp
        have hc : (120 : UInt8) = c := by simpa [Lib.hasPrefix, List.isPrefixOf] using hp
        exact ⟨r, by rw [hc]⟩
    have ht : Lib.trimPrefix s.data.toList [120] = r := by
      rw [hr]; simp [Lib.trimPrefix, Lib.hasPrefix, List.isPrefixOf]
    rw [ht] at h
    cases hn : numO ⟨r.toArray⟩ with
    | none => rw [hn] at h; cases h
    | some u =>
      rw [hn] at h
      simp only at h
      by_cases hu : 0 ≤ u ∧ u ≤ 15
      · rw [if_pos hu] at h
        obtain rfl : u = v := Option.some.inj h
        refine ⟨hu.1, hu.2, ?_⟩
        have hdig : r = Lib.decDigits u.toNat := by
          by_cases h45 : (r.headD 0).toNat = 45
          · exfalso
            rcases r with _ | ⟨c, q⟩
            · revert h45; decide
            · have hc : c = 45 := by apply UInt8.toNat_inj.1; exact h45
              subst hc
              rw [num_neg] at hn
              unfold rnumD at hn
              split at hn
              · cases hn
              · rename_i hcond
                cases hd : Lib.decFrom 0 q with
                | none => rw [hd] at hn; cases hn
                | some m =>
                  rw [hd] at hn
                  simp at hn
                  have hm : m = 0 := by omega
                  subst hm
                  have hql : 1 ≤ q.length := by omega
                  rcases q with _ | ⟨c2, q2⟩
                  · simp at hql
                  · unfold Lib.decFrom at hd
                    cases hc2 : Lib.digitVal c2 with
                    | none => rw [hc2] at hd; cases hd
                    | some k =>
                      rw [hc2] at hd
                      obtain ⟨g1, g2⟩ := digit_of hc2
                      have hge := decFrom_ge q2 (0 * 10 + k) 0 hd
                      have hk0 : k = 0 := by
                        rcases Nat.eq_zero_or_pos k with h | h
                        · exact h
                        · have : 1 ≤ (0 * 10 + k) * 10 ^ q2.length := Nat.mul_pos (by omega) (Nat.pow_pos (by decide))
                          omega
                      apply hcond
                      refine .inr (.inr ⟨?_, .inr rfl⟩)
                      show c2.toNat = 48
                      omega
          · rw [num_pos r h45] at hn
            unfold rnumD at hn
            split at hn
            · cases hn
            · rename_i hcond
              cases hd : Lib.decFrom 0 r with
              | none => rw [hd] at hn; cases hn
              | some m =>
                rw [hd] at hn
                simp at hn
                have hm : m = u.toNat := by omega
                rw [← hm]
                refine canon r m (by omega) hd (fun e => hcond (.inl (by rw [e]; decide))) (fun e => ?_)
                rcases Nat.lt_or_ge 1 r.length with h1 | h1
                · exact absurd (.inr (.inr ⟨e, .inl h1⟩)) hcond
                · have : ¬ r.length < 1 := fun h => hcond (.inl h)
                  omega
        apply ByteArray.ext
        apply Array.toList_inj.1
        rw [hr]
        unfold xS itoS Lib.itoa
        rw [if_neg (by omega)]
        simp [hdig]
      · rw [if_neg hu] at h; cases h
  · rw [if_neg hp] at h; cases h
theorem dreg_any (s : ByteArray) (hs : s.size ≤ 65536) (w : World) :
    Calls Tryz.prog 80 #[.string s] w fun e w' => e = .returned (.int .i64 ((regO s).getD (-1))) ∧ Below w.heap.size w w' := by
  go_enter Tryz.func80, Tryz.ntmps80
  go_wp2_with fail
  go_loopw [3] (fun i wr => ∃ k : Nat, k ≤ 16 ∧ i = .int .i64 k ∧ (∀ j : Nat, j < k → s ≠ xS j) ∧ Below w.heap.size w wr) (fun i _ => 16 - (intOf i).toNat)
  case atStart => exact ⟨0, by omega, rfl, fun j hj => by omega, Below.refl _ _⟩
  case round =>
    obtain ⟨k, hk, rfl, hno, hb⟩ := hrel
    by_cases hlt : k < 16
    · have hsz := itoS_size (k : Int)
      have DC := decimal_any (k : Int) (by omega) (by omega) wr
      have HNO : Hid (_) := hno
      clear hno
      by_cases he : s = xS k
      · have HE : Hid ((regO s).getD (-1) = (k : Int)) := by
          show _ = _
          rw [he]
          unfold xS
          rw [regO_itoS _ (by omega) (by omega)]
          rfl
        unfold xS at he
        generalize itoS (k : Int) = T at *
        subst he
        go_wp2_with fail
        refine DC.mono ?_
        rintro e y ⟨rfl, hy⟩
        have hby := hb.trans (hy.mono hb.size)
        go_wp2_with fail
        go_ret
        exact ⟨by rw [HE.out]; rfl, hby⟩
      · have hd := str_diff he
        have HNO2 : Hid (∀ j : Nat, j < k + 1 → s ≠ xS j) := fun j hj => by
          rcases Nat.lt_or_ge j k with h | h
          · exact HNO.out j h
          · obtain rfl : j = k := by omega
            exact he
        unfold xS at hd
        clear he
        generalize itoS (k : Int) = T at *
        go_wp2_with fail
        refine DC.mono ?_
        rintro e y ⟨rfl, hy⟩
        have hby := hb.trans (hy.mono hb.size)
        go_wp2_with fail
        go_roundw
        case rel => exact ⟨k + 1, by omega, by go_num, HNO2.out, hby⟩
        case measure => simp [intOf]; omega
    · obtain rfl : k = 16 := by omega
      have HN : Hid ((regO s).getD (-1) = -1) := by
        show _ = _
        cases hr : regO s with
        | none => rfl
        | some v =>
          obtain ⟨h1, h2, h3⟩ := reg_canon s v hr
          exact absurd (by rw [h3]; congr 1; omega) (hno v.toNat (by omega))
      clear hno
      go_wp2_with fail
      go_ret
      exact ⟨by rw [HN.out]; rfl, hb⟩
end Go.Proofs.YtopankjjlapfbaaGreatDoor
namespace Go.Proofs.YtopankjjlapfbaaGreatDoor
open Go.RowKit
set_option linter.unusedVariables false
set_option maxRecDepth 100000

set_option maxHeartbeats 1600000 in
theorem dname_any (s : ByteArray) (hs : s.size ≤ 65536) (w : World) :
    Calls Tryz.prog 48 #[.string s] w fun e w' => e = .returned (.bool (nameB s)) ∧ Below w.heap.size w w' := by
  have CR := dreg_any s hs
  have hz := byte_at s
  have hd0 := byte_head s
  have hall : s.data.toList.all (fun c => chrB ((c.toNat : Nat) : Int)) = true ↔ ∀ k, k < s.size → chrB (bsA s k) = true := by
    rw [List.all_eq_true]
    have hl : s.data.toList.length = s.size := by rw [Array.length_toList]; rfl
    constructor
    · intro h k hk
      unfold bsA
      rw [List.getD_eq_getElem?_getD, List.getElem?_eq_getElem (by omega)]
      exact h _ (List.getElem_mem _)
    · intro h c hc
      obtain ⟨k, hk, rfl⟩ := List.getElem_of_mem hc
      have := h k (by omega)
      unfold bsA at this
      rw [List.getD_eq_getElem?_getD, List.getElem?_eq_getElem hk] at this
      exact this
  have HNF : Hid (s.data.toList.all (fun c => chrB ((c.toNat : Nat) : Int)) = false → nameB s = false) := by
    intro h
    unfold nameB
    rw [h]
    simp
  have HNT : Hid (s.data.toList.all (fun c => chrB ((c.toNat : Nat) : Int)) = true → nameB s = (!(s.size == 0) && decide (s.size ≤ 30) && !digB (bsA s 0) && (regO s).isNone)) := by
    intro h
    unfold nameB
    rw [h, hd0]
    simp
  have HZ : Hid (∀ k (h : k < s.size), ((s[k].toNat : Nat) : Int) = bsA s k) := hz
  clear hz hd0
  generalize hAll : s.data.toList.all (fun c => chrB ((c.toNat : Nat) : Int)) = al at *
  clear hAll
  go_enter Tryz.func48, Tryz.ntmps48
  go_wp2_with fail
  go_loop [3] (fun i => ∃ k : Nat, k ≤ s.size ∧ i = .int .i64 k ∧ ∀ j, j < k → chrB (bsA s j) = true) (fun i => s.size - (intOf i).toNat)
  case atStart => exact ⟨0, by omega, rfl, fun j hj => by omega⟩
  case round =>
    obtain ⟨k, hk, rfl, hall0⟩ := hrel
    by_cases hlt : k < s.size
    · have hzk := HZ.out k hlt
      have hbr := byte_range s k
      have HA0 : Hid (∀ j, j < k → chrB (bsA s j) = true) := hall0
      have HAL : Hid (al = true ↔ ∀ k, k < s.size → chrB (bsA s k) = true) := hall
      clear hall hall0 CR
      have hno : chrB (bsA s k) = false → al = false := fun h => by
        cases hq : al with
        | false => rfl
        | true => rw [HAL.out.1 hq k hlt] at h; cases h
      have HYES : Hid (chrB (bsA s k) = true → ∀ j, j < k + 1 → chrB (bsA s j) = true) := fun h j hj => by
        rcases Nat.lt_or_ge j k with h' | h'
        · exact HA0.out j h'
        · obtain rfl : j = k := by omega
          exact h
      generalize bsA s k = z at *
      have hcase : (97 ≤ z ∧ z ≤ 122) ∨ (48 ≤ z ∧ z ≤ 57) ∨ z = 95 ∨ z < 48 ∨ (57 < z ∧ z < 97 ∧ z ≠ 95) ∨ 122 < z := by omega
      rcases hcase with hc | hc | hc | hc | hc | hc
      · clear hno
        go_wp2_with fail
        go_round
        case rel => exact ⟨k + 1, by omega, by go_num, HYES.out (by unfold chrB digB; simp; omega)⟩
        case measure => simp [intOf]; omega
      · clear hno
        go_wp2_with fail
        go_round
        case rel => exact ⟨k + 1, by omega, by go_num, HYES.out (by unfold chrB digB; simp; omega)⟩
        case measure => simp [intOf]; omega
      · subst hc
        clear hno
        go_wp2_with fail
        go_round
        case rel => exact ⟨k + 1, by omega, by go_num, HYES.out (by decide)⟩
        case measure => simp [intOf]; omega
      · have hb95 : (z != 95) = true := by rw [bne_iff_ne]; omega
        have hal := hno (by unfold chrB digB; simp; omega)
        have HF : Hid (nameB s = false) := HNF.out hal
        clear hno hal
        go_wp2_with fail
        go_ret
        exact ⟨by rw [HF.out]; rfl, Below.refl _ _⟩
      · obtain ⟨hc1, hc2, hc3⟩ := hc
        have hb95 : (z != 95) = true := by rw [bne_iff_ne]; exact hc3
        have hb96 : (z == 95) = false := by rw [beq_eq_false_iff_ne]; exact hc3
        clear hc3
        have hc3 : z < 95 ∨ 95 < z := by have := bne_iff_ne.1 hb95; omega
        have hal := hno (by unfold chrB digB; simp; omega)
        have HF : Hid (nameB s = false) := HNF.out hal
        clear hno hal
        go_wp2_with fail
        go_ret
        exact ⟨by rw [HF.out]; rfl, Below.refl _ _⟩
      · have hb95 : (z != 95) = true := by rw [bne_iff_ne]; omega
        have hal := hno (by unfold chrB digB; simp; omega)
        have HF : Hid (nameB s = false) := HNF.out hal
        clear hno hal
        go_wp2_with fail
        go_ret
        exact ⟨by rw [HF.out]; rfl, Below.refl _ _⟩
    · obtain rfl : k = s.size := by omega
      have hal : al = true := hall.2 hall0
      have HT : Hid (_) := HNT.out hal
      clear hall hall0
      by_cases h0 : s.size = 0
      · have HV : Hid (nameB s = false) := by show _ = _; rw [HT.out]; simp [h0]
        go_wp2_with fail
        go_ret
        exact ⟨by rw [HV.out]; rfl, Below.refl _ _⟩
      · have hz0 := HZ.out 0 (by omega)
        by_cases h30 : 30 < s.size
        · have HV : Hid (nameB s = false) := by show _ = _; rw [HT.out]; simp [show ¬ s.size ≤ 30 by omega]
          go_wp2_with fail
          go_ret
          exact ⟨by rw [HV.out]; rfl, Below.refl _ _⟩
        · have hbr := byte_range s 0
          by_cases hdg : 48 ≤ bsA s 0 ∧ bsA s 0 ≤ 57
          · have HV : Hid (nameB s = false) := by show _ = _; rw [HT.out]; simp [digB, hdg.1, hdg.2]
            generalize bsA s 0 = z at *
            go_wp2_with fail
            go_ret
            exact ⟨by rw [HV.out]; rfl, Below.refl _ _⟩
          · have HV : Hid (nameB s = (regO s).isNone) := by
              show _ = _
              rw [HT.out]
              have e1 : (s.size == 0) = false := by rw [beq_eq_false_iff_ne]; exact h0
              have e2 : decide (s.size ≤ 30) = true := decide_eq_true (by omega)
              have e3 : digB (bsA s 0) = false := by
                unfold digB
                cases hq : decide (48 ≤ bsA s 0)
                · rfl
                · have := of_decide_eq_true hq
                  simp
                  omega
              rw [e1, e2, e3]
              rfl
            have HRG : Hid (decide ((regO s).getD (-1) < 0) = (regO s).isNone) := by
              show _ = _
              cases hr : regO s with
              | none => rfl
              | some v =>
                have := reg_canon s v hr
                simp
                omega
            generalize bsA s 0 = z at *
            rcases (show z < 48 ∨ 57 < z by omega) with hlo | hhi
            all_goals
              go_wp2_with fail
              refine (CR _).mono ?_
              rintro e y ⟨rfl, hy⟩
              generalize (regO s).getD (-1) = rg at *
              go_wp2_with fail
              go_ret
              exact ⟨by rw [HV.out, ← HRG.out]; rfl, hy⟩

theorem opM_none (s : ByteArray) : ∀ n, (∀ j, j < n → s ≠ nameL.getD (j + 1) ⟨#[]⟩) → opM n s = none
  | 0, _ => rfl
  | n + 1, h => by
    unfold opM
    rw [if_neg (h n (by omega))]
    exact opM_none s n (fun j hj => h j (by omega))
theorem opM_all : ∀ n : Fin 48, opM 48 (nameL.getD (n.val + 1) ⟨#[]⟩) = some ((n.val + 1 : Nat) : Int) := by decide +kernel
theorem dop_any (s : ByteArray) (w : World) :
    Calls Tryz.prog 50 #[.string s] w fun e w' => e = .returned (.int .i64 ((opM 48 s).getD 0)) ∧ Below w.heap.size w w' := by
  go_enter Tryz.func50, Tryz.ntmps50
  go_wp2_with fail
  refine (names_ref _).mono ?_
  rintro e y ⟨rfl, rfl⟩
  have HB : Hid (Below w.heap.size w (w.alloc (.cells rnames 9))) := (Below.refl _ _).alloc (Nat.le_refl _) _
  have hat := fun (n : Nat) (h1 : 1 ≤ n) (h2 : n < 49) => rnames_at n h1 h2 w
  have HAT : Hid (_) := hat
  clear hat
  have hlt0 : w.heap.size < (w.alloc (.cells rnames 9)).heap.size := by simp
  generalize w.alloc (.cells rnames 9) = W at *
  go_wp2_with fail
  go_loop [4] (fun i => ∃ k : Nat, k ≤ 48 ∧ i = .int .i64 k ∧ ∀ j, j < k → s ≠ nameL.getD (j + 1) ⟨#[]⟩) (fun i => 48 - (intOf i).toNat)
  case atStart => exact ⟨0, by omega, rfl, fun j hj => by omega⟩
  case round =>
    obtain ⟨k, hk, rfl, hno⟩ := hrel
    by_cases hlt : k < 48
    · have hck := HAT.out (k + 1) (by omega) (by omega)
      rw [Nat.add_sub_cancel] at hck
      have HNO : Hid (_) := hno
      clear hno
      by_cases he : s = nameL.getD (k + 1) ⟨#[]⟩
      · have HE : Hid ((opM 48 s).getD 0 = (k : Int) + 1) := by
          show _ = _
          rw [he, opM_all ⟨k, hlt⟩]
          rfl
        rw [← he] at hck
        clear he HNO
        go_wp2_with fail
        go_ret
        exact ⟨by rw [HE.out]; rfl, HB.out⟩
      · have hd := str_diff (fun e => he e.symm)
        have HNO2 : Hid (∀ j, j < k + 1 → s ≠ nameL.getD (j + 1) ⟨#[]⟩) := fun j hj => by
          rcases Nat.lt_or_ge j k with h | h
          · exact HNO.out j h
          · obtain rfl : j = k := by omega
            exact he
        clear he HNO
        generalize nameL.getD (k + 1) ⟨#[]⟩ = T at *
        go_wp2_with fail
        go_round
        case rel => exact ⟨k + 1, by omega, by go_num, HNO2.out⟩
        case measure => simp [intOf]; omega
    · obtain rfl : k = 48 := by omega
      have HN : Hid (opM 48 s = none) := opM_none s 48 hno
      clear hno
      go_wp2_with fail
      go_ret
      exact ⟨by rw [HN.out]; rfl, HB.out⟩
end Go.Proofs.YtopankjjlapfbaaGreatDoor
