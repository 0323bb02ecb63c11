/-
  The document's Show: names, orders.
-/
import Derived.Test.YtopankjjlapfbaaDoorShowC
import Derived.Test.YtopankjjlapfbaaDoorWalks17
namespace Go.Proofs.YtopankjjlapfbaaDoor
open Go.RowKit
set_option linter.unusedVariables false

def chr (p : Int) : UInt8 := if p = 0 then 100 else if p = 1 then 97 else if p = 2 then 98 else if p = 3 then 105 else 109
def ordS (op : Int) : ByteArray := ⟨((plcL op).map chr).toArray⟩

theorem order_of (op : Int) (sh : Int) (l : List Int) (C1 : ∀ w, Calls Tryd.prog 21 #[.int .i64 op] w fun e w' => e = .returned (.int .i64 sh) ∧ w' = w)
    (h : sh = 1 ∧ op = 37 ∧ l = [0, 1] ∨ sh = 5 ∧ op = 22 ∧ l = [0, 3] ∨ sh = 1 ∧ op ≠ 37 ∧ l = [0, 1, 2] ∨ sh = 3 ∧ l = [2, 3, 1] ∨ sh = 4 ∧ l = [1, 2, 4] ∨ sh = 5 ∧ op = 35 ∧ l = [0, 4] ∨ sh = 6 ∧ l = [1] ∨ sh = 0 ∧ l = [] ∨ sh = -1 ∧ l = []) (w : World) :
    Calls Tryd.prog 15 #[.int .i64 op] w fun e w' => e = .returned (.string ⟨(l.map chr).toArray⟩) ∧ w' = w := by
  rcases h with ⟨rfl, rfl, rfl⟩ | ⟨rfl, rfl, rfl⟩ | ⟨rfl, h1, rfl⟩ | ⟨rfl, rfl⟩ | ⟨rfl, rfl⟩ | ⟨rfl, rfl, rfl⟩ | ⟨rfl, rfl⟩ | ⟨rfl, rfl⟩ | ⟨rfl, rfl⟩
  all_goals
    go_enter Tryd.func15, Tryd.ntmps15
    go_wp2_with fail
    refine (C1 _).mono ?_
    rintro e w1 ⟨rfl, rfl⟩
    go_wp2_with fail
    go_ret
    exact ⟨rfl, rfl⟩
theorem order_two (op : Int) (l : List Int) (C1 : ∀ w, Calls Tryd.prog 21 #[.int .i64 op] w fun e w' => e = .returned (.int .i64 2) ∧ w' = w)
    (h : (23 ≤ op ∧ op ≤ 25 ∨ op = 36 ∨ 46 ≤ op) ∧ l = [0, 3, 1] ∨ (14 ≤ op ∧ op ≤ 21) ∧ l = [0, 1, 3]) (w : World) :
    Calls Tryd.prog 15 #[.int .i64 op] w fun e w' => e = .returned (.string ⟨(l.map chr).toArray⟩) ∧ w' = w := by
  rcases h with ⟨h1 | rfl | h1, rfl⟩ | ⟨h1, rfl⟩
  all_goals
    go_enter Tryd.func15, Tryd.ntmps15
    go_wp2_with fail
    refine (C1 _).mono ?_
    rintro e w1 ⟨rfl, rfl⟩
    go_wp2_with fail
    all_goals
      go_ret
      first
        | exact ⟨rfl, rfl⟩
        | (exfalso; simp at *; omega)

set_option maxHeartbeats 1600000 in
theorem order_any (op : Int) (w : World) :
    Calls Tryd.prog 15 #[.int .i64 op] w fun e w' => e = .returned (.string (ordS op)) ∧ w' = w := by
  have C1 := rshape_any op
  have hc := shape_cases op
  have key : ∀ l, plcL op = l → (∀ w, Calls Tryd.prog 15 #[.int .i64 op] w fun e w' => e = .returned (.string ⟨(l.map chr).toArray⟩) ∧ w' = w) → Calls Tryd.prog 15 #[.int .i64 op] w fun e w' => e = .returned (.string (ordS op)) ∧ w' = w := by
    intro l hl h
    unfold ordS
    rw [hl]
    exact h w
  by_cases h2 : shapeR op = 2
  · rw [h2] at C1
    by_cases h3 : 14 ≤ op ∧ op ≤ 21
    · exact key [0, 1, 3] (by unfold plcL; rw [if_neg (by omega), if_neg (by omega), if_neg (by omega), if_neg (by omega), if_pos h2]) (order_two op _ C1 (Or.inr ⟨h3, rfl⟩))
    · exact key [0, 3, 1] (by unfold plcL; rw [if_neg (by omega), if_pos (by omega)]) (order_two op _ C1 (Or.inl ⟨by omega, rfl⟩))
  · have n23 : ¬ (op = 23 ∨ op = 24 ∨ op = 25 ∨ op = 36 ∨ op = 46 ∨ op = 47 ∨ op = 48) := by omega
    by_cases h37 : op = 37
    · exact key [0, 1] (by unfold plcL; rw [if_pos h37]) (order_of op _ _ C1 (Or.inl ⟨by omega, h37, rfl⟩))
    · by_cases h22 : op = 22
      · exact key [0, 3] (by unfold plcL; rw [if_neg h37, if_neg n23, if_pos h22]) (order_of op _ _ C1 (Or.inr (Or.inl ⟨by omega, h22, rfl⟩)))
      · by_cases s1 : shapeR op = 1
        · exact key [0, 1, 2] (by unfold plcL; rw [if_neg h37, if_neg n23, if_neg h22, if_pos s1]) (order_of op _ _ C1 (Or.inr (Or.inr (Or.inl ⟨s1, h37, rfl⟩))))
        · by_cases s3 : shapeR op = 3
          · exact key [2, 3, 1] (by unfold plcL; rw [if_neg h37, if_neg n23, if_neg h22, if_neg s1, if_neg h2, if_pos s3]) (order_of op _ _ C1 (Or.inr (Or.inr (Or.inr (Or.inl ⟨s3, rfl⟩)))))
          · by_cases s4 : shapeR op = 4
            · exact key [1, 2, 4] (by unfold plcL; rw [if_neg h37, if_neg n23, if_neg h22, if_neg s1, if_neg h2, if_neg s3, if_pos s4]) (order_of op _ _ C1 (Or.inr (Or.inr (Or.inr (Or.inr (Or.inl ⟨s4, rfl⟩))))))
            · by_cases s5 : shapeR op = 5
              · exact key [0, 4] (by unfold plcL; rw [if_neg h37, if_neg n23, if_neg h22, if_neg s1, if_neg h2, if_neg s3, if_neg s4, if_pos s5]) (order_of op _ _ C1 (Or.inr (Or.inr (Or.inr (Or.inr (Or.inr (Or.inl ⟨s5, by omega, rfl⟩)))))))
              · by_cases s6 : shapeR op = 6
                · exact key [1] (by unfold plcL; rw [if_neg h37, if_neg n23, if_neg h22, if_neg s1, if_neg h2, if_neg s3, if_neg s4, if_neg s5, if_pos s6]) (order_of op _ _ C1 (Or.inr (Or.inr (Or.inr (Or.inr (Or.inr (Or.inr (Or.inl ⟨s6, rfl⟩))))))))
                · have hz : shapeR op = 0 ∧ ([] : List Int) = [] ∨ shapeR op = -1 ∧ ([] : List Int) = [] := by
                    rcases (show shapeR op = 0 ∨ shapeR op = -1 by omega) with h | h
                    · exact Or.inl ⟨h, rfl⟩
                    · exact Or.inr ⟨h, rfl⟩
                  exact key [] (by unfold plcL; rw [if_neg h37, if_neg n23, if_neg h22, if_neg s1, if_neg h2, if_neg s3, if_neg s4, if_neg s5, if_neg s6]) (order_of op _ _ C1 (Or.inr (Or.inr (Or.inr (Or.inr (Or.inr (Or.inr (Or.inr (hz)))))))))

def rnames : Array Value := ((nameL.drop 1).map Value.string).toArray
theorem names_ref (w : World) :
    Calls Tryd.prog 14 #[] w fun e w' => e = .returned (.slice (some ⟨w.heap.size, 0, none⟩) 48 48) ∧ w' = w.alloc (.cells rnames 9) := by
  go_enter Tryd.func14, Tryd.ntmps14
  go_wp2
  go_ret
  exact ⟨rfl, rfl⟩
theorem rnames_at (n : Nat) (h0 : 1 ≤ n) (hn : n < 49) (w : World) : (w.alloc (.cells rnames 9)).cell? ⟨w.heap.size, n - 1, none⟩ = some (.string (nameL.getD n ⟨#[]⟩)) := by
  rw [World.cell?_alloc_new]
  unfold rnames
  have hl : nameL.length = 49 := rfl
  obtain ⟨m, rfl⟩ : ∃ m, n = m + 1 := ⟨n - 1, by omega⟩
  simp [List.getD]
  rw [List.getElem?_eq_getElem (by omega)]
  rfl
end Go.Proofs.YtopankjjlapfbaaDoor
