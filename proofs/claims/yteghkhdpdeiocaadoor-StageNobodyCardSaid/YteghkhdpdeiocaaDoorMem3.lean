/-
  What Equal, Same, Clone, place and number do: their contracts.
-/
import Derived.Test.YteghkhdpdeiocaaDoorMem2
namespace Go.Proofs.YteghkhdpdeiocaaDoor
open Go.RowKit
set_option linter.unusedVariables false
set_option maxRecDepth 100000

theorem str_inj {xs ys : List Int} (hx : Bytes xs) (hy : Bytes ys) (h : strOfNums xs = strOfNums ys) : xs = ys := by
  have hl : xs.length = ys.length := by rw [← strOfNums_size xs, ← strOfNums_size ys, h]
  apply List.ext_getElem hl
  intro i h1 h2
  have hd : (strOfNums xs).data = (strOfNums ys).data := by rw [h]
  have e : (strOfNums xs).data[i]? = (strOfNums ys).data[i]? := by rw [hd]
  simp [strOfNums, List.getElem?_eq_getElem h1, List.getElem?_eq_getElem h2] at e
  have a := hx i
  have b := hy i
  simp [List.getD, List.getElem?_eq_getElem h1] at a
  simp [List.getD, List.getElem?_eq_getElem h2] at b
  generalize xs[i] = x at *
  generalize ys[i] = y at *
  have e2 := congrArg UInt8.toNat e
  simp at e2
  omega
theorem str_eq (xs ys : List Int) (hx : Bytes xs) (hy : Bytes ys) : ((strOfNums xs).toList == (strOfNums ys).toList) = decide (xs = ys) := by
  by_cases h : xs = ys
  · subst h; simp
  · have : ¬ (strOfNums xs).toList = (strOfNums ys).toList := by
      intro e
      rw [ByteArray.toList_eq, ByteArray.toList_eq] at e
      exact h (str_inj hx hy (ByteArray.ext (Array.toList_inj.1 e)))
    simp [h, this]

theorem SL.nil (w : World) (a : Option Addr) : SL w a 0 [] := ⟨rfl, by intro i; simp, .inl rfl⟩

theorem place_nobody (p : Value) (t n : Int) (w : World) (h : HV w p (.slice none 0 0)) :
    Calls Tryd.prog 97 #[p, .int .u64 t, .int .i64 n] w fun e w' => e = .returned (.tuple #[.slice none 0 0, .int .i64 1]) ∧ w' = w := by
  go_enter Tryd.func97, Tryd.ntmps97
  go_wp2_with fail
  refine (made_any _ _ _ _ _ h).mono ?_
  rintro e w1 ⟨rfl, rfl⟩
  go_wp2_with fail
  go_ret2
  exact ⟨rfl, rfl⟩
theorem place_neg (b g : Nat) (zs : List Int) (t n : Int) (w : World) (h : MM w b g zs) (hn : n < 0) :
    Calls Tryd.prog 97 #[.pointer (some ⟨b, 0, none⟩), .int .u64 t, .int .i64 n] w fun e w' => e = .returned (.tuple #[.slice none 0 0, .int .i64 2]) ∧ w' = w := by
  have hd : decide (0 < zs.length) = true := decide_eq_true h.pos
  go_enter Tryd.func97, Tryd.ntmps97
  go_wp2_with fail
  refine (made_any _ _ _ _ _ h.hv).mono ?_
  rintro e w1 ⟨rfl, rfl⟩
  rw [hd]
  go_wp2_with fail
  go_ret2
  exact ⟨rfl, rfl⟩
theorem bounds_any (b g : Nat) (zs : List Int) (w : World) (h : MM w b g zs) :
    Calls Tryd.prog 108 #[.pointer (some ⟨b, 0, none⟩)] w fun e w' => e = .returned (.func (.func 112) #[] #[.pointer (some ⟨w.heap.size, 0, none⟩)]) ∧ w' = w.alloc (.cells #[.int .u64 zs.length] 75) := by
  have hmf : ∀ (fn : Fn) (first cap : Array Value) (w : World), (Instr.makeFunc fn first cap).run Tryd.prog w = .ok (.func fn first cap) w := fun _ _ _ _ => rfl
  have hc := h.cell0
  have hl := h.len
  have hlt := h.blt
  go_enter Tryd.func108, Tryd.ntmps108
  go_wp2
  go_ret
  exact ⟨rfl, rfl⟩
theorem within_fn (q : Nat) (t n s : Int) (w : World) (h0 : 0 ≤ t) (h1 : 0 ≤ n) (hs : 0 ≤ s) (hs' : s < 18446744073709551616) (hc : w.cell? ⟨q, 0, none⟩ = some (.int .u64 s)) :
    Calls Tryd.prog 112 #[.int .u64 t, .int .u64 n, .pointer (some ⟨q, 0, none⟩)] w fun e w' => e = .returned (.bool (decide (t + n ≤ s))) ∧ w' = w := by
  by_cases h : n ≤ s
  · go_enter Tryd.func112, Tryd.ntmps112
    go_wp2
    go_ret
    exact ⟨ret_bool (by simp; omega), rfl⟩
  · have h' : s < n := by omega
    go_enter Tryd.func112, Tryd.ntmps112
    go_wp2
    go_ret
    exact ⟨ret_bool (by simp; omega), rfl⟩

theorem to_u64 (n : Int) (h0 : 0 ≤ n) (h1 : n < 9223372036854775808) : IntKind.u64.wrap n = n := by rw [IntKind.wrap_u64]; omega
theorem place_out (b g : Nat) (zs : List Int) (t n : Int) (w : World) (h : MM w b g zs) (ht : 0 ≤ t) (ht' : t < 18446744073709551616) (hn : 0 ≤ n) (hn' : n < 9223372036854775808) (ho : ¬ t + n ≤ zs.length) :
    Calls Tryd.prog 97 #[.pointer (some ⟨b, 0, none⟩), .int .u64 t, .int .i64 n] w fun e w' => e = .returned (.tuple #[.slice none 0 0, .int .i64 12]) ∧ Below w.heap.size w w' := by
  have hd : decide (0 < zs.length) = true := decide_eq_true h.pos
  have hl := h.len
  have hd2 : decide (t + n ≤ (zs.length : Int)) = false := decide_eq_false ho
  go_enter Tryd.func97, Tryd.ntmps97
  go_wp2_with fail
  refine (made_any _ _ _ _ _ h.hv).mono ?_
  rintro e w1 ⟨rfl, rfl⟩
  rw [hd]
  go_wp2_with fail
  refine (bounds_any b g zs _ h).mono ?_
  rintro e w2 ⟨rfl, rfl⟩
  go_wp2_with fail
  refine (within_fn _ t n zs.length _ ht hn (by omega) (by omega) (by simp)).mono ?_
  rintro e w3 ⟨rfl, rfl⟩
  rw [hd2]
  go_wp2_with fail
  go_ret2
  exact ⟨rfl, (Below.refl _ _).alloc (Nat.le_refl _) _⟩
def PlaceIs (g T N : Nat) (e : Ending) : Prop := ∃ o, (N = 0 ∨ o = T) ∧ e = .returned (.tuple #[.slice (some ⟨g, o, none⟩) N N, .int .i64 0])
theorem place_in (b g : Nat) (zs : List Int) (T N : Nat) (w : World) (h : MM w b g zs) (ho : T + N ≤ zs.length) :
    Calls Tryd.prog 97 #[.pointer (some ⟨b, 0, none⟩), .int .u64 T, .int .i64 N] w fun e w' => PlaceIs g T N e ∧ Below w.heap.size w w' := by
  have hd : decide (0 < zs.length) = true := decide_eq_true h.pos
  have hl := h.len
  have hd2 : decide ((T : Int) + N ≤ (zs.length : Int)) = true := decide_eq_true (by omega)
  have hc := h.cell0
  have hlt := h.blt
  go_enter Tryd.func97, Tryd.ntmps97
  go_wp2_with fail
  refine (made_any _ _ _ _ _ h.hv).mono ?_
  rintro e w1 ⟨rfl, rfl⟩
  rw [hd]
  go_wp2_with fail
  refine (bounds_any b g zs _ h).mono ?_
  rintro e w2 ⟨rfl, rfl⟩
  go_wp2_with fail
  refine (within_fn _ T N zs.length _ (by omega) (by omega) (by omega) (by omega) (by simp)).mono ?_
  rintro e w3 ⟨rfl, rfl⟩
  rw [hd2]
  clear hd hd2
  go_wp2_with fail
  · go_ret2
    exact ⟨⟨0, .inl (by omega), by simp; omega⟩, (Below.refl _ _).alloc (Nat.le_refl _) _⟩
  · go_ret2
    exact ⟨⟨T, .inr rfl, rfl⟩, (Below.refl _ _).alloc (Nat.le_refl _) _⟩
end Go.Proofs.YteghkhdpdeiocaaDoor
