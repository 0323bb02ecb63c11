/-
  The document's cache in the heap: what its New, at and Get tell.
-/
import Derived.Test.YtgafdbamlmaifaaBase
import Derived.Maps.AppendAt
import Derived.Deep.RegionLaw
namespace Go.Proofs.Ytgafdbamlmaifaa.R
open Go.RowKit
set_option linter.unusedVariables false
set_option maxRecDepth 20000

/-- an item -/
structure It where
  g : Int
  k : Int
  x : Int
def i0 : It := ⟨0, 0, 0⟩
def ic (i : It) : List Value := [.int .i64 i.g, .int .u64 i.k, .int .i64 i.x]
/-- block g: from place o on there is room for c items; the first n are F -/
def Row (w : World) (g o c n : Nat) (F : Nat → It) : Prop :=
  ∃ cur : Array Value, w.heap[g]? = some (.cells cur 74 (0, 0)) ∧ cur.size = (o + c) * 3 ∧ n ≤ c ∧ c ≤ maxLen ∧ ∀ i, i < n → cur[(o + i) * 3]? = some (.int .i64 (F i).g) ∧ cur[(o + i) * 3 + 1]? = some (.int .u64 (F i).k) ∧ cur[(o + i) * 3 + 2]? = some (.int .i64 (F i).x)
def Its (B : Nat) (w : World) (v : Value) (is : List It) : Prop :=
  (v = .slice none 0 0 ∧ is = []) ∨ ∃ g o c, v = .slice (some ⟨g, o * 3, none⟩) is.length c ∧ B ≤ g ∧ Row w g o c is.length (fun i => is.getD i i0)
theorem Row.lt {w : World} {g o c n : Nat} {F : Nat → It} (h : Row w g o c n F) : g < w.heap.size := by
  obtain ⟨cur, h, _⟩ := h
  exact lt_of_heap h
theorem Row.keep {w w' : World} {g o c n : Nat} {F : Nat → It} (h : Row w g o c n F) (hk : w'.heap[g]? = w.heap[g]?) : Row w' g o c n F := by
  obtain ⟨cur, h, r⟩ := h
  exact ⟨cur, hk.trans h, r⟩
theorem Row.cap {w : World} {g o c n : Nat} {F : Nat → It} (h : Row w g o c n F) : n ≤ c ∧ c ≤ maxLen := by
  obtain ⟨cur, h, h1, h2, h3, h4⟩ := h
  exact ⟨h2, h3⟩
theorem Row.c {w : World} {g o c n : Nat} {F : Nat → It} (h : Row w g o c n F) (i : Nat) (hi : i < n) :
    w.cell? ⟨g, o * 3 + i * 3, none⟩ = some (.int .i64 (F i).g) ∧ w.cell? ⟨g, o * 3 + i * 3 + 1, none⟩ = some (.int .u64 (F i).k) ∧ w.cell? ⟨g, o * 3 + i * 3 + 2, none⟩ = some (.int .i64 (F i).x) := by
  obtain ⟨cur, h, h1, h2, h3, h4⟩ := h
  have q := h4 i hi
  rw [Nat.add_mul] at q
  simp [World.cell?, h, q]
theorem Row.fz {w : World} {g o c n : Nat} {F : Nat → It} (h : Row w g o c n F) (i : Nat) : w.frozen? ⟨g, i, none⟩ = false := by
  obtain ⟨cur, h, h1, h2, h3, h4⟩ := h
  simp [World.frozen?, h]
theorem Its.keep {B : Nat} {w w' : World} {v : Value} {is : List It} (h : Its B w v is) (hk : ∀ k, v.ownBlock = some k → w'.heap[k]? = w.heap[k]?) : Its B w' v is := by
  rcases h with h | ⟨g, o, c, rfl, hB, hr⟩
  · exact .inl h
  · exact .inr ⟨g, o, c, rfl, hB, hr.keep (hk g rfl)⟩
theorem Its.lt {B : Nat} {w : World} {v : Value} {is : List It} (h : Its B w v is) (k : Nat) (hk : v.ownBlock = some k) : B ≤ k ∧ k < w.heap.size := by
  rcases h with ⟨rfl, _⟩ | ⟨g, o, c, rfl, hB, hr⟩
  · cases hk
  · cases hk
    exact ⟨hB, hr.lt⟩

/-- the document's cache: its block r, its items v -/
structure RC (B : Nat) (w : World) (r room : Nat) (v : Value) (is : List It) : Prop where
  ob : w.heap[r]? = some (.cells #[.int .i64 room, v] 43 (0, 0))
  its : Its B w v is
  rB : B ≤ r
  gr : v.ownBlock ≠ some r
  room1 : 1 ≤ room
  room2 : room ≤ 1024
  len : is.length ≤ room
theorem RC.lt {B : Nat} {w : World} {r room : Nat} {v : Value} {is : List It} (h : RC B w r room v is) : r < w.heap.size := lt_of_heap h.ob
theorem RC.keep {B : Nat} {w w' : World} {r room : Nat} {v : Value} {is : List It} (h : RC B w r room v is) (hr : w'.heap[r]? = w.heap[r]?) (hg : ∀ k, v.ownBlock = some k → w'.heap[k]? = w.heap[k]?) : RC B w' r room v is :=
  ⟨hr.trans h.ob, h.its.keep hg, h.rB, h.gr, h.room1, h.room2, h.len⟩
theorem RC.below {B : Nat} {w w' : World} {r room : Nat} {v : Value} {is : List It} (h : RC B w r room v is) (hk : Below w.heap.size w w') : RC B w' r room v is :=
  h.keep (hk.block r h.lt) (fun k hv => hk.block k (h.its.lt k hv).2)
theorem RC.c0 {B : Nat} {w : World} {r room : Nat} {v : Value} {is : List It} (h : RC B w r room v is) : w.cell? ⟨r, 0, none⟩ = some (.int .i64 room) := by simp [World.cell?, h.ob]
theorem RC.c1 {B : Nat} {w : World} {r room : Nat} {v : Value} {is : List It} (h : RC B w r room v is) : w.cell? ⟨r, 1, none⟩ = some v := by simp [World.cell?, h.ob]
theorem RC.f {B : Nat} {w : World} {r room : Nat} {v : Value} {is : List It} (h : RC B w r room v is) (o : Nat) : w.frozen? ⟨r, o, none⟩ = false := by simp [World.frozen?, h.ob]
theorem its_form {B : Nat} {w : World} {v : Value} {is : List It} (h : Its B w v is) : ∃ a n c, v = .slice a n c ∧ n = is.length := by
  rcases h with ⟨rfl, rfl⟩ | ⟨g, o, c, rfl, _⟩
  · exact ⟨_, _, _, rfl, rfl⟩
  · exact ⟨_, _, _, rfl, rfl⟩

theorem heap_alloc_at (w : World) (o : Obj) : (w.alloc o).heap[w.heap.size]? = some o := by show (w.heap.push o)[w.heap.size]? = _; simp
theorem heap_alloc_past (w : World) (o : Obj) {k : Nat} (h : k < w.heap.size) : (w.alloc o).heap[k]? = w.heap[k]? := by show (w.heap.push o)[k]? = _; simp [Array.getElem?_push, Nat.ne_of_lt h]
theorem new_yes (room : Nat) (h1 : 1 ≤ room) (h2 : room ≤ 1024) (w : World) :
    Calls Try.prog 8 #[.int .i64 room] w fun e w' => e = .returned (.tuple #[.pointer (some ⟨w.heap.size, 0, none⟩), .int .i64 0]) ∧ RC w.heap.size w' w.heap.size room (.slice none 0 0) [] ∧ Below w.heap.size w w' := by
  have k1 : ¬ ((room : Int) < 1) := by omega
  have k2 : ¬ ((1024 : Int) < (room : Int)) := by omega
  have HF : Hid (RC w.heap.size (w.alloc (.cells #[.int .i64 room, .slice none 0 0] 43)) w.heap.size room (.slice none 0 0) [] ∧ Below w.heap.size w (w.alloc (.cells #[.int .i64 room, .slice none 0 0] 43))) :=
    ⟨⟨heap_alloc_at w _, .inl ⟨rfl, rfl⟩, Nat.le_refl _, (fun e => by cases e), h1, h2, by simp⟩, (Below.refl _ _).alloc (Nat.le_refl _) _⟩
  go_enter Try.func8, Try.ntmps8
  go_wp2
  go_ret2
  exact ⟨rfl, HF.out⟩
theorem new_no (room : Int) (h : room < 1 ∨ 1024 < room) (w : World) :
    Calls Try.prog 8 #[.int .i64 room] w fun e w' => e = .returned (.tuple #[.pointer none, .int .i64 2]) ∧ w' = w := by
  rcases h with h | h
  · go_enter Try.func8, Try.ntmps8
    go_wp2
    go_ret2
    exact ⟨rfl, rfl⟩
  · have h' : ¬ room < 1 := by omega
    go_enter Try.func8, Try.ntmps8
    go_wp2
    go_ret2
    exact ⟨rfl, rfl⟩

set_option maxHeartbeats 800000 in
theorem at_any (B r room : Nat) (v : Value) (is : List It) (g k : Int) (w : World) (h : RC B w r room v is) :
    Calls Try.prog 32 #[.pointer (some ⟨r, 0, none⟩), .int .i64 g, .int .u64 k] w fun e w' => w' = w ∧
      ((e = .returned (.int .i64 (-1)) ∧ ∀ j, j < is.length → ¬ ((is.getD j i0).g = g ∧ (is.getD j i0).k = k)) ∨ ∃ i, i < is.length ∧ e = .returned (.int .i64 i) ∧ ((is.getD i i0).g = g ∧ (is.getD i i0).k = k) ∧ ∀ j, j < i → ¬ ((is.getD j i0).g = g ∧ (is.getD j i0).k = k)) := by
  have c1 := h.c1
  have hrl := h.lt
  have hlen := h.len
  have hr2 := h.room2
  obtain ⟨a, n, c, rfl, hnl⟩ := its_form h.its
  have hn : n ≤ 1024 := by omega
  have HR : Hid (∀ j, j < n → ∃ gg o, a = some ⟨gg, o * 3, none⟩ ∧ gg < w.heap.size ∧ Row w gg o c n (fun i => is.getD i i0)) := fun j hj => by
    rcases h.its with ⟨e, e2⟩ | ⟨gg, o, c', e, _, hrow⟩
    · rw [e2] at hnl; simp at hnl; omega
    · cases e
      exact ⟨gg, o, rfl, hrow.lt, hrow⟩
  clear h
  rw [← hnl]
  go_enter Try.func32, Try.ntmps32
  go_wp2_with fail
  go_loopw [7] (fun q wr => wr = w ∧ ∃ j : Nat, j ≤ n ∧ q = .int .i64 j ∧ Hid (∀ i, i < j → ¬ ((is.getD i i0).g = g ∧ (is.getD i i0).k = k))) (fun q _ => n - (intOf q).toNat)
  case atStart => exact ⟨rfl, 0, by omega, rfl, fun i hi => absurd hi (by omega)⟩
  case round =>
    obtain ⟨rfl, j, hj, rfl, HJ⟩ := hrel
    by_cases hjn : j < n
    · have hjn' : (j : Int) < (n : Int) := by omega
      obtain ⟨gg, o, rfl, hgl, hrow⟩ := HR.out j hjn
      obtain ⟨d0, d1, d2⟩ := hrow.c j hjn
      clear hrow
      have HS : Hid (∀ {x}, ¬ ((is.getD j i0).g = g ∧ (is.getD j i0).k = k) → x < j + 1 → ¬ ((is.getD x i0).g = g ∧ (is.getD x i0).k = k)) := fun {x} hno hx => by
        rcases Nat.lt_succ_iff_lt_or_eq.1 hx with h' | rfl
        · exact HJ.out x h'
        · exact hno
      obtain ⟨y, hy⟩ : ∃ y, Hid (y = is.getD j i0) := ⟨_, rfl⟩
      rw [← hy.out] at d0 d1 HS
      by_cases hg : y.g = g
      · by_cases hk : y.k = k
        · go_wp2_with fail
          go_ret
          exact ⟨rfl, .inr ⟨j, hjn, rfl, by rw [← hy.out]; exact ⟨hg, hk⟩, HJ.out⟩⟩
        · go_wp2_with fail
          go_roundw
          case rel => exact ⟨by trivial, j + 1, by omega, by go_num, fun x hx => HS.out (fun h => hk h.2) hx⟩
          case measure => simp [intOf]; omega
      · go_wp2_with fail
        go_roundw
        case rel => exact ⟨by trivial, j + 1, by omega, by go_num, fun x hx => HS.out (fun h => hg h.1) hx⟩
        case measure => simp [intOf]; omega
    · obtain rfl : j = n := by omega
      go_wp2_with fail
      go_ret
      exact ⟨rfl, .inl ⟨rfl, HJ.out⟩⟩
end Go.Proofs.Ytgafdbamlmaifaa.R
