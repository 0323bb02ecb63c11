/-
  A virtual processor in the heap: isMade, in, check, turn; Name, State, File; Block, Wake, Stop.
-/
import Derived.Test.YtjkaeclemflifaaMe
namespace Go.Proofs.Ytjkaeclemflifaa
open Go.RowKit
set_option linter.unusedVariables false
set_option maxRecDepth 100000
/-- its cells -/
def vcA (g : Int) (F : Nat) (ix st co : Int) (N : Nat → Int) : Array Value := #[.int .i64 g, .pointer (some ⟨F, 0, none⟩), .int .i64 ix, .int .i64 st, .int .i64 co, .int .u64 (N 0), .int .u64 (N 1), .int .u64 (N 2), .int .u64 (N 3), .int .u64 (N 4), .int .u64 (N 5), .int .u64 (N 6), .int .u64 (N 7), .int .u64 (N 8), .int .u64 (N 9), .int .u64 (N 10), .int .u64 (N 11), .int .u64 (N 12), .int .u64 (N 13), .int .u64 (N 14), .int .u64 (N 15), .int .u64 (N 16), .int .u64 (N 17)]
/-- it in the heap -/
def VS (w : World) (V : Nat) (g : Int) (F : Nat) (ix st co : Int) (N : Nat → Int) : Prop := w.heap[V]? = some (.cells (vcA g F ix st co N) 60 (0, 0))
/-- none: nil, or one that no call made -/
def UN (w : World) (v : Value) : Prop := v = .pointer none ∨ ∃ b, v = .pointer (some ⟨b, 0, none⟩) ∧ b < w.heap.size ∧ w.cell? ⟨b, 1, none⟩ = some (.pointer none)
theorem UN.below {w w' : World} {v : Value} (h : UN w v) (hb : Below w.heap.size w w') : UN w' v := by
  obtain rfl | ⟨b, rfl, h1, h2⟩ := h
  · exact .inl rfl
  · exact .inr ⟨b, rfl, Nat.lt_of_lt_of_le h1 hb.size, (World.cell?_of_block (hb.block b h1)).trans h2⟩
section
variable {w w' : World} {V F : Nat} {g ix st co : Int} {N : Nat → Int}
theorem VS.c0 (h : VS w V g F ix st co N) : w.cell? ⟨V, 0, none⟩ = some (.int .i64 g) := (cell_at h 0).trans rfl
theorem VS.c1 (h : VS w V g F ix st co N) : w.cell? ⟨V, 1, none⟩ = some (.pointer (some ⟨F, 0, none⟩)) := (cell_at h 1).trans rfl
theorem VS.c2 (h : VS w V g F ix st co N) : w.cell? ⟨V, 2, none⟩ = some (.int .i64 ix) := (cell_at h 2).trans rfl
theorem VS.c3 (h : VS w V g F ix st co N) : w.cell? ⟨V, 3, none⟩ = some (.int .i64 st) := (cell_at h 3).trans rfl
theorem VS.c4 (h : VS w V g F ix st co N) : w.cell? ⟨V, 4, none⟩ = some (.int .i64 co) := (cell_at h 4).trans rfl
theorem VS.lt (h : VS w V g F ix st co N) : V < w.heap.size := lt_of_heap h
theorem VS.keep (h : VS w V g F ix st co N) (hk : w'.heap[V]? = w.heap[V]?) : VS w' V g F ix st co N := hk.trans h
theorem VS.below (h : VS w V g F ix st co N) (hb : Below w.heap.size w w') : VS w' V g F ix st co N := h.keep (hb.block _ h.lt)
theorem VS.setS (h : VS w V g F ix st co N) (s : Int) : VS (w.setCell ⟨V, 3, none⟩ (.int .i64 s)) V g F ix s co N ∧ Trn (fun k => k = V) w (w.setCell ⟨V, 3, none⟩ (.int .i64 s)) := ⟨(heap_setCell h 3 _).trans rfl, trn_set1 h 3 _⟩
theorem VS.setC (h : VS w V g F ix st co N) (s : Int) : VS (w.setCell ⟨V, 4, none⟩ (.int .i64 s)) V g F ix st s N ∧ Trn (fun k => k = V) w (w.setCell ⟨V, 4, none⟩ (.int .i64 s)) := ⟨(heap_setCell h 4 _).trans rfl, trn_set1 h 4 _⟩
theorem isMade_v (h : VS w V g F ix st co N) : Calls Try.prog 35 #[.pointer (some ⟨V, 0, none⟩)] w fun e w' => e = .returned (.bool true) ∧ w' = w := by
  have c1 := h.c1
  have hl := h.lt
  clear h
  go_enter Try.func35, Try.ntmps35
  go_wp2_with fail
  go_ret
  exact ⟨rfl, rfl⟩
theorem isMade_un {v : Value} (h : UN w v) : Calls Try.prog 35 #[v] w fun e w' => e = .returned (.bool false) ∧ w' = w := by
  obtain rfl | ⟨b, rfl, h1, h2⟩ := h
  · go_enter Try.func35, Try.ntmps35
    go_wp2_with fail
    go_ret
    exact ⟨rfl, rfl⟩
  · go_enter Try.func35, Try.ntmps35
    go_wp2_with fail
    go_ret
    exact ⟨rfl, rfl⟩
/-- the first place of a number, -1: none -/
def ixP (v : Int) : List Int → Int
  | [] => -1
  | z :: zs => if v = z then 0 else (let r := ixP v zs; if r < 0 then -1 else r + 1)
theorem index3 (b : Nat) (a0 a1 a2 v : Int) (n : Nat) (hn : n ≤ 3) (w : World) (h0 : 0 < n → w.cell? ⟨b, 0, none⟩ = some (.int .i64 a0)) (h1 : 1 < n → w.cell? ⟨b, 1, none⟩ = some (.int .i64 a1)) (h2 : 2 < n → w.cell? ⟨b, 2, none⟩ = some (.int .i64 a2)) (hl : b < w.heap.size) :
    Calls Try.prog 49 #[.slice (some ⟨b, 0, none⟩) n n, .int .i64 v] w fun e w' => e = .returned (.bool (decide ((0 < n ∧ v = a0) ∨ (1 < n ∧ v = a1) ∨ (2 < n ∧ v = a2)))) ∧ w' = w := by
  obtain ⟨B, hB⟩ : ∃ B, decide ((0 < n ∧ v = a0) ∨ (1 < n ∧ v = a1) ∨ (2 < n ∧ v = a2)) = B := ⟨_, rfl⟩
  rw [hB]
  have HB : Hid (_) := hB
  clear hB
  have C1 : Calls Try.prog 53 #[.slice (some ⟨b, 0, none⟩) n n, .int .i64 v] w fun e w' => ∃ r : Int, e = .returned (.int .i64 r) ∧ Hid (decide (0 ≤ r) = B) ∧ w' = w := by
    go_enter Try.func53, Try.ntmps53
    go_wp2_with fail
    go_loopw [8] (fun q wr => ∃ j : Nat, j ≤ n ∧ q = .int .i64 j ∧ wr = w ∧ (0 < j → v ≠ a0) ∧ (1 < j → v ≠ a1) ∧ (2 < j → v ≠ a2)) (fun q _ => n - (intOf q).toNat)
    case atStart => exact ⟨0, by omega, rfl, rfl, by omega, by omega, by omega⟩
    case round =>
      obtain ⟨j, hj, rfl, rfl, n0, n1, n2⟩ := hrel
      by_cases hjn : j < n
      · have hjn' : (j : Int) < n := by omega
        obtain ⟨z, hz, hz0, hz1, hz2⟩ : ∃ z, wr.cell? ⟨b, j, none⟩ = some (.int .i64 z) ∧ (j = 0 → z = a0) ∧ (j = 1 → z = a1) ∧ (j = 2 → z = a2) := by
          obtain rfl | rfl | rfl : j = 0 ∨ j = 1 ∨ j = 2 := by omega
          · exact ⟨a0, h0 hjn, by omega, by omega, by omega⟩
          · exact ⟨a1, h1 hjn, by omega, by omega, by omega⟩
          · exact ⟨a2, h2 hjn, by omega, by omega, by omega⟩
        clear h0 h1 h2
        by_cases e : v = z
        · go_wp2_with fail
          go_ret
          refine ⟨j, rfl, ?_, rfl⟩
          have l : decide ((0 : Int) ≤ j) = true := by simp
          show decide ((0 : Int) ≤ j) = B
          rw [l, ← HB.out]
          symm
          rw [decide_eq_true_eq]
          obtain rfl | rfl | rfl : j = 0 ∨ j = 1 ∨ j = 2 := by omega
          · exact .inl ⟨hjn, by rw [e, hz0 rfl]⟩
          · exact .inr (.inl ⟨hjn, by rw [e, hz1 rfl]⟩)
          · exact .inr (.inr ⟨hjn, by rw [e, hz2 rfl]⟩)
        · go_wp2_with fail
          go_roundw
          case rel =>
            refine ⟨j + 1, by omega, by go_num, by first | rfl | trivial, fun h => ?_, fun h => ?_, fun h => ?_⟩
            · by_cases e0 : j = 0
              · rw [← hz0 e0]; exact e
              · exact n0 (by omega)
            · by_cases e0 : j = 1
              · rw [← hz1 e0]; exact e
              · exact n1 (by omega)
            · by_cases e0 : j = 2
              · rw [← hz2 e0]; exact e
              · exact n2 (by omega)
          case measure => simp [intOf]; omega
      · obtain rfl : j = n := by omega
        clear h0 h1 h2
        go_wp2_with fail
        go_ret
        refine ⟨_, rfl, ?_, rfl⟩
        have l : decide ((0 : Int) ≤ -1) = false := by decide
        show decide ((0 : Int) ≤ -1) = B
        rw [l, ← HB.out]
        symm
        rw [decide_eq_false_iff_not]
        rintro (⟨h, e⟩ | ⟨h, e⟩ | ⟨h, e⟩)
        · exact n0 h e
        · exact n1 h e
        · exact n2 h e
  clear h0 h1 h2
  go_enter Try.func49, Try.ntmps49
  go_wp2_with fail
  refine C1.mono ?_
  rintro e w ⟨r, rfl, hr, rfl⟩
  go_wp2_with fail
  go_ret
  exact ⟨ret_bool hr.out, rfl⟩
/-- some states, as they are handed -/
structure ST (w : World) (b n : Nat) (a0 a1 a2 : Int) : Prop where
  n3 : n ≤ 3
  h0 : 0 < n → w.cell? ⟨b, 0, none⟩ = some (.int .i64 a0)
  h1 : 1 < n → w.cell? ⟨b, 1, none⟩ = some (.int .i64 a1)
  h2 : 2 < n → w.cell? ⟨b, 2, none⟩ = some (.int .i64 a2)
  hl : b < w.heap.size
/-- one of them -/
def isS (n : Nat) (a0 a1 a2 v : Int) : Bool := decide ((0 < n ∧ v = a0) ∨ (1 < n ∧ v = a1) ∨ (2 < n ∧ v = a2))
/-- what hinders -/
def inE (b : Bool) : Int := if b then 0 else 21
theorem in_v (h : VS w V g F ix st co N) {b n : Nat} {a0 a1 a2 : Int} (hs : ST w b n a0 a1 a2) : Calls Try.prog 39 #[.pointer (some ⟨V, 0, none⟩), .slice (some ⟨b, 0, none⟩) n n] w fun e w' => e = .returned (.int .i64 (inE (isS n a0 a1 a2 st))) ∧ w' = w := by
  have C1 := isMade_v h
  have C2 := index3 b a0 a1 a2 st n hs.n3 w hs.h0 hs.h1 hs.h2 hs.hl
  have c3 := h.c3
  have hl := h.lt
  clear h hs
  change Calls Try.prog 49 _ w fun e w' => e = .returned (.bool (isS n a0 a1 a2 st)) ∧ w' = w at C2
  unfold inE
  generalize isS n a0 a1 a2 st = z at *
  cases z
  · go_enter Try.func39, Try.ntmps39
    go_wp2_with fail
    refine C1.mono ?_
    rintro e w ⟨rfl, rfl⟩
    go_wp2_with fail
    refine C2.mono ?_
    rintro e w ⟨rfl, rfl⟩
    go_wp2_with fail
    go_ret
    exact ⟨rfl, rfl⟩
  · go_enter Try.func39, Try.ntmps39
    go_wp2_with fail
    refine C1.mono ?_
    rintro e w ⟨rfl, rfl⟩
    go_wp2_with fail
    refine C2.mono ?_
    rintro e w ⟨rfl, rfl⟩
    go_wp2_with fail
    go_ret
    exact ⟨rfl, rfl⟩
theorem in_un {v : Value} (h : UN w v) (s : Value) : Calls Try.prog 39 #[v, s] w fun e w' => e = .returned (.int .i64 1) ∧ w' = w := by
  have C1 := isMade_un h
  clear h
  go_enter Try.func39, Try.ntmps39
  go_wp2_with fail
  refine C1.mono ?_
  rintro e w ⟨rfl, rfl⟩
  go_wp2_with fail
  go_ret
  exact ⟨rfl, rfl⟩
section
variable {M mb cr n f : Nat} {o : Nat → Nat} {x : Nat → Value}
theorem check_v (hm : MS w M mb cr n f o x) (h : VS w V g F ix st co N) {b k : Nat} {a0 a1 a2 : Int} (hs : ST w b k a0 a1 a2) : Calls Try.prog 32 #[.pointer (some ⟨V, 0, none⟩), .pointer (some ⟨M, 0, none⟩), .slice (some ⟨b, 0, none⟩) k k] w fun e w' => e = .returned (.int .i64 (inE (isS k a0 a1 a2 st))) ∧ w' = w := by
  have C1 := cores_m hm
  have C2 := in_v h hs
  have hp : ¬ (n : Int) = 0 := by have := hm.pos; omega
  clear h hs hm
  go_enter Try.func32, Try.ntmps32
  go_wp2_with fail
  refine C1.mono ?_
  rintro e w ⟨rfl, rfl⟩
  go_wp2_with fail
  refine C2.mono ?_
  rintro e w ⟨rfl, rfl⟩
  go_wp2_with fail
  go_ret
  exact ⟨rfl, rfl⟩
theorem check_un (hm : MS w M mb cr n f o x) {v : Value} (h : UN w v) (s : Value) : Calls Try.prog 32 #[v, .pointer (some ⟨M, 0, none⟩), s] w fun e w' => e = .returned (.int .i64 1) ∧ w' = w := by
  have C1 := cores_m hm
  have C2 := in_un h s
  have hp : ¬ (n : Int) = 0 := by have := hm.pos; omega
  clear h hm
  go_enter Try.func32, Try.ntmps32
  go_wp2_with fail
  refine C1.mono ?_
  rintro e w ⟨rfl, rfl⟩
  go_wp2_with fail
  refine C2.mono ?_
  rintro e w ⟨rfl, rfl⟩
  go_wp2_with fail
  go_ret
  exact ⟨rfl, rfl⟩
end
theorem check_nil (w : World) (v s : Value) : Calls Try.prog 32 #[v, .pointer none, s] w fun e w' => e = .returned (.int .i64 1) ∧ w' = w := by
  have C1 := cores_nil w
  go_enter Try.func32, Try.ntmps32
  go_wp2_with fail
  refine C1.mono ?_
  rintro e w ⟨rfl, rfl⟩
  go_wp2_with fail
  go_ret
  exact ⟨rfl, rfl⟩
theorem turn_v (h : VS w V g F ix st co N) (to : Int) {b n : Nat} {a0 a1 a2 : Int} (hs : ST w b n a0 a1 a2) : Calls Try.prog 31 #[.pointer (some ⟨V, 0, none⟩), .int .i64 to, .slice (some ⟨b, 0, none⟩) n n] w fun e w' => e = .returned (.int .i64 (inE (isS n a0 a1 a2 st))) ∧ VS w' V g F ix (if isS n a0 a1 a2 st then to else st) co N ∧ Trn (fun k => k = V) w w' := by
  have C1 := in_v h hs
  have c3 := h.c3
  have hl := h.lt
  have f3 := fz_at h 3
  have HF : Hid (_) := h.setS to
  have H0 : Hid (_) := h
  clear h hs
  unfold inE at *
  generalize isS n a0 a1 a2 st = z at *
  cases z
  · go_enter Try.func31, Try.ntmps31
    go_wp2_with fail
    refine C1.mono ?_
    rintro e w ⟨rfl, rfl⟩
    go_wp2_with fail
    go_ret
    exact ⟨rfl, H0.out, .refl _ _⟩
  · go_enter Try.func31, Try.ntmps31
    go_wp2_with fail
    refine C1.mono ?_
    rintro e w ⟨rfl, rfl⟩
    go_wp2_with fail
    go_ret
    exact ⟨rfl, HF.out⟩
theorem turn_un {v : Value} (h : UN w v) (to s : Value) : Calls Try.prog 31 #[v, to, s] w fun e w' => e = .returned (.int .i64 1) ∧ w' = w := by
  have C1 := in_un h s
  clear h
  go_enter Try.func31, Try.ntmps31
  go_wp2_with fail
  refine C1.mono ?_
  rintro e w ⟨rfl, rfl⟩
  go_wp2_with fail
  go_ret
  exact ⟨rfl, rfl⟩
theorem st1 (w : World) (a : Int) : ST (w.alloc (.cells #[.int .i64 a] 3)) w.heap.size 1 a 0 0 :=
  ⟨by omega, fun _ => (cell_at (heap_alloc_at w _) 0).trans rfl, fun h => by omega, fun h => by omega, by simp⟩
theorem st2 (w : World) (a b : Int) : ST (w.alloc (.cells #[.int .i64 a, .int .i64 b] 3)) w.heap.size 2 a b 0 :=
  ⟨by omega, fun _ => (cell_at (heap_alloc_at w _) 0).trans rfl, fun h => (cell_at (heap_alloc_at w _) 1).trans rfl, fun h => by omega, by simp⟩
theorem st3 (w : World) (a b c : Int) : ST (w.alloc (.cells #[.int .i64 a, .int .i64 b, .int .i64 c] 3)) w.heap.size 3 a b c :=
  ⟨by omega, fun _ => (cell_at (heap_alloc_at w _) 0).trans rfl, fun h => (cell_at (heap_alloc_at w _) 1).trans rfl, fun h => (cell_at (heap_alloc_at w _) 2).trans rfl, by simp⟩
theorem block_v (h : VS w V g F ix st co N) : Calls Try.prog 12 #[.pointer (some ⟨V, 0, none⟩)] w fun e w' => e = .returned (.int .i64 (inE (isS 1 1 0 0 st))) ∧ VS w' V g F ix (if isS 1 1 0 0 st then 3 else st) co N ∧ Trn (fun k => k = V) w w' := by
  have bx := below_box w (.cells #[.int .i64 1] 3)
  have C1 := turn_v (h.below bx) 3 (st1 w 1)
  have HB : Hid (_) := bx
  clear h bx
  generalize inE (isS 1 1 0 0 st) = ee at *
  generalize (if isS 1 1 0 0 st = true then (3 : Int) else st) = s1 at *
  go_enter Try.func12, Try.ntmps12
  go_wp2_with fail
  refine C1.mono ?_
  rintro e y ⟨rfl, hv, ht⟩
  have HF : Hid (VS y V g F ix s1 co N ∧ Trn (fun k => k = V) w y) := ⟨hv, (Trn.of_below HB.out).trans ht⟩
  clear hv ht
  go_wp2_with fail
  go_ret
  exact ⟨rfl, HF.out⟩
theorem wake_v (h : VS w V g F ix st co N) : Calls Try.prog 14 #[.pointer (some ⟨V, 0, none⟩)] w fun e w' => e = .returned (.int .i64 (inE (isS 1 3 0 0 st))) ∧ VS w' V g F ix (if isS 1 3 0 0 st then 1 else st) co N ∧ Trn (fun k => k = V) w w' := by
  have bx := below_box w (.cells #[.int .i64 3] 3)
  have C1 := turn_v (h.below bx) 1 (st1 w 3)
  have HB : Hid (_) := bx
  clear h bx
  generalize inE (isS 1 3 0 0 st) = ee at *
  generalize (if isS 1 3 0 0 st = true then (1 : Int) else st) = s1 at *
  go_enter Try.func14, Try.ntmps14
  go_wp2_with fail
  refine C1.mono ?_
  rintro e y ⟨rfl, hv, ht⟩
  have HF : Hid (VS y V g F ix s1 co N ∧ Trn (fun k => k = V) w y) := ⟨hv, (Trn.of_below HB.out).trans ht⟩
  clear hv ht
  go_wp2_with fail
  go_ret
  exact ⟨rfl, HF.out⟩
theorem stop_v (h : VS w V g F ix st co N) : Calls Try.prog 15 #[.pointer (some ⟨V, 0, none⟩)] w fun e w' => e = .returned (.int .i64 (inE (isS 2 1 3 0 st))) ∧ VS w' V g F ix (if isS 2 1 3 0 st then 4 else st) co N ∧ Trn (fun k => k = V) w w' := by
  have bx := below_box w (.cells #[.int .i64 1, .int .i64 3] 3)
  have C1 := turn_v (h.below bx) 4 (st2 w 1 3)
  have HB : Hid (_) := bx
  clear h bx
  generalize inE (isS 2 1 3 0 st) = ee at *
  generalize (if isS 2 1 3 0 st = true then (4 : Int) else st) = s1 at *
  go_enter Try.func15, Try.ntmps15
  go_wp2_with fail
  refine C1.mono ?_
  rintro e y ⟨rfl, hv, ht⟩
  have HF : Hid (VS y V g F ix s1 co N ∧ Trn (fun k => k = V) w y) := ⟨hv, (Trn.of_below HB.out).trans ht⟩
  clear hv ht
  go_wp2_with fail
  go_ret
  exact ⟨rfl, HF.out⟩
theorem block_un {v : Value} (h : UN w v) : Calls Try.prog 12 #[v] w fun e w' => e = .returned (.int .i64 1) ∧ Below w.heap.size w w' := by
  have bx := below_box w (.cells #[.int .i64 1] 3)
  have C1 := turn_un (h.below bx) (.int .i64 3) (.slice (some ⟨w.heap.size, 0, none⟩) 1 1)
  clear h
  go_enter Try.func12, Try.ntmps12
  go_wp2_with fail
  refine C1.mono ?_
  rintro e y ⟨rfl, rfl⟩
  go_wp2_with fail
  go_ret
  exact ⟨rfl, bx⟩
theorem wake_un {v : Value} (h : UN w v) : Calls Try.prog 14 #[v] w fun e w' => e = .returned (.int .i64 1) ∧ Below w.heap.size w w' := by
  have bx := below_box w (.cells #[.int .i64 3] 3)
  have C1 := turn_un (h.below bx) (.int .i64 1) (.slice (some ⟨w.heap.size, 0, none⟩) 1 1)
  clear h
  go_enter Try.func14, Try.ntmps14
  go_wp2_with fail
  refine C1.mono ?_
  rintro e y ⟨rfl, rfl⟩
  go_wp2_with fail
  go_ret
  exact ⟨rfl, bx⟩
theorem stop_un {v : Value} (h : UN w v) : Calls Try.prog 15 #[v] w fun e w' => e = .returned (.int .i64 1) ∧ Below w.heap.size w w' := by
  have bx := below_box w (.cells #[.int .i64 1, .int .i64 3] 3)
  have C1 := turn_un (h.below bx) (.int .i64 4) (.slice (some ⟨w.heap.size, 0, none⟩) 2 2)
  clear h
  go_enter Try.func15, Try.ntmps15
  go_wp2_with fail
  refine C1.mono ?_
  rintro e y ⟨rfl, rfl⟩
  go_wp2_with fail
  go_ret
  exact ⟨rfl, bx⟩
theorem below_drew' (w : World) : Below w.heap.size w w.drew := (Below.refl _ _).drew
theorem state_v (h : VS w V g F ix st co N) : Calls Try.prog 19 #[.pointer (some ⟨V, 0, none⟩)] w fun e w' => e = .returned (.tuple #[.int .i64 st, .int .i64 co]) ∧ Below w.heap.size w w' := by
  have C1 := isMade_v h
  have c3 := h.c3
  have c4 := h.c4
  have hl := h.lt
  clear h
  go_enter Try.func19, Try.ntmps19
  go_wp2_with fail
  refine C1.mono ?_
  rintro e w ⟨rfl, rfl⟩
  go_wp2_with fail
  go_quiet (fail)
  go_wp2_with fail
  go_ret2
  exact ⟨rfl, below_drewN (Below.refl _ _) _⟩
theorem state_un {v : Value} (h : UN w v) : Calls Try.prog 19 #[v] w fun e w' => e = .returned (.tuple #[.int .i64 0, .int .i64 (-1)]) ∧ w' = w := by
  have C1 := isMade_un h
  clear h
  go_enter Try.func19, Try.ntmps19
  go_wp2_with fail
  refine C1.mono ?_
  rintro e w ⟨rfl, rfl⟩
  go_wp2_with fail
  go_ret2
  exact ⟨rfl, rfl⟩
theorem name_v (h : VS w V g F ix st co N) : Calls Try.prog 20 #[.pointer (some ⟨V, 0, none⟩)] w fun e w' => e = .returned (.tuple #[.int .i64 g, .int .i64 ix]) ∧ Below w.heap.size w w' := by
  have C1 := isMade_v h
  have c3 := h.c0
  have c4 := h.c2
  have hl := h.lt
  clear h
  go_enter Try.func20, Try.ntmps20
  go_wp2_with fail
  refine C1.mono ?_
  rintro e w ⟨rfl, rfl⟩
  go_wp2_with fail
  go_quiet (fail)
  go_wp2_with fail
  go_ret2
  exact ⟨rfl, below_drewN (Below.refl _ _) _⟩
theorem name_un {v : Value} (h : UN w v) : Calls Try.prog 20 #[v] w fun e w' => e = .returned (.tuple #[.int .i64 0, .int .i64 0]) ∧ w' = w := by
  have C1 := isMade_un h
  clear h
  go_enter Try.func20, Try.ntmps20
  go_wp2_with fail
  refine C1.mono ?_
  rintro e w ⟨rfl, rfl⟩
  go_wp2_with fail
  go_ret2
  exact ⟨rfl, rfl⟩
theorem file_v (h : VS w V g F ix st co N) : Calls Try.prog 23 #[.pointer (some ⟨V, 0, none⟩)] w fun e w' => e = .returned (.pointer (some ⟨F, 0, none⟩)) ∧ w' = w := by
  have C1 := isMade_v h
  have c1 := h.c1
  have hl := h.lt
  clear h
  go_enter Try.func23, Try.ntmps23
  go_wp2_with fail
  refine C1.mono ?_
  rintro e w ⟨rfl, rfl⟩
  go_wp2_with fail
  go_ret
  exact ⟨rfl, rfl⟩
theorem file_un {v : Value} (h : UN w v) : Calls Try.prog 23 #[v] w fun e w' => e = .returned (.pointer none) ∧ w' = w := by
  have C1 := isMade_un h
  clear h
  go_enter Try.func23, Try.ntmps23
  go_wp2_with fail
  refine C1.mono ?_
  rintro e w ⟨rfl, rfl⟩
  go_wp2_with fail
  go_ret
  exact ⟨rfl, rfl⟩
end
end Go.Proofs.Ytjkaeclemflifaa
