/-
  What New, Put, Get, Drop, DropGroup and Len of a cache do: their contracts.
-/
import Derived.Test.YtgafdbamlmaifaaSl
import Derived.Test.YtgafdbamlmaifaaSi
namespace Go.Proofs.Ytgafdbamlmaifaa.S
open Go.RowKit Go.Maps
set_option linter.unusedVariables false
set_option maxRecDepth 20000

theorem new_yes (room : Nat) (h1 : 1 ≤ room) (h2 : room ≤ 1024) (w : World) :
    Calls Try.prog 19 #[.int .i64 room] w fun e w' => ∃ b, e = .returned (.tuple #[.pointer (some ⟨b, 0, none⟩), .int .i64 0]) ∧ (∃ m, CC w.heap.size w' b room m (.slice none 0 0) [] (fun _ => none)) ∧ Below w.heap.size w w' := by
  have k1 : ¬ ((room : Int) < 1) := by omega
  have k2 : ¬ ((1024 : Int) < (room : Int)) := by omega
  have hmm := @run_makeMap Try.prog
  have HF : Hid (CC w.heap.size ((w.alloc (.map #[] 0)).alloc (.cells #[.int .i64 room, .map (some w.heap.size), .slice none 0 0] 80)) (w.heap.size + 1) room w.heap.size (.slice none 0 0) [] (fun _ => none) ∧
      Below w.heap.size w ((w.alloc (.map #[] 0)).alloc (.cells #[.int .i64 room, .map (some w.heap.size), .slice none 0 0] 80))) := by
    refine ⟨⟨?_, ?_, .inl ⟨rfl, rfl⟩, by omega, Nat.le_refl _, by omega, (fun e => by cases e), (fun e => by cases e), (fun p hp => by cases hp), List.nodup_nil, (fun p _ => by simp), h1, h2, by simp⟩, ((Below.refl _ _).alloc (Nat.le_refl _) _).alloc (by simp) _⟩
    · have := heap_alloc_at (w.alloc (.map #[] 0)) (.cells #[.int .i64 room, .map (some w.heap.size), .slice none 0 0] 80)
      simpa [Ob] using this
    · exact (MapIs.new w).keep (heap_alloc_past (w.alloc _) _ (k := w.heap.size) (by simp))
  go_enter Try.func19, Try.ntmps19
  go_wp2
  go_ret2
  exact ⟨_, rfl, ⟨_, HF.out.1⟩, HF.out.2⟩
theorem new_no (room : Int) (h : room < 1 ∨ 1024 < room) (w : World) :
    Calls Try.prog 19 #[.int .i64 room] w fun e w' => e = .returned (.tuple #[.pointer none, .int .i64 2]) ∧ w' = w := by
  rcases h with h | h
  · go_enter Try.func19, Try.ntmps19
    go_wp2
    go_ret2
    exact ⟨rfl, rfl⟩
  · have h' : ¬ room < 1 := by omega
    go_enter Try.func19, Try.ntmps19
    go_wp2
    go_ret2
    exact ⟨rfl, rfl⟩

theorem below_two {w w2 : World} (h : Below w.heap.size w w2) (hs : w.heap.size < w2.heap.size) (x y : Value) (o : Obj) : Below w.heap.size w (((w2.setCell ⟨w.heap.size, 0, none⟩ x).setCell ⟨w.heap.size, 1, none⟩ y).alloc o) :=
  ((h.setCell (Nat.le_refl _) _).setCell (Nat.le_refl _) _).alloc (by simp; omega) _
theorem get_any (B b room m : Nat) (v : Value) (os : List Pl) (M : Pl → Option Value) (p : Pl) (hp : p.W) (x1 x2 : Int) (hx : (M p).getD zv = pair x1 x2) (w : World) (h : CC B w b room m v os M) :
    Calls Try.prog 22 #[.pointer (some ⟨b, 0, none⟩), .int .i64 p.g, kv p.k] w fun e w' => e = .returned (.tuple #[pair x1 x2, .bool (M p).isSome]) ∧ Below w.heap.size w w' := by
  have hb0 : Below w.heap.size w (w.alloc (.cells #[.int .i64 0, .int .i64 0] 54)) := (Below.refl _ _).alloc (Nat.le_refl _) _
  have h1 := h.below hb0
  have C0 := made_ob b room m v _ h1.ob
  have C1 := find_any b room m os.length v M p hp x1 x2 hx _ h1.ob h1.mp
  rw [hx] at C1
  unfold pv at *
  unfold kv pair at *
  generalize (M p).isSome = z at *
  have HB : Hid (Below w.heap.size w (w.alloc (.cells #[.int .i64 0, .int .i64 0] 54))) := hb0
  clear h h1 hb0 hx
  go_enter Try.func22, Try.ntmps22
  go_wp2_with fail
  refine C0.mono ?_
  rintro e w1 ⟨rfl, rfl⟩
  go_wp2_with fail
  refine C1.mono ?_
  rintro e w2 ⟨rfl, hb2⟩
  have a0 : w2.heap[w.heap.size]? = some (.cells #[.int .i64 0, .int .i64 0] 54 (0, 0)) := (hb2.block w.heap.size (by simp)).trans (heap_alloc_at w _)
  have k0 : w2.cell? ⟨w.heap.size, 0, none⟩ = some (.int .i64 0) := by rw [cell_at a0]; rfl
  have k1 : w2.cell? ⟨w.heap.size, 1, none⟩ = some (.int .i64 0) := by rw [cell_at a0]; rfl
  have kf : ∀ o, w2.frozen? ⟨w.heap.size, o, none⟩ = false := fun o => by simp [World.frozen?, a0]
  have hs : w.heap.size < w2.heap.size := lt_of_heap a0
  have hb3 : Below w.heap.size w w2 := HB.out.trans (hb2.mono HB.out.size)
  have HB3 : Hid (Below w.heap.size w w2) := hb3
  clear C0 C1 hb2 hb3 HB a0
  go_wp2_with fail
  refine bodyPost_ret (v := .tuple #[.agg #[.int .i64 x1, .int .i64 x2], .bool z]) ?h1 rfl ⟨rfl, below_two HB3.out hs _ _ _⟩
  case h1 => simp [results, Try.results22, go_sem, k0, k1, hs]
theorem len_any (B b room m : Nat) (v : Value) (os : List Pl) (M : Pl → Option Value) (w : World) (h : CC B w b room m v os M) :
    Calls Try.prog 21 #[.pointer (some ⟨b, 0, none⟩)] w fun e w' => e = .returned (.int .i64 os.length) ∧ w' = w := by
  have C0 := made_ob b room m v w h.ob
  have c2 := h.ob.c2
  have hbl := h.ob.lt
  obtain ⟨a, n, c, rfl, hnl⟩ : ∃ a n c, v = .slice a n c ∧ n = os.length := by
    rcases h.ord with ⟨rfl, rfl⟩ | ⟨g, c, rfl, _⟩
    · exact ⟨_, _, _, rfl, rfl⟩
    · exact ⟨_, _, _, rfl, rfl⟩
  rw [← hnl]
  clear h
  go_enter Try.func21, Try.ntmps21
  go_wp2_with fail
  refine C0.mono ?_
  rintro e w1 ⟨rfl, rfl⟩
  go_wp2_with fail
  go_ret
  exact ⟨ret_int (by rw [hnl]), rfl⟩

/-- the closure of DropGroup -/
theorem means_group (cb : Nat) (g : Int) : Means 40 #[.pointer (some ⟨cb, 0, none⟩)] cb (.cells #[.int .i64 g] 3 (0, 0)) (fun q => decide (q.g = g)) := by
  refine ⟨fun _ _ => (by kernel_rfl), fun w q hc => ?_⟩
  have c0 : w.cell? ⟨cb, 0, none⟩ = some (.int .i64 g) := by rw [cell_at hc]; rfl
  have hl := lt_of_heap hc
  suffices Calls Try.prog 40 #[pv q, .pointer (some ⟨cb, 0, none⟩)] w fun e w' => e = .returned (.bool (decide (q.g = g))) ∧ Below w.heap.size w w' by simpa using this
  clear hc
  obtain ⟨g1, k1⟩ := q
  unfold pv
  unfold kv at *
  simp only
  go_enter Try.func40, Try.ntmps40
  go_wp2_with fail
  all_goals
    go_ret
    refine ⟨ret_bool ?_, (Below.refl _ _).alloc (Nat.le_refl _) _⟩
    first | rfl | (simp_all; done)

set_option maxHeartbeats 1600000 in
theorem dropGroup_any (B b room m : Nat) (v : Value) (os : List Pl) (M : Pl → Option Value) (g : Int) (w : World) (h : CC B w b room m v os M) :
    Calls Try.prog 23 #[.pointer (some ⟨b, 0, none⟩), .int .i64 g] w fun e w' => e = .returned (.int .i64 ((os.length : Int) - ((os.filter (fun q => !decide (q.g = g))).length : Int))) ∧
      ∃ v', CC B w' b room m v' (os.filter (fun q => !decide (q.g = g))) (Ml (fun q => decide (q.g = g)) M) ∧ Turn w w' b m v v' := by
  have hb0 : Below w.heap.size w (w.alloc (.cells #[.int .i64 g] 3)) := (Below.refl _ _).alloc (Nat.le_refl _) _
  have h1 := h.below hb0
  have C0 := made_ob b room m v _ h1.ob
  have hml := h.mp.lt
  have C1 := leave_any B b room m v os M 40 #[.pointer (some ⟨w.heap.size, 0, none⟩)] w.heap.size (.cells #[.int .i64 g] 3 (0, 0)) (fun q => decide (q.g = g)) _ h1 (means_group _ g) (heap_alloc_at w _) (by omega) (fun e => by have := (h.ord.lt _ e).2; omega)
  have HB : Hid (Below w.heap.size w (w.alloc (.cells #[.int .i64 g] 3))) := hb0
  clear h hb0 h1
  go_enter Try.func23, Try.ntmps23
  go_wp2_with fail
  refine C0.mono ?_
  rintro e w1 ⟨rfl, rfl⟩
  go_wp2_with fail
  refine C1.mono ?_
  rintro e w2 ⟨rfl, v', hC, hT⟩
  have HF : Hid (_) := And.intro hC ((Turn.of_below HB.out).trans hT)
  clear hC hT C0 C1
  go_wp2_with fail
  go_ret
  exact ⟨rfl, v', HF.out⟩

end Go.Proofs.Ytgafdbamlmaifaa.S
