/-
  Maps from strings to numbers, by what they hold; the map of operations by their names.
-/
import Derived.Test.YtopankjjlapfbaaGreatDoorOpd
import Derived.Test.YtopankjjlapfbaaGreatDoorWalks9
import Derived.Test.YtopankjjlapfbaaGreatDoorShowC
import Derived.Test.YtopankjjlapfbaaGreatDoorInstrB
import Derived.StringKeys
import Derived.Maps.Views
namespace Go.Proofs.YtopankjjlapfbaaGreatDoor
open Go.RowKit Go.Maps
set_option linter.unusedVariables false
set_option maxRecDepth 100000

theorem u38 : Tryz.prog.underlying 38 = some (.map 9 3) := by kernel_rfl
theorem law9 : Keyed Tryz.prog 9 := string_keyed Tryz.underlying9

/-- a map that holds just this -/
def MapIs (w : World) (b n : Nat) (M : ByteArray → Option Int) : Prop :=
  ∃ D : DataW Value, w.ownsMap Tryz.prog 9 RV b n D ∧ IsMap D ∧ (∀ s : ByteArray, Maps.has D (.string s.data.toList) = (M s).isSome) ∧
    (∀ s v z, M s = some v → D.atKey (.string s.data.toList) z = .held (.int .i64 v)) ∧ (∀ s z, M s = none → D.atKey (.string s.data.toList) z = z)

theorem MapIs.keep {w w' : World} {b n : Nat} {M : ByteArray → Option Int} (h : MapIs w b n M) (hh : w'.heap[b]? = w.heap[b]?) : MapIs w' b n M := by
  obtain ⟨D, ⟨es, cl, h1, h2⟩, hD⟩ := h
  exact ⟨D, ⟨es, cl, hh.trans h1, h2⟩, hD⟩
theorem MapIs.lt {w : World} {b n : Nat} {M : ByteArray → Option Int} (h : MapIs w b n M) : b < w.heap.size := by
  obtain ⟨D, ⟨es, cl, h1, _⟩, _⟩ := h
  rcases Nat.lt_or_ge b w.heap.size with h' | h'
  · exact h'
  · rw [Array.getElem?_eq_none h'] at h1; cases h1
theorem MapIs.new (w : World) : MapIs (w.alloc (.map #[] 0)) w.heap.size 0 (fun _ => none) :=
  ⟨.map [], World.ownsMap_made w _ _ RV, ⟨[], rfl⟩, fun s => rfl, fun s v z h => (by cases h), fun s z h => rfl⟩

theorem MapIs.look {w : World} {b n : Nat} {M : ByteArray → Option Int} (h : MapIs w b n M) (s : ByteArray) (hs : s.size ≤ 65536) :
    (Instr.lookup 38 (.map (some b)) (.string s) true).run Tryz.prog w = .ok (.tuple #[.int .i64 ((M s).getD 0), .bool (M s).isSome]) w := by
  obtain ⟨D, hown, _, hh, hs1, hs2⟩ := h
  obtain ⟨v, ps, hrun, hv⟩ := hown.look_ok law9 u38 (z := .int .i64 0) (by kernel_rfl) (show RV (.int .i64 0) = some (.held (.int .i64 0), []) from rfl) (Go.WideMaps.keyOf_string_mk Tryz.underlying9 (s := s) (by unfold maxLen; omega))
  rw [hrun, hh s]
  have hvv : v = .int .i64 ((M s).getD 0) := by
    cases hM : M s with
    | none =>
      rw [hs2 s _ hM] at hv
      simpa [RV] using (congrArg (Option.map Prod.fst) hv)
    | some x =>
      rw [hs1 s x _ hM] at hv
      simpa [RV] using (congrArg (Option.map Prod.fst) hv)
  rw [hvv]

/-- a map with one more -/
def putM (M : ByteArray → Option Int) (s : ByteArray) (v : Int) (t : ByteArray) : Option Int := if t = s then some v else M t

theorem MapIs.put {w : World} {b n : Nat} {M : ByteArray → Option Int} (h : MapIs w b n M) (s : ByteArray) (hs : s.size ≤ 65536) (v : Int) (hn : n < 1000000) :
    ∃ w', (Instr.mapUpdate 38 (.map (some b)) (.string s) (.int .i64 v)).run Tryz.prog w = .ok () w' ∧ MapIs w' b (n + 1) (putM M s v) ∧ w.grownBy w' (some b) := by
  obtain ⟨D, hown, hm, hh, hs1, hs2⟩ := h
  obtain ⟨w', hrun, hown', hg⟩ := hown.update law9 u38 (by unfold maxLen; omega) (Go.WideMaps.keyOf_string_mk Tryz.underlying9 (s := s) (by unfold maxLen; omega)) (show RV (.int .i64 v) = some (.held (.int .i64 v), []) from rfl)
  have hne : ∀ t : ByteArray, t ≠ s → (Lit.string t.data.toList) ≠ (Lit.string s.data.toList) := fun t ht e => ht (by
    injection e with e
    exact ByteArray.ext (Array.toList_inj.1 e))
  have hk : WideAt.IsKeyLit (Lit.string s.data.toList) := by trivial
  refine ⟨w', hrun, ⟨_, hown', ?_, fun t => ?_, fun t x z hx => ?_, fun t z hx => ?_⟩, hg⟩
  · obtain ⟨es, rfl⟩ := hm
    exact ⟨_, rfl⟩
  · unfold putM
    by_cases ht : t = s
    · subst ht; rw [if_pos rfl, has_put_same hm hk]; rfl
    · rw [if_neg ht, has_put_other (hne t ht)]; exact hh t
  · unfold putM at hx
    by_cases ht : t = s
    · subst ht
      rw [if_pos rfl] at hx
      cases hx
      exact atKey_put_same hm hk _ _
    · rw [if_neg ht] at hx
      rw [atKey_put_other (hne t ht)]
      exact hs1 t x z hx
  · unfold putM at hx
    by_cases ht : t = s
    · subst ht; rw [if_pos rfl] at hx; cases hx
    · rw [if_neg ht] at hx
      rw [atKey_put_other (hne t ht)]
      exact hs2 t z hx

/-- the operations of which the number is at most k, by their names -/
def opM : Nat → ByteArray → Option Int
  | 0, _ => none
  | k + 1, t => if t = nameL.getD (k + 1) ⟨#[]⟩ then some ((k + 1 : Nat) : Int) else opM k t

theorem opsByName_any (w : World) (hl : Lies w) :
    Calls Tryz.prog 22 #[] w fun e w' => e = .returned (.map (some w.heap.size)) ∧ MapIs w' w.heap.size 48 (opM 48) ∧ Below w.heap.size w w' := by
  have HL : Hid (Lies w) := hl
  clear hl
  have hmm := @run_makeMap Tryz.prog
  go_enter Tryz.func22, Tryz.ntmps22
  go_wp2_with fail
  go_loopw [2] (fun i wr => ∃ k : Nat, k ≤ 48 ∧ i = .int .i64 ((k : Int) + 1) ∧ MapIs wr w.heap.size k (opM k) ∧ Below w.heap.size w wr) (fun i _ => (49 - intOf i).toNat)
  case atStart => exact ⟨0, by omega, rfl, MapIs.new w, (Below.refl _ _).alloc (Nat.le_refl _) _⟩
  case round =>
    obtain ⟨k, hk, rfl, hM, hb⟩ := hrel
    by_cases hlt : k < 48
    · have hl' := HL.out.below hb
      have hc := hl'.nam (k + 1) (by omega)
      have hc0 : 0 < wr.heap.size := by have := hl'.big; omega
      have hsz : (nameL.getD (k + 1) ⟨#[]⟩).size ≤ 65536 := by
        have := nameS_size ((k + 1 : Nat) : Int)
        unfold nameS at this
        simp only [Int.toNat_natCast] at this
        omega
      obtain ⟨w', hrun, hM', hg⟩ := hM.put (nameL.getD (k + 1) ⟨#[]⟩) hsz ((k : Int) + 1) (by omega)
      have HM' : Hid (MapIs w' w.heap.size (k + 1) (opM (k + 1))) := hM'
      have HB' : Hid (Below w.heap.size w w') := hb.grown hg hb.size (fun j hj => by cases hj; exact Nat.le_refl _)
      generalize nameL.getD (k + 1) ⟨#[]⟩ = nm at *
      clear hl' hM hM' hb hg
      go_wp2_with fail
      go_roundw
      case rel => exact ⟨k + 1, by omega, by go_num, HM'.out, HB'.out⟩
      case measure => simp [intOf]; omega
    · obtain rfl : k = 48 := by omega
      go_wp2_with fail
      go_ret
      exact ⟨rfl, hM, hb⟩
end Go.Proofs.YtopankjjlapfbaaGreatDoor
