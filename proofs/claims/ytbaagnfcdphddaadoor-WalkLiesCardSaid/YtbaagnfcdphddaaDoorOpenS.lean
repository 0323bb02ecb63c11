/-
  Entries with their places that came in as a slice.
-/
import Derived.Test.YtbaagnfcdphddaaDoorLaid
namespace Go.Proofs.YtbaagnfcdphddaaDoor
open Go.ChangeShapes Go.WideShapes Go.ChangeAt Go.RowKit
set_option linter.unusedVariables false
set_option maxRecDepth 100000

theorem add_plain {w : World} {x : Addr} {v : Value} (h : w.cell? x = some v) : ∃ b off, x = ⟨b, off, none⟩ := by
  obtain ⟨b, off, sp⟩ := x
  cases sp with
  | none => exact ⟨b, off, rfl⟩
  | some s => simp only [World.cell?] at h; split at h <;> cases h

theorem eleven_cells {w : World} {x : Addr} {cs : List Value} (h : w.cells? 0 x 11 = some cs) : ∃ c0 c1 c2 c3 c4 c5 c6 c7 c8 c9 c10, cs = [c0, c1, c2, c3, c4, c5, c6, c7, c8, c9, c10] ∧ w.cell? (x.add 0) = some c0 ∧ w.cell? (x.add 1) = some c1 ∧ w.cell? (x.add 2) = some c2 ∧ w.cell? (x.add 3) = some c3 ∧ w.cell? (x.add 4) = some c4 ∧ w.cell? (x.add 5) = some c5 ∧ w.cell? (x.add 6) = some c6 ∧ w.cell? (x.add 7) = some c7 ∧ w.cell? (x.add 8) = some c8 ∧ w.cell? (x.add 9) = some c9 ∧ w.cell? (x.add 10) = some c10 := by
  unfold World.cells? at h
  rw [if_pos (Nat.zero_le _), show List.range 11 = [0, 1, 2, 3, 4, 5, 6, 7, 8, 9, 10] from rfl] at h
  simp only [List.mapM_cons, List.mapM_nil, Option.pure_def, Option.bind_eq_bind, Option.bind_eq_some_iff, Option.some.injEq] at h
  obtain ⟨c0, h0, l1, ⟨c1, h1, l2, ⟨c2, h2, l3, ⟨c3, h3, l4, ⟨c4, h4, l5, ⟨c5, h5, l6, ⟨c6, h6, l7, ⟨c7, h7, l8, ⟨c8, h8, l9, ⟨c9, h9, l10, ⟨c10, h10, l11, rfl, rfl⟩, rfl⟩, rfl⟩, rfl⟩, rfl⟩, rfl⟩, rfl⟩, rfl⟩, rfl⟩, rfl⟩, rfl⟩ := h
  exact ⟨c0, c1, c2, c3, c4, c5, c6, c7, c8, c9, c10, rfl, h0, h1, h2, h3, h4, h5, h6, h7, h8, h9, h10⟩

theorem slot_of {H : Type} {enc : TypeId × Value → H} {w : World} {m : Nat} {c0 c1 c2 c3 c4 c5 c6 c7 c8 c9 c10 : Value} {x : DataW H × List MemPlace}
    (h : DataW.trod enc Tryd.prog w 0 (fun _ => true) true m 46 [c0, c1, c2, c3, c4, c5, c6, c7, c8, c9, c10] = some x) :
    ∃ s : Sl, c0 = .int .i64 s.fr ∧ c1 = .int .i64 s.pl ∧ c2 = .bool s.e.v ∧ c3 = .bool s.e.r ∧ c4 = .bool s.e.w ∧ c5 = .bool s.e.x ∧ c6 = .bool s.e.u ∧ c7 = .bool s.e.s ∧ c8 = .bool s.e.d ∧ c9 = .int .i64 s.e.f ∧ c10 = .int .u64 s.raw ∧ 0 ≤ s.raw ∧ s.raw < 18446744073709551616 := by
  obtain ⟨xs, n, _, hx, _, hlen, hfs⟩ := DataW.trod_struct Tryd.underlying46 h
  have hl : xs.length = 4 := by simpa using hlen
  have e : ∀ i, i < 4 → ∃ y, xs[i]? = some y := fun i hi => ⟨_, List.getElem?_eq_getElem (by omega)⟩
  obtain ⟨a0, rfl, _⟩ := field_int (by simpa [cells3, cells4, cells23, cells44] using hfs 0 _ rfl) (e 0 (by decide))
  obtain ⟨a1, rfl, _⟩ := field_int (by simpa [cells3, cells4, cells23, cells44] using hfs 1 _ rfl) (e 1 (by decide))
  obtain ⟨y2, g2⟩ := e 2 (by decide)
  have f2 : DataW.trod enc Tryd.prog w 0 (fun _ => true) true n 44 [c2, c3, c4, c5, c6, c7, c8, c9] = some y2 := by
    have := hfs 2 _ rfl
    rw [g2] at this
    simpa [cells3, cells4, cells23, cells44] using this
  obtain ⟨a10, rfl, w10⟩ := field_u64 (by simpa [cells3, cells4, cells23, cells44] using hfs 3 _ rfl) (e 3 (by decide))
  obtain ⟨ys, n', _, _, _, hlen', hfs'⟩ := DataW.trod_struct Tryd.underlying44 f2
  have hl' : ys.length = 8 := by simpa using hlen'
  have e' : ∀ i, i < 8 → ∃ y, ys[i]? = some y := fun i hi => ⟨_, List.getElem?_eq_getElem (by omega)⟩
  obtain ⟨b0, rfl⟩ := field_bool (by simpa [cells3, cells4] using hfs' 0 _ rfl) (e' 0 (by decide))
  obtain ⟨b1, rfl⟩ := field_bool (by simpa [cells3, cells4] using hfs' 1 _ rfl) (e' 1 (by decide))
  obtain ⟨b2, rfl⟩ := field_bool (by simpa [cells3, cells4] using hfs' 2 _ rfl) (e' 2 (by decide))
  obtain ⟨b3, rfl⟩ := field_bool (by simpa [cells3, cells4] using hfs' 3 _ rfl) (e' 3 (by decide))
  obtain ⟨b4, rfl⟩ := field_bool (by simpa [cells3, cells4] using hfs' 4 _ rfl) (e' 4 (by decide))
  obtain ⟨b5, rfl⟩ := field_bool (by simpa [cells3, cells4] using hfs' 5 _ rfl) (e' 5 (by decide))
  obtain ⟨b6, rfl⟩ := field_bool (by simpa [cells3, cells4] using hfs' 6 _ rfl) (e' 6 (by decide))
  obtain ⟨a7, rfl, _⟩ := field_int (by simpa [cells3, cells4] using hfs' 7 _ rfl) (e' 7 (by decide))
  exact ⟨⟨a0, a1, ⟨b0, b1, b2, b3, b4, b5, b6, a7⟩, a10⟩, rfl, rfl, rfl, rfl, rfl, rfl, rfl, rfl, rfl, rfl, rfl, (bounds_u64 w10).1, (bounds_u64 w10).2⟩

theorem list_of {α : Type} {p : Nat → α → Prop} : ∀ n, (∀ i, i < n → ∃ s, p i s) → ∃ l : List α, l.length = n ∧ ∀ i s, l[i]? = some s → p i s
  | 0, _ => ⟨[], rfl, fun i s h => by simp at h⟩
  | n + 1, h => by
    obtain ⟨l, hl, hp⟩ := list_of n (fun i hi => h i (by omega))
    obtain ⟨s, hs⟩ := h n (by omega)
    refine ⟨l ++ [s], by simp [hl], fun i s' hi => ?_⟩
    rcases Nat.lt_or_ge i n with hlt | hge
    · rw [List.getElem?_append_left (by omega)] at hi; exact hp i s' hi
    · rw [List.getElem?_append_right (by omega)] at hi
      have : i = n := by
        rcases Nat.lt_or_ge n i with h' | h'
        · rw [List.getElem?_eq_none (by simp; omega)] at hi; cases hi
        · omega
      subst this
      simp [hl] at hi
      subst hi
      exact hs

theorem slots_of {H : Type} {enc : TypeId × Value → H} {w : World} {fuel : Nat} {ad : Option Addr} {len cap : Nat} {x : DataW H × List MemPlace}
    (h : DataW.trod enc Tryd.prog w 0 (fun _ => true) true fuel 22 [.slice ad len cap] = some x) :
    (∃ ss, SlotsIn w ad len ss) ∧ len ≤ cap ∧ cap ≤ maxLen := by
  rcases DataW.trod_slice Tryd.underlying22 h with ⟨hcs, _⟩ | ⟨a, len', cap', elems, rest, n, _, hcs, hx, _, hle, hm, hel, hall, _, _⟩
  · simp at hcs
    obtain ⟨rfl, rfl, rfl⟩ := hcs
    exact ⟨⟨[], rfl, .inl rfl⟩, by omega, by omega⟩
  · simp at hcs
    obtain ⟨rfl, rfl, rfl⟩ := hcs
    refine ⟨?_, hle, hm⟩
    rcases Nat.eq_zero_or_pos len with h0 | hpos
    · exact ⟨[], by simp [h0], .inl h0⟩
    have hw : ∀ i, i < len → ∃ s : Sl, w.cell? ((a.add (i * 11)).add 0) = some (.int .i64 s.fr) ∧ w.cell? ((a.add (i * 11)).add 1) = some (.int .i64 s.pl) ∧ w.cell? ((a.add (i * 11)).add 2) = some (.bool s.e.v) ∧ w.cell? ((a.add (i * 11)).add 3) = some (.bool s.e.r) ∧ w.cell? ((a.add (i * 11)).add 4) = some (.bool s.e.w) ∧ w.cell? ((a.add (i * 11)).add 5) = some (.bool s.e.x) ∧ w.cell? ((a.add (i * 11)).add 6) = some (.bool s.e.u) ∧ w.cell? ((a.add (i * 11)).add 7) = some (.bool s.e.s) ∧ w.cell? ((a.add (i * 11)).add 8) = some (.bool s.e.d) ∧ w.cell? ((a.add (i * 11)).add 9) = some (.int .i64 s.e.f) ∧ w.cell? ((a.add (i * 11)).add 10) = some (.int .u64 s.raw) ∧ 0 ≤ s.raw ∧ s.raw < 18446744073709551616 := by
      intro i hi
      have hb := hall i hi
      rw [List.getElem?_eq_getElem (by omega), cells46] at hb
      obtain ⟨cs, hc, ht⟩ := Option.bind_eq_some_iff.1 hb
      obtain ⟨c0, c1, c2, c3, c4, c5, c6, c7, c8, c9, c10, rfl, e0, e1, e2, e3, e4, e5, e6, e7, e8, e9, e10⟩ := eleven_cells hc
      obtain ⟨s, rfl, rfl, rfl, rfl, rfl, rfl, rfl, rfl, rfl, rfl, rfl, r0, r1⟩ := slot_of ht
      exact ⟨s, e0, e1, e2, e3, e4, e5, e6, e7, e8, e9, e10, r0, r1⟩
    obtain ⟨B, off, rfl⟩ : ∃ B off, a = ⟨B, off, none⟩ := by
      obtain ⟨s, e0, _⟩ := hw 0 hpos
      have hx0 : (a.add (0 * 11)).add 0 = a := by cases a; simp [Addr.add]
      rw [hx0] at e0
      exact add_plain e0
    have hpl : ∀ i j, ((⟨B, off, none⟩ : Addr).add (i * 11)).add j = ⟨B, off + i * 11 + j, none⟩ := by
      intro i j
      have p1 : ∀ (B o k : Nat), (⟨B, o, none⟩ : Addr).add k = ⟨B, o + k, none⟩ := by intro B o k; unfold Addr.add; split <;> simp_all
      rw [p1, p1]
    have hB : B < w.heap.size := by
      obtain ⟨s, e0, _⟩ := hw 0 hpos
      rw [hpl] at e0
      exact World.block_lt_of_cell? w _ e0
    obtain ⟨ss, hl, hp⟩ := list_of (p := fun i s => SlotAt w B (off + i * 11) s) len (fun i hi => by
      obtain ⟨s, e0, e1, e2, e3, e4, e5, e6, e7, e8, e9, e10, r0, r1⟩ := hw i hi
      simp only [hpl, Nat.add_zero] at e0 e1 e2 e3 e4 e5 e6 e7 e8 e9 e10
      exact ⟨s, e0, e1, e2, e3, e4, e5, e6, e7, e8, e9, e10, r0, r1⟩)
    exact ⟨ss, hl, .inr ⟨B, off, rfl, hB, hp⟩⟩
end Go.Proofs.YtbaagnfcdphddaaDoor
