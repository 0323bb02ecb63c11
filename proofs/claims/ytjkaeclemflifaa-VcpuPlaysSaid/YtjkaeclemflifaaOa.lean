/-
  Acts that came in, in a slice.
-/
import Derived.Test.YtjkaeclemflifaaOpens
namespace Go.Proofs.Ytjkaeclemflifaa
open Go.ChangeShapes Go.WideShapes Go.ChangeAt Go.RowKit
set_option linter.unusedVariables false
set_option maxRecDepth 100000
theorem cells38 : Try.prog.cellsOf 38 = 16 := by kernel_rfl
theorem cells40 : Try.prog.cellsOf 40 = 18 := by kernel_rfl
/-- an act -/
structure Ac where
  kd : Int
  who : Int
  core : Int
  N : Nat → Int
def acA (x : Ac) : Array Value := #[.int .i64 x.kd, .int .i64 x.who, .int .i64 x.core, .int .u64 (x.N 0), .int .u64 (x.N 1), .int .u64 (x.N 2), .int .u64 (x.N 3), .int .u64 (x.N 4), .int .u64 (x.N 5), .int .u64 (x.N 6), .int .u64 (x.N 7), .int .u64 (x.N 8), .int .u64 (x.N 9), .int .u64 (x.N 10), .int .u64 (x.N 11), .int .u64 (x.N 12), .int .u64 (x.N 13), .int .u64 (x.N 14), .int .u64 (x.N 15), .int .u64 (x.N 16), .int .i64 (s64 (x.N 17))]
theorem l21 {l : List Value} (h : l.length = 21) : ∃ c0 c1 c2 c3 c4 c5 c6 c7 c8 c9 c10 c11 c12 c13 c14 c15 c16 c17 c18 c19 c20, l = [c0, c1, c2, c3, c4, c5, c6, c7, c8, c9, c10, c11, c12, c13, c14, c15, c16, c17, c18, c19, c20] := by
  match l, h with
  | [c0, c1, c2, c3, c4, c5, c6, c7, c8, c9, c10, c11, c12, c13, c14, c15, c16, c17, c18, c19, c20], _ => exact ⟨c0, c1, c2, c3, c4, c5, c6, c7, c8, c9, c10, c11, c12, c13, c14, c15, c16, c17, c18, c19, c20, rfl⟩
theorem s64_u {m : Int} (h1 : -9223372036854775808 ≤ m) (h2 : m < 9223372036854775808) : s64 (IntKind.u64.wrap m) = m ∧ U (IntKind.u64.wrap m) := by
  rw [IntKind.wrap_u64]
  unfold s64 wrap64
  exact ⟨by omega, by omega, by omega⟩
theorem act_of {H : Type} {enc : TypeId × Value → H} {w : World} {m : Nat} {l : List Value} {x : DataW H × List MemPlace} (hl : l.length = 21)
    (h : DataW.trod enc Try.prog w 0 (fun _ => true) true m 42 l = some x) : ∃ x : Ac, l = (acA x).toList ∧ W18 x.N := by
  obtain ⟨c0, c1, c2, c3, c4, c5, c6, c7, c8, c9, c10, c11, c12, c13, c14, c15, c16, c17, c18, c19, c20, rfl⟩ := l21 hl
  obtain ⟨xs, n, _, _, _, hlen, hfs⟩ := DataW.trod_struct Try.underlying42 h
  have hx : xs.length = 4 := by simpa using hlen
  have e : ∀ i, i < 4 → ∃ y, xs[i]? = some y := fun i hi => ⟨_, List.getElem?_eq_getElem (by omega)⟩
  obtain ⟨k, rfl, _⟩ := field_i Try.underlying3 (by simpa [cells3] using hfs 0 _ rfl) (e 0 (by decide))
  obtain ⟨who, rfl, _⟩ := field_i Try.underlying3 (by simpa [cells3] using hfs 1 _ rfl) (e 1 (by decide))
  obtain ⟨core, rfl, _⟩ := field_i Try.underlying3 (by simpa [cells3] using hfs 2 _ rfl) (e 2 (by decide))
  obtain ⟨y3, g3⟩ := e 3 (by decide)
  have f3 : DataW.trod enc Try.prog w 0 (fun _ => true) true n 40 [c3, c4, c5, c6, c7, c8, c9, c10, c11, c12, c13, c14, c15, c16, c17, c18, c19, c20] = some y3 := by
    have := hfs 3 _ rfl
    rw [g3] at this
    simpa [cells40] using this
  obtain ⟨ys, n2, _, _, _, hlen2, hfs2⟩ := DataW.trod_struct Try.underlying40 f3
  have hy : ys.length = 3 := by simpa using hlen2
  have e' : ∀ i, i < 3 → ∃ y, ys[i]? = some y := fun i hi => ⟨_, List.getElem?_eq_getElem (by omega)⟩
  obtain ⟨pc, rfl, wp⟩ := field_i Try.underlying30 (by simpa [cells30] using hfs2 1 _ rfl) (e' 1 (by decide))
  obtain ⟨md, rfl, wm⟩ := field_i Try.underlying3 (by simpa [cells3] using hfs2 2 _ rfl) (e' 2 (by decide))
  obtain ⟨z0, g0⟩ := e' 0 (by decide)
  have f0 : DataW.trod enc Try.prog w 0 (fun _ => true) true n2 38 [c3, c4, c5, c6, c7, c8, c9, c10, c11, c12, c13, c14, c15, c16, c17, c18] = some z0 := by
    have := hfs2 0 _ rfl
    rw [g0] at this
    simpa [cells38] using this
  obtain ⟨zs, m3, _, _, hl3, hlen3, hfs3⟩ := DataW.trod_array Try.underlying38 f0
  have e3 : ∀ i, i < 16 → ∃ y, zs[i]? = some y := fun i hi => ⟨_, List.getElem?_eq_getElem (by omega)⟩
  obtain ⟨x0, rfl, w0⟩ := field_i Try.underlying30 (by simpa [cells30] using hfs3 0 (by decide)) (e3 0 (by decide))
  obtain ⟨x1, rfl, w1⟩ := field_i Try.underlying30 (by simpa [cells30] using hfs3 1 (by decide)) (e3 1 (by decide))
  obtain ⟨x2, rfl, w2⟩ := field_i Try.underlying30 (by simpa [cells30] using hfs3 2 (by decide)) (e3 2 (by decide))
  obtain ⟨x3, rfl, w3⟩ := field_i Try.underlying30 (by simpa [cells30] using hfs3 3 (by decide)) (e3 3 (by decide))
  obtain ⟨x4, rfl, w4⟩ := field_i Try.underlying30 (by simpa [cells30] using hfs3 4 (by decide)) (e3 4 (by decide))
  obtain ⟨x5, rfl, w5⟩ := field_i Try.underlying30 (by simpa [cells30] using hfs3 5 (by decide)) (e3 5 (by decide))
  obtain ⟨x6, rfl, w6⟩ := field_i Try.underlying30 (by simpa [cells30] using hfs3 6 (by decide)) (e3 6 (by decide))
  obtain ⟨x7, rfl, w7⟩ := field_i Try.underlying30 (by simpa [cells30] using hfs3 7 (by decide)) (e3 7 (by decide))
  obtain ⟨x8, rfl, w8⟩ := field_i Try.underlying30 (by simpa [cells30] using hfs3 8 (by decide)) (e3 8 (by decide))
  obtain ⟨x9, rfl, w9⟩ := field_i Try.underlying30 (by simpa [cells30] using hfs3 9 (by decide)) (e3 9 (by decide))
  obtain ⟨x10, rfl, w10⟩ := field_i Try.underlying30 (by simpa [cells30] using hfs3 10 (by decide)) (e3 10 (by decide))
  obtain ⟨x11, rfl, w11⟩ := field_i Try.underlying30 (by simpa [cells30] using hfs3 11 (by decide)) (e3 11 (by decide))
  obtain ⟨x12, rfl, w12⟩ := field_i Try.underlying30 (by simpa [cells30] using hfs3 12 (by decide)) (e3 12 (by decide))
  obtain ⟨x13, rfl, w13⟩ := field_i Try.underlying30 (by simpa [cells30] using hfs3 13 (by decide)) (e3 13 (by decide))
  obtain ⟨x14, rfl, w14⟩ := field_i Try.underlying30 (by simpa [cells30] using hfs3 14 (by decide)) (e3 14 (by decide))
  obtain ⟨x15, rfl, w15⟩ := field_i Try.underlying30 (by simpa [cells30] using hfs3 15 (by decide)) (e3 15 (by decide))
  obtain ⟨s1, s2⟩ := s64_u (wf_I wm).1 (wf_I wm).2
  refine ⟨⟨k, who, core, fun j => match j with | 0 => x0 | 1 => x1 | 2 => x2 | 3 => x3 | 4 => x4 | 5 => x5 | 6 => x6 | 7 => x7 | 8 => x8 | 9 => x9 | 10 => x10 | 11 => x11 | 12 => x12 | 13 => x13 | 14 => x14 | 15 => x15 | 16 => pc | 17 => IntKind.u64.wrap md | _ => 0⟩, ?_, fun j hj => ?_⟩
  · simp only [acA, s1]
  · match j, hj with
    | 0, _ => exact wf_U w0
    | 1, _ => exact wf_U w1
    | 2, _ => exact wf_U w2
    | 3, _ => exact wf_U w3
    | 4, _ => exact wf_U w4
    | 5, _ => exact wf_U w5
    | 6, _ => exact wf_U w6
    | 7, _ => exact wf_U w7
    | 8, _ => exact wf_U w8
    | 9, _ => exact wf_U w9
    | 10, _ => exact wf_U w10
    | 11, _ => exact wf_U w11
    | 12, _ => exact wf_U w12
    | 13, _ => exact wf_U w13
    | 14, _ => exact wf_U w14
    | 15, _ => exact wf_U w15
    | 16, _ => exact wf_U wp
    | 17, _ => exact s2
    | j + 18, h => omega
/-- acts that came in -/
def ActsIn (w : World) (a : Option Addr) (n : Nat) : Prop := n = 0 ∨ ∃ B off, a = some ⟨B, off, none⟩ ∧ B < w.heap.size ∧ ∀ i, i < n → ∃ x : Ac, w.rangeAt B (off + i * 21) (acA x).toList ∧ W18 x.N
theorem ActsIn.at {w : World} {a : Option Addr} {n : Nat} (h : ActsIn w a n) {i : Nat} (hi : i < n) : ∃ B off, a = some ⟨B, off, none⟩ ∧ B < w.heap.size ∧ ∃ x : Ac, w.rangeAt B (off + i * 21) (acA x).toList ∧ W18 x.N := by
  rcases h with h | ⟨B, off, rfl, hB, hc⟩
  · omega
  · exact ⟨B, off, rfl, hB, hc i hi⟩
theorem add_plain {w : World} {x : Addr} {v : Value} (h : w.cell? x = some v) : ∃ b off, x = ⟨b, off, none⟩ := by
  obtain ⟨b, off, sp⟩ := x
  cases sp with
  | none => exact ⟨b, off, rfl⟩
  | some s => simp only [World.cell?] at h; split at h <;> cases h
theorem acts_of {H : Type} {enc : TypeId × Value → H} {w : World} {fuel : Nat} {ad : Option Addr} {len cap : Nat} {x : DataW H × List MemPlace}
    (h : DataW.trod enc Try.prog w 0 (fun _ => true) true fuel 22 [.slice ad len cap] = some x) : ActsIn w ad len ∧ len ≤ cap ∧ cap ≤ maxLen := by
  rcases DataW.trod_slice Try.underlying22 h with ⟨hcs, _⟩ | ⟨a, len', cap', elems, rest, n, _, hcs, hx, _, hle, hm, hel, hall, _, _⟩
  · simp at hcs
    obtain ⟨rfl, rfl, rfl⟩ := hcs
    exact ⟨.inl rfl, by omega, by omega⟩
  · simp at hcs
    obtain ⟨rfl, rfl, rfl⟩ := hcs
    refine ⟨?_, hle, hm⟩
    rcases Nat.eq_zero_or_pos len with h0 | hpos
    · exact .inl h0
    have hw : ∀ i, i < len → ∃ x : Ac, (∀ j v, (acA x).toList[j]? = some v → w.cell? ((a.add (i * 21)).add j) = some v) ∧ W18 x.N := by
      intro i hi
      have hb := hall i hi
      rw [List.getElem?_eq_getElem (by omega), cells42] at hb
      obtain ⟨cs, hc, ht⟩ := Option.bind_eq_some_iff.1 hb
      obtain ⟨_, hl, hcell⟩ := World.cells?_some hc
      obtain ⟨x, rfl, hN⟩ := act_of hl ht
      refine ⟨x, fun j v hv => ?_, hN⟩
      have hj : j < 21 := by
        have := (List.getElem?_eq_some_iff.1 hv).1
        simpa [acA] using this
      rw [hcell j hj]
      exact hv
    obtain ⟨B, off, rfl⟩ : ∃ B off, a = ⟨B, off, none⟩ := by
      obtain ⟨x, e0, _⟩ := hw 0 hpos
      have hx0 : (a.add (0 * 21)).add 0 = a := by cases a; simp [Addr.add]
      have := e0 0 _ rfl
      rw [hx0] at this
      exact add_plain this
    have hpl : ∀ i j, ((⟨B, off, none⟩ : Addr).add (i * 21)).add j = ⟨B, off + i * 21 + j, none⟩ := by
      intro i j
      have p1 : ∀ (B o k : Nat), (⟨B, o, none⟩ : Addr).add k = ⟨B, o + k, none⟩ := by intro B o k; unfold Addr.add; split <;> simp_all
      rw [p1, p1]
    have hB : B < w.heap.size := by
      obtain ⟨x, e0, _⟩ := hw 0 hpos
      have := e0 0 _ rfl
      rw [hpl] at this
      exact World.block_lt_of_cell? w _ this
    refine .inr ⟨B, off, rfl, hB, fun i hi => ?_⟩
    obtain ⟨x, e0, r⟩ := hw i hi
    exact ⟨x, fun j v hv => by rw [← hpl]; exact e0 j v hv, r⟩
end Go.Proofs.Ytjkaeclemflifaa
