/-
  A call that came in by value, or in a slice: four numbers and a bool.
-/
import Derived.Test.YtncjhdhfhojohaaBase
import Derived.ChangeOld
import Derived.Below
import Derived.SizedLaws
namespace Go.Proofs.Ytncjhdhfhojohaa
open Go.ChangeShapes Go.WideShapes Go.ChangeAt Go.RowKit
set_option linter.unusedVariables false
set_option maxRecDepth 100000
theorem ocells33 : Try.prog.cellsOf 33 = 5 := by kernel_rfl
theorem ocells4 : Try.prog.cellsOf 4 = 1 := by kernel_rfl
theorem ocells3 : Try.prog.cellsOf 3 = 1 := by kernel_rfl
/-- a call -/
structure Ac where
  kd : Int
  vc : Int
  so : Int
  nn : Int
  on : Bool
/-- numbers of 64 bits -/
def I64 (x : Int) : Prop := -9223372036854775808 ≤ x ∧ x ≤ 9223372036854775807
theorem i64_wf {x : Int} (h : (Lit.int .i64 x).wf = true) : I64 x := by
  simp [Lit.wf, IntKind.min, IntKind.max, IntKind.signed, IntKind.bits] at h
  exact ⟨by omega, by omega⟩
def AcOk (x : Ac) : Prop := I64 x.vc ∧ I64 x.so ∧ I64 x.nn
theorem cell_plain {w : World} {x : Addr} {v : Value} (h : w.cell? x = some v) : ∃ b off, x = ⟨b, off, none⟩ := by
  obtain ⟨b, off, sp⟩ := x
  cases sp with
  | none => exact ⟨b, off, rfl⟩
  | some s => simp only [World.cell?] at h; split at h <;> cases h
theorem five_cells {w : World} {x : Addr} {cs : List Value} (h : w.cells? 0 x 5 = some cs) : cs.length = 5 ∧ ∀ i, i < 5 → w.cell? (x.add i) = cs[i]? := by
  unfold World.cells? at h
  rw [if_pos (Nat.zero_le _), show List.range 5 = [0, 1, 2, 3, 4] from rfl] at h
  simp only [List.mapM_cons, List.mapM_nil, Option.pure_def, Option.bind_eq_bind, Option.bind_eq_some_iff, Option.some.injEq] at h
  obtain ⟨c0, h0, l1, ⟨c1, h1, l2, ⟨c2, h2, l3, ⟨c3, h3, l4, ⟨c4, h4, l5, rfl, rfl⟩, rfl⟩, rfl⟩, rfl⟩, rfl⟩ := h
  refine ⟨rfl, fun i hi => ?_⟩
  match i, hi with
  | 0, _ => exact h0
  | 1, _ => exact h1
  | 2, _ => exact h2
  | 3, _ => exact h3
  | 4, _ => exact h4
theorem fld_int {H : Type} {enc : TypeId × Value → H} {w : World} {base n : Nat} {sp : Nat → Bool} {held : Bool} {c : Value} {x : Option (DataW H × List MemPlace)} (h : DataW.trod enc Try.prog w base sp held n 3 [c] = x) (hx : ∃ y, x = some y) :
    ∃ a : Int, c = .int .i64 a ∧ (Lit.int .i64 a).wf = true := by
  obtain ⟨y, rfl⟩ := hx
  obtain ⟨a, e, _, hw⟩ := DataW.trod_int Try.underlying3 h
  exact ⟨a, by simpa using e, hw⟩
theorem fld_bool {H : Type} {enc : TypeId × Value → H} {w : World} {base n : Nat} {sp : Nat → Bool} {held : Bool} {c : Value} {x : Option (DataW H × List MemPlace)} (h : DataW.trod enc Try.prog w base sp held n 4 [c] = x) (hx : ∃ y, x = some y) :
    ∃ a : Bool, c = .bool a := by
  obtain ⟨y, rfl⟩ := hx
  obtain ⟨a, e, _⟩ := DataW.trod_bool Try.underlying4 h
  exact ⟨a, by simpa using e⟩
theorem act_cells {H : Type} {enc : TypeId × Value → H} {w : World} {base m : Nat} {sp : Nat → Bool} {held : Bool} {cs : List Value} {y : DataW H × List MemPlace} (hl : cs.length = 5)
    (h : DataW.trod enc Try.prog w base sp held m 33 cs = some y) : ∃ x : Ac, cs = [.int .i64 x.kd, .int .i64 x.vc, .int .i64 x.so, .int .i64 x.nn, .bool x.on] ∧ AcOk x := by
  match cs, hl with
  | [c0, c1, c2, c3, c4], _ =>
    obtain ⟨xs, n, _, _, _, hlen, hfs⟩ := DataW.trod_struct Try.underlying33 h
    have hl : xs.length = 5 := by simpa using hlen
    have e : ∀ i, i < 5 → ∃ y, xs[i]? = some y := fun i hi => ⟨_, List.getElem?_eq_getElem (by omega)⟩
    obtain ⟨a0, rfl, w0⟩ := fld_int (by simpa [ocells3] using hfs 0 _ rfl) (e 0 (by decide))
    obtain ⟨a1, rfl, w1⟩ := fld_int (by simpa [ocells3] using hfs 1 _ rfl) (e 1 (by decide))
    obtain ⟨a2, rfl, w2⟩ := fld_int (by simpa [ocells3] using hfs 2 _ rfl) (e 2 (by decide))
    obtain ⟨a3, rfl, w3⟩ := fld_int (by simpa [ocells3] using hfs 3 _ rfl) (e 3 (by decide))
    obtain ⟨a4, rfl⟩ := fld_bool (by simpa [ocells3, ocells4] using hfs 4 _ rfl) (e 4 (by decide))
    exact ⟨⟨a0, a1, a2, a3, a4⟩, rfl, i64_wf w1, i64_wf w2, i64_wf w3⟩
theorem five {α : Type} {cs : Array α} (h : cs.size = 5) : ∃ a b c d e, cs = #[a, b, c, d, e] := by
  obtain ⟨l⟩ := cs
  match l, h with
  | [a, b, c, d, e], _ => exact ⟨a, b, c, d, e, rfl⟩
theorem open_act {H : Type} {enc : TypeId × Value → H} {w : World} {r : Reach} {b0 : Nat} {v : Value} {d : DataW H} {p : List MemPlace}
    (hv : Value.okWide Try.prog w r b0 33 v) (h : DataW.Trod enc Try.prog w 0 (fun _ => true) true 33 v d p) :
    ∃ x : Ac, v = .agg #[.int .i64 x.kd, .int .i64 x.vc, .int .i64 x.so, .int .i64 x.nn, .bool x.on] ∧ AcOk x := by
  obtain ⟨cs, rfl, hsz⟩ := okWide_struct Try.underlying33 hv
  obtain ⟨c0, c1, c2, c3, c4, rfl⟩ := five (hsz.trans ocells33)
  obtain ⟨fuel, hf⟩ := h
  obtain ⟨x, e, A⟩ := act_cells rfl (by simpa [Value.cells] using hf)
  simp at e
  obtain ⟨rfl, rfl, rfl, rfl, rfl⟩ := e
  exact ⟨x, rfl, A⟩
/-- an act's cells -/
def AcAt (w : World) (B o : Nat) (x : Ac) : Prop := w.cell? ⟨B, o, none⟩ = some (.int .i64 x.kd) ∧ w.cell? ⟨B, o + 1, none⟩ = some (.int .i64 x.vc) ∧ w.cell? ⟨B, o + 2, none⟩ = some (.int .i64 x.so) ∧ w.cell? ⟨B, o + 3, none⟩ = some (.int .i64 x.nn) ∧ w.cell? ⟨B, o + 4, none⟩ = some (.bool x.on)
/-- acts that came in -/
def ActsIn (w : World) (a : Option Addr) (n : Nat) : Prop := n = 0 ∨ ∃ B off, a = some ⟨B, off, none⟩ ∧ B < w.heap.size ∧ ∀ i, i < n → ∃ x : Ac, AcOk x ∧ AcAt w B (off + i * 5) x
theorem acts_of {H : Type} {enc : TypeId × Value → H} {w : World} {fuel : Nat} {ad : Option Addr} {len cap : Nat} {x : DataW H × List MemPlace}
    (h : DataW.trod enc Try.prog w 0 (fun _ => true) true fuel 22 [.slice ad len cap] = some x) : ActsIn w ad len ∧ len ≤ cap ∧ cap ≤ maxLen := by
  rcases DataW.trod_slice Try.underlying22 h with ⟨hcs, _⟩ | ⟨a, len', cap', elems, rest, n, _, hcs, hx, _, hle, hm, hel, hall, _, _⟩
  · simp at hcs
    obtain ⟨rfl, rfl, rfl⟩ := hcs
    exact ⟨.inl rfl, by omega, by omega⟩
  · simp at hcs
    obtain ⟨rfl, rfl, rfl⟩ := hcs
    refine ⟨?_, hle, hm⟩
    rcases Nat.eq_zero_or_pos len with h0 | hpos
    · exact .inl h0
    have hw : ∀ i, i < len → ∃ x : Ac, AcOk x ∧ w.cell? ((a.add (i * 5)).add 0) = some (.int .i64 x.kd) ∧ w.cell? ((a.add (i * 5)).add 1) = some (.int .i64 x.vc) ∧ w.cell? ((a.add (i * 5)).add 2) = some (.int .i64 x.so) ∧ w.cell? ((a.add (i * 5)).add 3) = some (.int .i64 x.nn) ∧ w.cell? ((a.add (i * 5)).add 4) = some (.bool x.on) := by
      intro i hi
      have hb := hall i hi
      rw [List.getElem?_eq_getElem (by omega), ocells33] at hb
      obtain ⟨cs, hc, ht⟩ := Option.bind_eq_some_iff.1 hb
      obtain ⟨hl, hcc⟩ := five_cells hc
      obtain ⟨x, rfl, wv⟩ := act_cells hl ht
      exact ⟨x, wv, hcc 0 (by decide), hcc 1 (by decide), hcc 2 (by decide), hcc 3 (by decide), hcc 4 (by decide)⟩
    obtain ⟨B, off, rfl⟩ : ∃ B off, a = ⟨B, off, none⟩ := by
      obtain ⟨_, _, e0, _⟩ := hw 0 hpos
      have hx0 : (a.add (0 * 5)).add 0 = a := by cases a; simp [Addr.add]
      rw [hx0] at e0
      exact cell_plain e0
    have hpl : ∀ i j, ((⟨B, off, none⟩ : Addr).add (i * 5)).add j = ⟨B, off + i * 5 + j, none⟩ := by
      intro i j
      have p1 : ∀ (B o k : Nat), (⟨B, o, none⟩ : Addr).add k = ⟨B, o + k, none⟩ := by intro B o k; unfold Addr.add; split <;> simp_all
      rw [p1, p1]
    have hB : B < w.heap.size := by
      obtain ⟨_, _, e0, _⟩ := hw 0 hpos
      rw [hpl] at e0
      exact World.block_lt_of_cell? w _ e0
    refine .inr ⟨B, off, rfl, hB, fun i hi => ?_⟩
    obtain ⟨x, hv, e0, e1, e2, e3, e4⟩ := hw i hi
    simp only [hpl, Nat.add_zero] at e0 e1 e2 e3 e4
    exact ⟨x, hv, e0, e1, e2, e3, e4⟩
theorem ActsIn.at {w : World} {a : Option Addr} {n : Nat} (h : ActsIn w a n) {i : Nat} (hi : i < n) : ∃ B off, a = some ⟨B, off, none⟩ ∧ B < w.heap.size ∧ ∃ x : Ac, AcOk x ∧ AcAt w B (off + i * 5) x := by
  rcases h with h | ⟨B, off, rfl, hB, hc⟩
  · omega
  · exact ⟨B, off, rfl, hB, hc i hi⟩
theorem AcAt.below {w w' : World} {N B o : Nat} {x : Ac} (h : AcAt w B o x) (hb : Below N w w') (hB : B < N) : AcAt w' B o x := by
  obtain ⟨h0, h1, h2, h3, h4⟩ := h
  exact ⟨((bcell hb).1 B _ hB).trans h0, ((bcell hb).1 B _ hB).trans h1, ((bcell hb).1 B _ hB).trans h2, ((bcell hb).1 B _ hB).trans h3, ((bcell hb).1 B _ hB).trans h4⟩
end Go.Proofs.Ytncjhdhfhojohaa
