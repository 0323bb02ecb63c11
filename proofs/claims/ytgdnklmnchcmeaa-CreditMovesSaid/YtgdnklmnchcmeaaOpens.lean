/-
  A call that came in by value, or in a slice: five numbers.
-/
import Derived.Test.YtgdnklmnchcmeaaBase
import Derived.ChangeOld
import Derived.Below
import Derived.SizedLaws
import Derived.OpenShut
namespace Go.Proofs.Ytgdnklmnchcmeaa
open Go.ChangeShapes Go.WideShapes Go.ChangeAt Go.RowKit
set_option linter.unusedVariables false
set_option maxRecDepth 100000
theorem ocells33 : Try.prog.cellsOf 33 = 5 := by kernel_rfl
theorem ocells3 : Try.prog.cellsOf 3 = 1 := by kernel_rfl
/-- a call -/
structure Ac where
  kd : Int
  id : Int
  wt : Int
  co : Int
  nn : Int
def AcOk (x : Ac) : Prop := KW x.kd ∧ KW x.id ∧ KW x.wt ∧ KW x.co ∧ KW x.nn
theorem cell_plain {w : World} {x : Addr} {v : Value} (h : w.cell? x = some v) : ∃ b off, x = ⟨b, off, none⟩ := by
  obtain ⟨b, off, sp⟩ := x
  cases sp with
  | none => exact ⟨b, off, rfl⟩
  | some s => simp only [World.cell?] at h; split at h <;> cases h
theorem five_cells {w : World} {x : Addr} {cs : List Value} (h : w.cells? 0 x 5 = some cs) : cs.length = 5 ∧ ∀ i, i < 5 → w.cell? (x.add i) = cs[i]? := by
  unfold World.cells? at h
  rw [if_pos (Nat.zero_le _), show List.range 5 = [0, 1, 2, 3, 4] from rfl] at h
  simp only [List.mapM_cons, List.mapM_nil, Option.pure_def, Option.bind_eq_bind, Option.bind_eq_some_iff, Option.some.injEq] at h
  obtain ⟨c0, h0, l1, ⟨c1, h1, l2, ⟨c2, h2, l3, ⟨c3, h3, l4, ⟨c4, h4, l5, rfl, rfl⟩, rfl⟩, rfl⟩, rfl⟩, rfl⟩ := h
  refine ⟨rfl, fun i hi => ?_⟩
  match i, hi with
  | 0, _ => exact h0
  | 1, _ => exact h1
  | 2, _ => exact h2
  | 3, _ => exact h3
  | 4, _ => exact h4
theorem fld_int {H : Type} {enc : TypeId × Value → H} {w : World} {base n : Nat} {sp : Nat → Bool} {held : Bool} {c : Value} {x : Option (DataW H × List MemPlace)} (h : DataW.trod enc Try.prog w base sp held n 3 [c] = x) (hx : ∃ y, x = some y) :
    ∃ a : Int, c = .int .i64 a ∧ (Lit.int .i64 a).wf = true := by
  obtain ⟨y, rfl⟩ := hx
  obtain ⟨a, e, _, hw⟩ := DataW.trod_int Try.underlying3 h
  exact ⟨a, by simpa using e, hw⟩
theorem act_cells {H : Type} {enc : TypeId × Value → H} {w : World} {base m : Nat} {sp : Nat → Bool} {held : Bool} {cs : List Value} {y : DataW H × List MemPlace} (hl : cs.length = 5)
    (h : DataW.trod enc Try.prog w base sp held m 33 cs = some y) : ∃ x : Ac, cs = [.int .i64 x.kd, .int .i64 x.id, .int .i64 x.wt, .int .i64 x.co, .int .i64 x.nn] ∧ AcOk x := by
  match cs, hl with
  | [c0, c1, c2, c3, c4], _ =>
    obtain ⟨xs, n, _, _, _, hlen, hfs⟩ := DataW.trod_struct Try.underlying33 h
    have hl : xs.length = 5 := by simpa using hlen
    have e : ∀ i, i < 5 → ∃ y, xs[i]? = some y := fun i hi => ⟨_, List.getElem?_eq_getElem (by omega)⟩
    obtain ⟨a0, rfl, w0⟩ := fld_int (by simpa [ocells3] using hfs 0 _ rfl) (e 0 (by decide))
    obtain ⟨a1, rfl, w1⟩ := fld_int (by simpa [ocells3] using hfs 1 _ rfl) (e 1 (by decide))
    obtain ⟨a2, rfl, w2⟩ := fld_int (by simpa [ocells3] using hfs 2 _ rfl) (e 2 (by decide))
    obtain ⟨a3, rfl, w3⟩ := fld_int (by simpa [ocells3] using hfs 3 _ rfl) (e 3 (by decide))
    obtain ⟨a4, rfl, w4⟩ := fld_int (by simpa [ocells3] using hfs 4 _ rfl) (e 4 (by decide))
    exact ⟨⟨a0, a1, a2, a3, a4⟩, rfl, w0, w1, w2, w3, w4⟩
theorem five {α : Type} {cs : Array α} (h : cs.size = 5) : ∃ a b c d e, cs = #[a, b, c, d, e] := by
  obtain ⟨l⟩ := cs
  match l, h with
  | [a, b, c, d, e], _ => exact ⟨a, b, c, d, e, rfl⟩
/-- an act's cells, whole -/
def acA (x : Ac) : Array Value := #[.int .i64 x.kd, .int .i64 x.id, .int .i64 x.wt, .int .i64 x.co, .int .i64 x.nn]
theorem open_act {H : Type} {enc : TypeId × Value → H} {w : World} {r : Reach} {b0 : Nat} {v : Value} {d : DataW H} {p : List MemPlace}
    (hv : Value.okWide Try.prog w r b0 33 v) (h : DataW.Trod enc Try.prog w 0 (fun _ => true) true 33 v d p) :
    ∃ x : Ac, v = .agg (acA x) ∧ AcOk x := by
  obtain ⟨cs, rfl, hsz⟩ := okWide_struct Try.underlying33 hv
  obtain ⟨c0, c1, c2, c3, c4, rfl⟩ := five (hsz.trans ocells33)
  obtain ⟨fuel, hf⟩ := h
  obtain ⟨x, e, A⟩ := act_cells rfl (by simpa [Value.cells] using hf)
  simp at e
  obtain ⟨rfl, rfl, rfl, rfl, rfl⟩ := e
  exact ⟨x, rfl, A⟩
/-- an act's cells -/
def AcAt (w : World) (B o : Nat) (x : Ac) : Prop := w.cell? ⟨B, o, none⟩ = some (.int .i64 x.kd) ∧ w.cell? ⟨B, o + 1, none⟩ = some (.int .i64 x.id) ∧ w.cell? ⟨B, o + 2, none⟩ = some (.int .i64 x.wt) ∧ w.cell? ⟨B, o + 3, none⟩ = some (.int .i64 x.co) ∧ w.cell? ⟨B, o + 4, none⟩ = some (.int .i64 x.nn)
/-- acts that came in -/
def ActsIn (w : World) (a : Option Addr) (n : Nat) : Prop := n = 0 ∨ ∃ B off, a = some ⟨B, off, none⟩ ∧ B < w.heap.size ∧ ∀ i, i < n → ∃ x : Ac, AcOk x ∧ AcAt w B (off + i * 5) x
theorem acts_of {H : Type} {enc : TypeId × Value → H} {w : World} {fuel : Nat} {ad : Option Addr} {len cap : Nat} {x : DataW H × List MemPlace}
    (h : DataW.trod enc Try.prog w 0 (fun _ => true) true fuel 22 [.slice ad len cap] = some x) : ActsIn w ad len ∧ len ≤ cap ∧ cap ≤ maxLen := by
  rcases DataW.trod_slice Try.underlying22 h with ⟨hcs, _⟩ | ⟨a, len', cap', elems, rest, n, _, hcs, hx, _, hle, hm, hel, hall, _, _⟩
  · simp at hcs
    obtain ⟨rfl, rfl, rfl⟩ := hcs
    exact ⟨.inl rfl, by omega, by omega⟩
  · simp at hcs
    obtain ⟨rfl, rfl, rfl⟩ := hcs
    refine ⟨?_, hle, hm⟩
    rcases Nat.eq_zero_or_pos len with h0 | hpos
    · exact .inl h0
    have hw : ∀ i, i < len → ∃ x : Ac, AcOk x ∧ w.cell? ((a.add (i * 5)).add 0) = some (.int .i64 x.kd) ∧ w.cell? ((a.add (i * 5)).add 1) = some (.int .i64 x.id) ∧ w.cell? ((a.add (i * 5)).add 2) = some (.int .i64 x.wt) ∧ w.cell? ((a.add (i * 5)).add 3) = some (.int .i64 x.co) ∧ w.cell? ((a.add (i * 5)).add 4) = some (.int .i64 x.nn) := by
      intro i hi
      have hb := hall i hi
      rw [List.getElem?_eq_getElem (by omega), ocells33] at hb
      obtain ⟨cs, hc, ht⟩ := Option.bind_eq_some_iff.1 hb
      obtain ⟨hl, hcc⟩ := five_cells hc
      obtain ⟨x, rfl, wv⟩ := act_cells hl ht
      exact ⟨x, wv, hcc 0 (by decide), hcc 1 (by decide), hcc 2 (by decide), hcc 3 (by decide), hcc 4 (by decide)⟩
    obtain ⟨B, off, rfl⟩ : ∃ B off, a = ⟨B, off, none⟩ := by
      obtain ⟨_, _, e0, _⟩ := hw 0 hpos
      have hx0 : (a.add (0 * 5)).add 0 = a := by cases a; simp [Addr.add]
      rw [hx0] at e0
      exact cell_plain e0
    have hpl : ∀ i j, ((⟨B, off, none⟩ : Addr).add (i * 5)).add j = ⟨B, off + i * 5 + j, none⟩ := by
      intro i j
      have p1 : ∀ (B o k : Nat), (⟨B, o, none⟩ : Addr).add k = ⟨B, o + k, none⟩ := by intro B o k; unfold Addr.add; split <;> simp_all
      rw [p1, p1]
    have hB : B < w.heap.size := by
      obtain ⟨_, _, e0, _⟩ := hw 0 hpos
      rw [hpl] at e0
      exact World.block_lt_of_cell? w _ e0
    refine .inr ⟨B, off, rfl, hB, fun i hi => ?_⟩
    obtain ⟨x, hv, e0, e1, e2, e3, e4⟩ := hw i hi
    simp only [hpl, Nat.add_zero] at e0 e1 e2 e3 e4
    exact ⟨x, hv, e0, e1, e2, e3, e4⟩
theorem ActsIn.at {w : World} {a : Option Addr} {n : Nat} (h : ActsIn w a n) {i : Nat} (hi : i < n) : ∃ B off, a = some ⟨B, off, none⟩ ∧ B < w.heap.size ∧ ∃ x : Ac, AcOk x ∧ AcAt w B (off + i * 5) x := by
  rcases h with h | ⟨B, off, rfl, hB, hc⟩
  · omega
  · exact ⟨B, off, rfl, hB, hc i hi⟩
theorem AcAt.below {w w' : World} {N B o : Nat} {x : Ac} (h : AcAt w B o x) (hb : Below N w w') (hB : B < N) : AcAt w' B o x := by
  obtain ⟨h0, h1, h2, h3, h4⟩ := h
  exact ⟨((bcell hb).1 B _ hB).trans h0, ((bcell hb).1 B _ hB).trans h1, ((bcell hb).1 B _ hB).trans h2, ((bcell hb).1 B _ hB).trans h3, ((bcell hb).1 B _ hB).trans h4⟩
/-- numbers that came in -/
def NumsIn (q : IntKind) (w : World) (a : Option Addr) (n : Nat) (zs : List Int) : Prop :=
  zs.length = n ∧ (∀ z ∈ zs, (Lit.int q z).wf = true) ∧ (n = 0 ∨ ∃ b off, a = some ⟨b, off, none⟩ ∧ b < w.heap.size ∧ ∀ i, i < n → w.cell? ⟨b, off + i, none⟩ = some (.int q (zs.getD i 0)))
theorem nums_of {H : Type} {enc : TypeId × Value → H} {w : World} {fuel : Nat} {ad : Option Addr} {len cap : Nat} {x : DataW H × List MemPlace} {t e : TypeId} {q : IntKind} (ht : Try.prog.underlying t = some (.slice e)) (he : Try.prog.underlying e = some (.int q)) (hc : Try.prog.cellsOf e = 1)
    (h : DataW.trod enc Try.prog w 0 (fun _ => true) true fuel t [.slice ad len cap] = some x) : (∃ zs, NumsIn q w ad len zs) ∧ len ≤ cap ∧ cap ≤ maxLen := by
  rcases open_ints ht he hc h with ⟨hcs, _⟩ | ⟨a, l, c, zs, hcs, _, hl, hm, hz, hx, hcell, hwz⟩
  · simp at hcs
    obtain ⟨rfl, rfl, rfl⟩ := hcs
    exact ⟨⟨[], rfl, (fun z hz => by cases hz), .inl rfl⟩, by omega, by omega⟩
  · simp at hcs
    obtain ⟨rfl, rfl, rfl⟩ := hcs
    simp at hz
    refine ⟨⟨zs.take len, by simp; omega, fun z hz' => hwz z (List.mem_of_mem_take hz'), ?_⟩, hl, hm⟩
    rcases Nat.eq_zero_or_pos len with h0 | hpos
    · exact .inl h0
    obtain ⟨B, off, rfl⟩ : ∃ B off, a = ⟨B, off, none⟩ := by
      have e0 := hcell 0 (by omega)
      have hx0 : a.add 0 = a := by cases a; simp [Addr.add]
      rw [hx0] at e0
      exact cell_plain e0
    have p1 : ∀ (B o k : Nat), (⟨B, o, none⟩ : Addr).add k = ⟨B, o + k, none⟩ := by intro B o k; unfold Addr.add; split <;> simp_all
    refine .inr ⟨B, off, rfl, ?_, fun i hi => ?_⟩
    · have e0 := hcell 0 (by omega)
      rw [p1] at e0
      exact World.block_lt_of_cell? w _ e0
    · have e0 := hcell i (by omega)
      rw [p1] at e0
      rw [e0]
      simp [hi]
theorem and_low (v m : Int) (k : Nat) (hk : (BitVec.ofInt 64 m).toNat = k) (hb : k < 9223372036854775808) : ∃ i : Nat, i ≤ k ∧ bits .and .i64 v m = (i : Int) := by
  refine ⟨(BitVec.ofInt 64 v &&& BitVec.ofInt 64 m).toNat, ?_, ?_⟩
  · rw [BitVec.toNat_and, hk]
    exact Nat.and_le_right
  · show IntKind.i64.wrap ((BitVec.ofInt 64 v &&& BitVec.ofInt 64 m).toNat : Int) = _
    have h : (BitVec.ofInt 64 v &&& BitVec.ofInt 64 m).toNat ≤ k := by rw [BitVec.toNat_and, hk]; exact Nat.and_le_right
    rw [IntKind.wrap_i64]
    omega
theorem and_lowu (v m : Int) (k : Nat) (hk : (BitVec.ofInt 64 m).toNat = k) (hb : k < 9223372036854775808) : ∃ i : Nat, i ≤ k ∧ bits .and .u64 v m = (i : Int) := by
  refine ⟨(BitVec.ofInt 64 v &&& BitVec.ofInt 64 m).toNat, ?_, ?_⟩
  · rw [BitVec.toNat_and, hk]
    exact Nat.and_le_right
  · show IntKind.u64.wrap ((BitVec.ofInt 64 v &&& BitVec.ofInt 64 m).toNat : Int) = _
    have h : (BitVec.ofInt 64 v &&& BitVec.ofInt 64 m).toNat ≤ k := by rw [BitVec.toNat_and, hk]; exact Nat.and_le_right
    rw [IntKind.wrap_u64]
    omega
theorem NumsIn.at {q : IntKind} {w : World} {a : Option Addr} {n : Nat} {zs : List Int} (h : NumsIn q w a n zs) {j : Nat} (hj : j < n) : ∃ b off, a = some ⟨b, off, none⟩ ∧ b < w.heap.size ∧ w.cell? ⟨b, off + j, none⟩ = some (.int q (zs.getD j 0)) := by
  rcases h.2.2 with h' | ⟨b, off, rfl, hb, hc⟩
  · omega
  · exact ⟨b, off, rfl, hb, hc j hj⟩
theorem take_next (zs : List Int) (j : Nat) (h : j < zs.length) : zs.take (j + 1) = zs.take j ++ [zs.getD j 0] := by
  rw [List.take_add_one]; simp [h]
end Go.Proofs.Ytgdnklmnchcmeaa
