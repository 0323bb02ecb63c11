/-
  A state that came in by value: its registers, its control registers, what its slices hold.
  A state that came in, by its cells alone: what is asked of it is no bound.
  A state that came in, by its cells, with its instructions and the numbers of its memory.
  What the table of sizes holds when a call begins, out of the row's condition; that the program's own start meets it.
-/
import Derived.Test.YtkckobbedpccfaaGreatDoorQNw
import Derived.LaidMore
import Derived.Stop.Joined
import Derived.ChangeOld
import Derived.SizedLaws
import Derived.Deep.DeepHandedRow
import Derived.Lib.LaidTab
namespace Go.Proofs.YtkckobbedpccfaaGreatDoor
open Go.ChangeShapes Go.WideShapes Go.ChangeAt Go.RowKit
set_option linter.unusedVariables false
set_option maxRecDepth 100000
theorem own : ownKnob Tryz.prog.godebug = none := by kernel_rfl
theorem laidOut : laidOutB Tryz.prog = true := by kernel_rfl
theorem cells22 : Tryz.prog.cellsOf 22 = 1 := by kernel_rfl
theorem cells3 : Tryz.prog.cellsOf 3 = 1 := by kernel_rfl
theorem cells56 : Tryz.prog.cellsOf 35 = 1 := by kernel_rfl
theorem cells60 : Tryz.prog.cellsOf 33 = 5 := by kernel_rfl
theorem cells72 : Tryz.prog.cellsOf 101 = 2 := by kernel_rfl
theorem cells31 : Tryz.prog.cellsOf 31 = 34 := by kernel_rfl
theorem cells25 : Tryz.prog.cellsOf 25 = 18 := by kernel_rfl
theorem cells23 : Tryz.prog.cellsOf 23 = 16 := by kernel_rfl
theorem cells26 : Tryz.prog.cellsOf 26 = 12 := by kernel_rfl
theorem cells27 : Tryz.prog.cellsOf 27 = 1 := by kernel_rfl
theorem cells28 : Tryz.prog.cellsOf 28 = 1 := by kernel_rfl
theorem cells29 : Tryz.prog.cellsOf 29 = 1 := by kernel_rfl

theorem wf_U {x : Int} (h : (Lit.int .u64 x).wf = true) : C.U x := by
  simp [Lit.wf, IntKind.min, IntKind.max, IntKind.signed, IntKind.bits] at h
  exact ⟨by omega, by omega⟩
theorem wf_W {x : Int} (h : (Lit.int .u32 x).wf = true) : 0 ≤ x ∧ x ≤ 4294967295 := by
  simp [Lit.wf, IntKind.min, IntKind.max, IntKind.signed, IntKind.bits] at h
  exact ⟨by omega, by omega⟩
theorem wf_I {x : Int} (h : (Lit.int .i64 x).wf = true) : -9223372036854775808 ≤ x ∧ x < 9223372036854775808 := by
  simp [Lit.wf, IntKind.min, IntKind.max, IntKind.signed, IntKind.bits] at h
  exact ⟨by omega, by omega⟩

theorem fld_i {H : Type} {enc : TypeId × Value → H} {w : World} {base n : Nat} {sp : Nat → Bool} {held : Bool} {t : TypeId} {k : IntKind} {cs : List Value} {x : Option (DataW H × List MemPlace)} (ht : Tryz.prog.underlying t = some (.int k)) (h : DataW.trod enc Tryz.prog w base sp held n t cs = x) (hx : ∃ y, x = some y) :
    ∃ a : Int, cs = [.int k a] ∧ (Lit.int k a).wf = true := by
  obtain ⟨y, rfl⟩ := hx
  obtain ⟨a, e, _, hw⟩ := DataW.trod_int ht h
  exact ⟨a, e, hw⟩
/-- the place of one cell in a list of cells -/
theorem at_drop {l : List Value} {i : Nat} {v : Value} (h : (l.drop i).take 1 = [v]) : l[i]? = some v := by
  have := congrArg (fun l => l[0]?) h
  simpa using this
theorem drop_take {l : List Value} {o n i k : Nat} {v : Value} (h : (((l.drop o).take n).drop i).take k = [v]) (hk : k = 1) : l[o + i]? = some v := by
  subst hk
  have := at_drop h
  rw [List.getElem?_take] at this
  split at this
  · rw [List.getElem?_drop] at this; exact this
  · cases this

/-- what a list of values reads as numbers -/
def nums (l : List Value) (o : Nat) : Nat → Int := fun i => match l[o + i]? with
  | some (.int _ x) => x
  | _ => 0
theorem nums_at {l : List Value} {o i : Nat} {k : IntKind} {x : Int} (h : l[o + i]? = some (.int k x)) : nums l o i = x := by unfold nums; rw [h]

/-- an address that a cell lies at is plain -/
theorem add_plain {w : World} {x : Addr} {v : Value} (h : w.cell? x = some v) : ∃ b off, x = ⟨b, off, none⟩ := by
  obtain ⟨b, off, sp⟩ := x
  cases sp with
  | none => exact ⟨b, off, rfl⟩
  | some s => simp only [World.cell?] at h; split at h <;> cases h

theorem cells_at {w : World} {x : Addr} {n : Nat} {cs : List Value} (h : w.cells? 0 x n = some cs) : cs.length = n ∧ ∀ j, j < n → w.cell? (x.add j) = cs[j]? := by
  unfold World.cells? at h
  rw [if_pos (Nat.zero_le _)] at h
  have key : ∀ (l : List Nat) (cs : List Value), l.mapM (fun i => w.cell? (x.add i)) = some cs → cs.length = l.length ∧ ∀ (j i : Nat), l[j]? = some i → w.cell? (x.add i) = cs[j]? := by
    intro l
    induction l with
    | nil => intro cs h; simp at h; subst h; exact ⟨rfl, fun j i h => by simp at h⟩
    | cons a l ih =>
      intro cs h
      simp only [List.mapM_cons, Option.pure_def, Option.bind_eq_bind, Option.bind_eq_some_iff, Option.some.injEq] at h
      obtain ⟨c, hc, r, hr, rfl⟩ := h
      obtain ⟨e, hj⟩ := ih r hr
      refine ⟨by simp [e], fun j i hi => ?_⟩
      cases j with
      | zero => simp at hi; subst hi; simpa using hc
      | succ j => simpa using hj j i (by simpa using hi)
  obtain ⟨e, hj⟩ := key _ _ h
  refine ⟨by simpa using e, fun j hjn => hj j j (by simp [hjn])⟩

/-- a slice that came in: where it lies, and what each element reads as -/
theorem slice_of {H : Type} {enc : TypeId × Value → H} {w : World} {fuel : Nat} {t e : TypeId} {sz : Nat} {cs : List Value} {x : DataW H × List MemPlace} (ht : Tryz.prog.underlying t = some (.slice e)) (hs : Tryz.prog.cellsOf e = sz) (hpos : 0 < sz)
    (h : DataW.trod enc Tryz.prog w 0 (fun _ => true) true fuel t cs = some x) :
    ∃ ad len cap, cs = [.slice ad len cap] ∧ len ≤ cap ∧ cap ≤ maxLen ∧ (ad = none → len = 0 ∧ cap = 0) ∧ len ≤ Rows.uptoBulk x.1 ∧
      (len = 0 ∨ ∃ B off, ad = some ⟨B, off, none⟩ ∧ B < w.heap.size ∧ ∀ i, i < len → ∃ (ds : List Value) (n : Nat) (y : DataW H × List MemPlace), ds.length = sz ∧ (∀ j, j < sz → w.cell? ⟨B, off + i * sz + j, none⟩ = ds[j]?) ∧ DataW.trod enc Tryz.prog w 0 (fun _ => true) true n e ds = some y) := by
  rcases DataW.trod_slice ht h with ⟨rfl, rfl⟩ | ⟨a, len, cap, elems, rest, n, _, rfl, rfl, _, hle, hm, hel, hall, _, _⟩
  · exact ⟨none, 0, 0, rfl, by omega, by omega, fun _ => ⟨rfl, rfl⟩, by omega, .inl rfl⟩
  · refine ⟨some a, len, cap, rfl, hle, hm, (fun e => by cases e), ?_, ?_⟩
    · have key : ∀ l : List (DataW H), l.length ≤ Rows.uptoBulkAll l := by
        intro l
        induction l with
        | nil => simp [Rows.uptoBulkAll]
        | cons d r ih =>
          have : 1 ≤ Rows.uptoBulk d := by
            cases d with
            | lit l => cases l <;> simp [Rows.uptoBulk]
            | nil => simp [Rows.uptoBulk]
            | ptr d => simp [Rows.uptoBulk]
            | slice elems spare => simp [Rows.uptoBulk]
            | agg parts => simp [Rows.uptoBulk]
            | iface t d => simp [Rows.uptoBulk]
            | map entries => simp [Rows.uptoBulk]
            | held h => simp [Rows.uptoBulk]
          simp only [Rows.uptoBulkAll, List.length_cons]
          omega
      have := key (elems.map (·.1))
      simp only [Rows.uptoBulk]
      simp only [List.length_map] at this
      omega
    · rcases Nat.eq_zero_or_pos len with h0 | hp
      · exact .inl h0
      rw [hs] at hall
      have hw : ∀ i, i < len → ∃ (ds : List Value) (y : DataW H × List MemPlace), ds.length = sz ∧ (∀ j, j < sz → w.cell? ((a.add (i * sz)).add j) = ds[j]?) ∧ DataW.trod enc Tryz.prog w 0 (fun _ => true) true n e ds = some y := by
        intro i hi
        have hb := hall i hi
        rw [List.getElem?_eq_getElem (by omega)] at hb
        obtain ⟨ds, hc, ht'⟩ := Option.bind_eq_some_iff.1 hb
        obtain ⟨hl, hj⟩ := cells_at hc
        exact ⟨ds, _, hl, hj, ht'⟩
      obtain ⟨B, off, rfl⟩ : ∃ B off, a = ⟨B, off, none⟩ := by
        obtain ⟨ds, y, hl, hj, _⟩ := hw 0 hp
        have e0 := hj 0 hpos
        rw [List.getElem?_eq_getElem (show 0 < ds.length by omega)] at e0
        have hx0 : (a.add (0 * sz)).add 0 = a := by cases a; simp [Addr.add]
        rw [hx0] at e0
        exact add_plain e0
      have hpl : ∀ i j, ((⟨B, off, none⟩ : Addr).add (i * sz)).add j = ⟨B, off + i * sz + j, none⟩ := by
        intro i j
        rw [Addr.add_mid, Addr.add_mid]
      refine .inr ⟨B, off, rfl, ?_, fun i hi => ?_⟩
      · obtain ⟨ds, y, hl, hj, _⟩ := hw 0 hp
        have e0 := hj 0 hpos
        rw [List.getElem?_eq_getElem (show 0 < ds.length by omega), hpl] at e0
        exact World.block_lt_of_cell? w _ e0
      · obtain ⟨ds, y, hl, hj, ht'⟩ := hw i hi
        exact ⟨ds, n, y, hl, (fun j hj' => by rw [← hpl]; exact hj j hj'), ht'⟩

/-- a list with an element for each place -/
theorem list_for {α : Type} (z : α) {p : Nat → α → Prop} : ∀ n, (∀ i, i < n → ∃ s, p i s) → ∃ l : List α, l.length = n ∧ ∀ i, i < n → p i (l.getD i z)
  | 0, _ => ⟨[], rfl, fun i h => by omega⟩
  | n + 1, h => by
    obtain ⟨l, hl, hp⟩ := list_for z n (fun i hi => h i (by omega))
    obtain ⟨s, hs⟩ := h n (by omega)
    refine ⟨l ++ [s], by simp [hl], fun i hi => ?_⟩
    rcases Nat.lt_or_ge i n with hlt | hge
    · have : (l ++ [s]).getD i z = l.getD i z := by simp [List.getD, List.getElem?_append_left (show i < l.length by omega)]
      rw [this]; exact hp i hlt
    · obtain rfl : i = n := by omega
      have : (l ++ [s]).getD i z = s := by simp [List.getD, ← hl]
      rw [this]; exact hs
theorem getD_out {α : Type} {l : List α} {i : Nat} {z : α} (h : l.length ≤ i) : l.getD i z = z := by simp [List.getD, List.getElem?_eq_none h]

theorem words_of {H : Type} {enc : TypeId × Value → H} {w : World} {fuel : Nat} {cs : List Value} {x : DataW H × List MemPlace} (h : DataW.trod enc Tryz.prog w 0 (fun _ => true) true fuel 28 cs = some x) :
    ∃ ad len cap ws, cs = [.slice ad len cap] ∧ len ≤ cap ∧ cap ≤ 9223372036854775807 ∧ (ad = none → len = 0 ∧ cap = 0) ∧ len ≤ Rows.uptoBulk x.1 ∧ WordsIn w ad len ws := by
  obtain ⟨ad, len, cap, rfl, h1, h2, h3, h4, h5⟩ := slice_of Tryz.underlying28 cells56 (by decide) h
  rcases h5 with rfl | ⟨B, off, rfl, hB, hc⟩
  · exact ⟨ad, 0, cap, [], rfl, h1, by unfold maxLen at h2; omega, h3, h4, rfl, .inl rfl, fun i => by simp⟩
  · obtain ⟨ws, hl, hp⟩ := list_for (0 : Int) (p := fun i z => w.cell? ⟨B, off + i, none⟩ = some (.int .u32 z) ∧ 0 ≤ z ∧ z ≤ 4294967295) len (fun i hi => by
      obtain ⟨ds, n, y, e1, e2, e3⟩ := hc i hi
      obtain ⟨z, rfl, hw⟩ := fld_i Tryz.underlying35 e3 ⟨_, rfl⟩
      have := e2 0 (by decide)
      simp only [Nat.mul_one, Nat.add_zero] at this
      exact ⟨z, by simpa using this, wf_W hw⟩)
    refine ⟨_, len, cap, ws, rfl, h1, by unfold maxLen at h2; omega, h3, h4, hl, .inr ⟨B, off, rfl, hB, fun i hi => (hp i hi).1⟩, fun i => ?_⟩
    rcases Nat.lt_or_ge i len with hi | hi
    · exact (hp i hi).2
    · rw [getD_out (by omega)]; omega
theorem pokes_of {H : Type} {enc : TypeId × Value → H} {w : World} {fuel : Nat} {cs : List Value} {x : DataW H × List MemPlace} (h : DataW.trod enc Tryz.prog w 0 (fun _ => true) true fuel 29 cs = some x) :
    ∃ ad len cap ps, cs = [.slice ad len cap] ∧ len ≤ cap ∧ cap ≤ 9223372036854775807 ∧ PokesIn w ad len ps := by
  obtain ⟨ad, len, cap, rfl, h1, h2, h3, h4, h5⟩ := slice_of Tryz.underlying29 cells72 (by decide) h
  rcases h5 with rfl | ⟨B, off, rfl, hB, hc⟩
  · exact ⟨ad, 0, cap, [], rfl, h1, by unfold maxLen at h2; omega, rfl, .inl rfl, fun i => ⟨⟨by simp, by simp⟩, by simp, by simp⟩⟩
  · obtain ⟨ps, hl, hp⟩ := list_for ((0, 0) : Int × Int) (p := fun i z => (w.cell? ⟨B, off + i * 2, none⟩ = some (.int .u64 z.1) ∧ w.cell? ⟨B, off + i * 2 + 1, none⟩ = some (.int .u64 z.2)) ∧ C.U z.1 ∧ C.U z.2) len (fun i hi => by
      obtain ⟨ds, n, y, e1, e2, e3⟩ := hc i hi
      obtain ⟨xs, m, _, _, _, hlen, hfs⟩ := DataW.trod_struct Tryz.underlying101 e3
      have hl : xs.length = 2 := by simpa using hlen
      have e : ∀ i, i < 2 → ∃ y, xs[i]? = some y := fun i hi => ⟨_, List.getElem?_eq_getElem (by omega)⟩
      obtain ⟨a0, q0, w0⟩ := fld_i Tryz.underlying22 (show DataW.trod enc Tryz.prog w 0 (fun _ => true) true m 22 ((ds.drop 0).take (Tryz.prog.cellsOf 22)) = xs[0]? from hfs 0 _ rfl) (e 0 (by decide))
      obtain ⟨a1, q1, w1⟩ := fld_i Tryz.underlying22 (show DataW.trod enc Tryz.prog w 0 (fun _ => true) true m 22 ((ds.drop 1).take (Tryz.prog.cellsOf 22)) = xs[1]? from hfs 1 _ rfl) (e 1 (by decide))
      rw [cells22] at q0 q1
      have g0 := at_drop q0
      have g1 := at_drop q1
      have k0 := e2 0 (by decide)
      have k1 := e2 1 (by decide)
      rw [Nat.add_zero] at k0
      exact ⟨(a0, a1), ⟨k0.trans g0, k1.trans g1⟩, wf_U w0, wf_U w1⟩)
    refine ⟨_, len, cap, ps, rfl, h1, by unfold maxLen at h2; omega, hl, .inr ⟨B, off, rfl, hB, fun i hi => (hp i hi).1⟩, fun i => ?_⟩
    rcases Nat.lt_or_ge i len with hi | hi
    · exact (hp i hi).2
    · rw [getD_out (by omega)]; exact ⟨⟨by decide, by decide⟩, by decide, by decide⟩
theorem insns_of {H : Type} {enc : TypeId × Value → H} {w : World} {fuel : Nat} {cs : List Value} {x : DataW H × List MemPlace} (h : DataW.trod enc Tryz.prog w 0 (fun _ => true) true fuel 27 cs = some x) :
    ∃ ad len cap xs, cs = [.slice ad len cap] ∧ len ≤ cap ∧ cap ≤ 9223372036854775807 ∧ len ≤ Rows.uptoBulk x.1 ∧ InsnsIn w ad len xs := by
  obtain ⟨ad, len, cap, rfl, h1, h2, h3, h4, h5⟩ := slice_of Tryz.underlying27 cells60 (by decide) h
  rcases h5 with rfl | ⟨B, off, rfl, hB, hc⟩
  · exact ⟨ad, 0, cap, [], rfl, h1, by unfold maxLen at h2; omega, h4, rfl, .inl rfl⟩
  · obtain ⟨is, hl, hp⟩ := list_for I5.zero (p := fun i z => w.cell? ⟨B, off + i * 5, none⟩ = some (.int .i64 z.op) ∧ w.cell? ⟨B, off + i * 5 + 1, none⟩ = some (.int .i64 z.rd) ∧ w.cell? ⟨B, off + i * 5 + 2, none⟩ = some (.int .i64 z.rs1) ∧ w.cell? ⟨B, off + i * 5 + 3, none⟩ = some (.int .i64 z.rs2) ∧ w.cell? ⟨B, off + i * 5 + 4, none⟩ = some (.int .i64 z.imm)) len (fun i hi => by
      obtain ⟨ds, n, y, e1, e2, e3⟩ := hc i hi
      obtain ⟨xs, m, _, _, _, hlen, hfs⟩ := DataW.trod_struct Tryz.underlying33 e3
      have hl : xs.length = 5 := by simpa using hlen
      have e : ∀ i, i < 5 → ∃ y, xs[i]? = some y := fun i hi => ⟨_, List.getElem?_eq_getElem (by omega)⟩
      obtain ⟨a0, q0, _⟩ := fld_i Tryz.underlying3 (show DataW.trod enc Tryz.prog w 0 (fun _ => true) true m 3 ((ds.drop 0).take (Tryz.prog.cellsOf 3)) = xs[0]? from hfs 0 _ rfl) (e 0 (by decide))
      obtain ⟨a1, q1, _⟩ := fld_i Tryz.underlying3 (show DataW.trod enc Tryz.prog w 0 (fun _ => true) true m 3 ((ds.drop 1).take (Tryz.prog.cellsOf 3)) = xs[1]? from hfs 1 _ rfl) (e 1 (by decide))
      obtain ⟨a2, q2, _⟩ := fld_i Tryz.underlying3 (show DataW.trod enc Tryz.prog w 0 (fun _ => true) true m 3 ((ds.drop 2).take (Tryz.prog.cellsOf 3)) = xs[2]? from hfs 2 _ rfl) (e 2 (by decide))
      obtain ⟨a3, q3, _⟩ := fld_i Tryz.underlying3 (show DataW.trod enc Tryz.prog w 0 (fun _ => true) true m 3 ((ds.drop 3).take (Tryz.prog.cellsOf 3)) = xs[3]? from hfs 3 _ rfl) (e 3 (by decide))
      obtain ⟨a4, q4, _⟩ := fld_i Tryz.underlying3 (show DataW.trod enc Tryz.prog w 0 (fun _ => true) true m 3 ((ds.drop 4).take (Tryz.prog.cellsOf 3)) = xs[4]? from hfs 4 _ rfl) (e 4 (by decide))
      rw [cells3] at q0 q1 q2 q3 q4
      have k0 := e2 0 (by decide)
      rw [Nat.add_zero] at k0
      exact ⟨⟨a0, a1, a2, a3, a4⟩, k0.trans (at_drop q0), (e2 1 (by decide)).trans (at_drop q1), (e2 2 (by decide)).trans (at_drop q2), (e2 3 (by decide)).trans (at_drop q3), (e2 4 (by decide)).trans (at_drop q4)⟩)
    exact ⟨_, len, cap, is, rfl, h1, by unfold maxLen at h2; omega, h4, hl, .inr ⟨B, off, rfl, hB, fun i hi => hp i hi⟩⟩

theorem okWide_agg {fs : Array Field} {t : TypeId} {w : World} {r : Reach} {b0 : Nat} {v : Value} (ht : Tryz.prog.underlying t = some (.struct fs)) (h : Value.okWide Tryz.prog w r b0 t v) : ∃ cs, v = .agg cs ∧ cs.size = Tryz.prog.cellsOf t := by
  simp only [Value.okWide, ht] at h
  obtain ⟨cs, h1, h2, _⟩ := h
  exact ⟨cs, h1, h2⟩
/-- a state that came in -/
theorem open_state {H : Type} {enc : TypeId × Value → H} {w : World} {b0 : Nat} {r : Reach} {v : Value} {d : DataW H} {p : List MemPlace}
    (hv : Value.okWide Tryz.prog w r b0 31 v) (h : DataW.Trod enc Tryz.prog w 0 (fun _ => true) true 31 v d p) (hb : Rows.uptoBulk d ≤ 1048576) :
    ∃ cs X R pc mode sec iN wN pN xs ws ps ia wa pa iC wC pC, v = .agg cs ∧ Given w cs X R pc mode sec iN wN pN xs ws ps ia wa pa iC wC pC := by
  obtain ⟨⟨l⟩, rfl, hsz⟩ := okWide_agg Tryz.underlying31 hv
  obtain ⟨fuel, hf⟩ := h
  have hf' : DataW.trod enc Tryz.prog w 0 (fun _ => true) true fuel 31 l = some (d, p) := by simpa [Value.cells] using hf
  obtain ⟨xs, m, _, hx, hl, hlen, hfs⟩ := DataW.trod_struct Tryz.underlying31 hf'
  rw [cells31] at hl
  have hl6 : xs.length = 6 := by simpa using hlen
  have e : ∀ i, i < 6 → ∃ y, xs[i]? = some y := fun i hi => ⟨_, List.getElem?_eq_getElem (by omega)⟩
  obtain ⟨y0, g0⟩ := e 0 (by decide)
  obtain ⟨y1, g1⟩ := e 1 (by decide)
  obtain ⟨y2, g2⟩ := e 2 (by decide)
  obtain ⟨y3, g3⟩ := e 3 (by decide)
  obtain ⟨y4, g4⟩ := e 4 (by decide)
  have t0 := (show DataW.trod enc Tryz.prog w 0 (fun _ => true) true m 25 ((l.drop 0).take (Tryz.prog.cellsOf 25)) = xs[0]? from hfs 0 _ rfl).trans g0
  have t1 := (show DataW.trod enc Tryz.prog w 0 (fun _ => true) true m 26 ((l.drop 18).take (Tryz.prog.cellsOf 26)) = xs[1]? from hfs 1 _ rfl).trans g1
  have t2 := (show DataW.trod enc Tryz.prog w 0 (fun _ => true) true m 27 ((l.drop 30).take (Tryz.prog.cellsOf 27)) = xs[2]? from hfs 2 _ rfl).trans g2
  have t3 := (show DataW.trod enc Tryz.prog w 0 (fun _ => true) true m 28 ((l.drop 31).take (Tryz.prog.cellsOf 28)) = xs[3]? from hfs 3 _ rfl).trans g3
  have t4 := (show DataW.trod enc Tryz.prog w 0 (fun _ => true) true m 29 ((l.drop 32).take (Tryz.prog.cellsOf 29)) = xs[4]? from hfs 4 _ rfl).trans g4
  obtain ⟨sec, t5, wsec⟩ := fld_i Tryz.underlying3 (show DataW.trod enc Tryz.prog w 0 (fun _ => true) true m 3 ((l.drop 33).take (Tryz.prog.cellsOf 3)) = xs[5]? from hfs 5 _ rfl) (e 5 (by decide))
  rw [cells25] at t0
  rw [cells26] at t1
  rw [cells27] at t2
  rw [cells28] at t3
  rw [cells29] at t4
  rw [cells3] at t5
  -- the registers
  obtain ⟨rs, m0, _, _, _, hlen0, hfs0⟩ := DataW.trod_struct Tryz.underlying25 t0
  have hl3 : rs.length = 3 := by simpa using hlen0
  have e0 : ∀ i, i < 3 → ∃ y, rs[i]? = some y := fun i hi => ⟨_, List.getElem?_eq_getElem (by omega)⟩
  obtain ⟨z0, j0⟩ := e0 0 (by decide)
  have u0 := (show DataW.trod enc Tryz.prog w 0 (fun _ => true) true m0 23 ((((l.drop 0).take 18).drop 0).take (Tryz.prog.cellsOf 23)) = rs[0]? from hfs0 0 _ rfl).trans j0
  obtain ⟨pc, u1, wpc⟩ := fld_i Tryz.underlying22 (show DataW.trod enc Tryz.prog w 0 (fun _ => true) true m0 22 ((((l.drop 0).take 18).drop 16).take (Tryz.prog.cellsOf 22)) = rs[1]? from hfs0 1 _ rfl) (e0 1 (by decide))
  obtain ⟨mode, u2, wmode⟩ := fld_i Tryz.underlying3 (show DataW.trod enc Tryz.prog w 0 (fun _ => true) true m0 3 ((((l.drop 0).take 18).drop 17).take (Tryz.prog.cellsOf 3)) = rs[2]? from hfs0 2 _ rfl) (e0 2 (by decide))
  rw [cells23] at u0
  rw [cells22] at u1
  rw [cells3] at u2
  have p16 : l[0 + 16]? = some (.int .u64 pc) := drop_take u1 rfl
  have p17 : l[0 + 17]? = some (.int .i64 mode) := drop_take u2 rfl
  obtain ⟨ar, m1, _, _, _, hlenA, hfsA⟩ := DataW.trod_array Tryz.underlying23 u0
  have hX : ∀ i, i < 16 → ∃ x, l[0 + i]? = some (.int .u64 x) ∧ C.U x := fun i hi => by
    obtain ⟨x, q, hw⟩ := fld_i Tryz.underlying22 (hfsA i hi) ⟨_, List.getElem?_eq_getElem (by omega)⟩
    rw [cells22, Nat.mul_one] at q
    exact ⟨x, by simpa [List.getElem?_take, hi, show i < 18 by omega] using at_drop q, wf_U hw⟩
  -- the control registers
  obtain ⟨bs, m2, _, _, _, hlenB, hfsB⟩ := DataW.trod_array Tryz.underlying26 t1
  have hR : ∀ i, i < 12 → ∃ x, l[18 + i]? = some (.int .u64 x) ∧ C.U x := fun i hi => by
    obtain ⟨x, q, hw⟩ := fld_i Tryz.underlying22 (hfsB i hi) ⟨_, List.getElem?_eq_getElem (by omega)⟩
    rw [cells22, Nat.mul_one] at q
    exact ⟨x, drop_take q rfl, wf_U hw⟩
  -- the slices
  obtain ⟨ia, iN, iC, is, s2, i1, i2, i3, i4⟩ := insns_of t2
  obtain ⟨wa, wN, wC, ws, s3, w1, w2, w3, w4, w5⟩ := words_of t3
  obtain ⟨pa, pN, pC, ps, s4, q1, q2, q3⟩ := pokes_of t4
  have k30 : l[30]? = some (.slice ia iN iC) := at_drop s2
  have k31 : l[31]? = some (.slice wa wN wC) := at_drop s3
  have k32 : l[32]? = some (.slice pa pN pC) := at_drop s4
  have k33 : l[33]? = some (.int .i64 sec) := at_drop t5
  have hbulk : Rows.uptoBulk y2.1 + Rows.uptoBulk y3.1 ≤ 1048576 := by
    obtain ⟨rfl, _⟩ : d = .agg (xs.map (·.1)) ∧ p = xs.flatMap (·.2) := by simpa using hx
    match xs, hl6, g2, g3 with
    | [a0, a1, a2, a3, a4, a5], _, g2, g3 =>
      simp at g2 g3
      subst g2 g3
      simp only [Rows.uptoBulk, Rows.uptoBulkAll, List.map_cons, List.map_nil] at hb
      omega
  have hXn : ∀ i, i < 16 → l[0 + i]? = some (.int .u64 (nums l 0 i)) ∧ C.U (nums l 0 i) := fun i hi => by
    obtain ⟨x, h1, h2⟩ := hX i hi
    rw [nums_at h1]; exact ⟨h1, h2⟩
  have hRn : ∀ i, i < 12 → l[18 + i]? = some (.int .u64 (nums l 18 i)) ∧ C.U (nums l 18 i) := fun i hi => by
    obtain ⟨x, h1, h2⟩ := hR i hi
    rw [nums_at h1]; exact ⟨h1, h2⟩
  refine ⟨⟨l⟩, nums l 0, nums l 18, pc, mode, sec, iN, wN, pN, is, ws, ps, ia, wa, pa, iC, wC, pC, rfl, ?_⟩
  refine ⟨fun n hn => by simpa using (hXn n hn).1, by simpa using p16, by simpa using p17, fun n hn => by simpa using (hRn n hn).1, by simpa using k30, by simpa using k31, by simpa using k32, by simpa using k33, by simpa using hl, ?_, fun n hn => (hXn n hn).2, wf_U wpc, fun n hn => (hRn n hn).2, i4, i1, i2, w5, w1, w2, w3, q3, q1, q2, by omega⟩
  refine Array.all_eq_true_iff_forall_mem.2 (fun v hv => ?_)
  obtain ⟨i, hi, rfl⟩ := List.getElem_of_mem (show v ∈ l by simpa using hv)
  have hi34 : i < 34 := by omega
  have hg : l[i]? = some l[i] := List.getElem?_eq_getElem hi
  generalize l[i] = v at *
  by_cases h16 : i < 16
  · have := (hXn i h16).1
    rw [Nat.zero_add, hg] at this
    cases this; rfl
  · by_cases h18 : i < 18
    · have : i = 16 ∨ i = 17 := by omega
      rcases this with rfl | rfl
      · rw [Nat.zero_add, hg] at p16; cases p16; rfl
      · rw [Nat.zero_add, hg] at p17; cases p17; rfl
    · by_cases h30 : i < 30
      · have := (hRn (i - 18) (by omega)).1
        rw [show 18 + (i - 18) = i by omega, hg] at this
        cases this; rfl
      · have : i = 30 ∨ i = 31 ∨ i = 32 ∨ i = 33 := by omega
        rcases this with rfl | rfl | rfl | rfl
        · rw [hg] at k30; cases k30; rfl
        · rw [hg] at k31; cases k31; rfl
        · rw [hg] at k32; cases k32; rfl
        · rw [hg] at k33; cases k33; rfl
end Go.Proofs.YtkckobbedpccfaaGreatDoor
namespace Go.Proofs.YtkckobbedpccfaaGreatDoor
open Go.ChangeShapes Go.WideShapes Go.ChangeAt Go.RowKit
set_option linter.unusedVariables false
set_option maxRecDepth 100000

/-- a state by its thirty-four cells -/
structure Looks (cs : Array Value) (X R : Nat → Int) (pc mode sec : Int) (vi vw vp : Value) : Prop where
  kX : ∀ n, n < 16 → cs[n]? = some (.int .u64 (X n))
  k16 : cs[16]? = some (.int .u64 pc)
  k17 : cs[17]? = some (.int .i64 mode)
  kR : ∀ n, n < 12 → cs[18 + n]? = some (.int .u64 (R n))
  k30 : cs[30]? = some vi
  k31 : cs[31]? = some vw
  k32 : cs[32]? = some vp
  k33 : cs[33]? = some (.int .i64 sec)
  size : cs.size = 34
  hX : ∀ n, n < 16 → C.U (X n)
theorem open_looks {H : Type} {enc : TypeId × Value → H} {w : World} {b0 : Nat} {r : Reach} {v : Value} {d : DataW H} {p : List MemPlace}
    (hv : Value.okWide Tryz.prog w r b0 31 v) (h : DataW.Trod enc Tryz.prog w 0 (fun _ => true) true 31 v d p) :
    ∃ cs X R pc mode sec vi vw vp, v = .agg cs ∧ Looks cs X R pc mode sec vi vw vp := by
  obtain ⟨⟨l⟩, rfl, hsz⟩ := okWide_agg Tryz.underlying31 hv
  obtain ⟨fuel, hf⟩ := h
  have hf' : DataW.trod enc Tryz.prog w 0 (fun _ => true) true fuel 31 l = some (d, p) := by simpa [Value.cells] using hf
  obtain ⟨xs, m, _, hx, hl, hlen, hfs⟩ := DataW.trod_struct Tryz.underlying31 hf'
  rw [cells31] at hl
  have hl6 : xs.length = 6 := by simpa using hlen
  have e : ∀ i, i < 6 → ∃ y, xs[i]? = some y := fun i hi => ⟨_, List.getElem?_eq_getElem (by omega)⟩
  obtain ⟨y0, g0⟩ := e 0 (by decide)
  obtain ⟨y1, g1⟩ := e 1 (by decide)
  obtain ⟨y2, g2⟩ := e 2 (by decide)
  obtain ⟨y3, g3⟩ := e 3 (by decide)
  obtain ⟨y4, g4⟩ := e 4 (by decide)
  have t0 := (show DataW.trod enc Tryz.prog w 0 (fun _ => true) true m 25 ((l.drop 0).take (Tryz.prog.cellsOf 25)) = xs[0]? from hfs 0 _ rfl).trans g0
  have t1 := (show DataW.trod enc Tryz.prog w 0 (fun _ => true) true m 26 ((l.drop 18).take (Tryz.prog.cellsOf 26)) = xs[1]? from hfs 1 _ rfl).trans g1
  have t2 := (show DataW.trod enc Tryz.prog w 0 (fun _ => true) true m 27 ((l.drop 30).take (Tryz.prog.cellsOf 27)) = xs[2]? from hfs 2 _ rfl).trans g2
  have t3 := (show DataW.trod enc Tryz.prog w 0 (fun _ => true) true m 28 ((l.drop 31).take (Tryz.prog.cellsOf 28)) = xs[3]? from hfs 3 _ rfl).trans g3
  have t4 := (show DataW.trod enc Tryz.prog w 0 (fun _ => true) true m 29 ((l.drop 32).take (Tryz.prog.cellsOf 29)) = xs[4]? from hfs 4 _ rfl).trans g4
  obtain ⟨sec, t5, wsec⟩ := fld_i Tryz.underlying3 (show DataW.trod enc Tryz.prog w 0 (fun _ => true) true m 3 ((l.drop 33).take (Tryz.prog.cellsOf 3)) = xs[5]? from hfs 5 _ rfl) (e 5 (by decide))
  rw [cells25] at t0
  rw [cells26] at t1
  rw [cells27] at t2
  rw [cells28] at t3
  rw [cells29] at t4
  rw [cells3] at t5
  -- the registers
  obtain ⟨rs, m0, _, _, _, hlen0, hfs0⟩ := DataW.trod_struct Tryz.underlying25 t0
  have hl3 : rs.length = 3 := by simpa using hlen0
  have e0 : ∀ i, i < 3 → ∃ y, rs[i]? = some y := fun i hi => ⟨_, List.getElem?_eq_getElem (by omega)⟩
  obtain ⟨z0, j0⟩ := e0 0 (by decide)
  have u0 := (show DataW.trod enc Tryz.prog w 0 (fun _ => true) true m0 23 ((((l.drop 0).take 18).drop 0).take (Tryz.prog.cellsOf 23)) = rs[0]? from hfs0 0 _ rfl).trans j0
  obtain ⟨pc, u1, wpc⟩ := fld_i Tryz.underlying22 (show DataW.trod enc Tryz.prog w 0 (fun _ => true) true m0 22 ((((l.drop 0).take 18).drop 16).take (Tryz.prog.cellsOf 22)) = rs[1]? from hfs0 1 _ rfl) (e0 1 (by decide))
  obtain ⟨mode, u2, wmode⟩ := fld_i Tryz.underlying3 (show DataW.trod enc Tryz.prog w 0 (fun _ => true) true m0 3 ((((l.drop 0).take 18).drop 17).take (Tryz.prog.cellsOf 3)) = rs[2]? from hfs0 2 _ rfl) (e0 2 (by decide))
  rw [cells23] at u0
  rw [cells22] at u1
  rw [cells3] at u2
  have p16 : l[0 + 16]? = some (.int .u64 pc) := drop_take u1 rfl
  have p17 : l[0 + 17]? = some (.int .i64 mode) := drop_take u2 rfl
  obtain ⟨ar, m1, _, _, _, hlenA, hfsA⟩ := DataW.trod_array Tryz.underlying23 u0
  have hX : ∀ i, i < 16 → ∃ x, l[0 + i]? = some (.int .u64 x) ∧ C.U x := fun i hi => by
    obtain ⟨x, q, hw⟩ := fld_i Tryz.underlying22 (hfsA i hi) ⟨_, List.getElem?_eq_getElem (by omega)⟩
    rw [cells22, Nat.mul_one] at q
    exact ⟨x, by simpa [List.getElem?_take, hi, show i < 18 by omega] using at_drop q, wf_U hw⟩
  -- the control registers
  obtain ⟨bs, m2, _, _, _, hlenB, hfsB⟩ := DataW.trod_array Tryz.underlying26 t1
  have hR : ∀ i, i < 12 → ∃ x, l[18 + i]? = some (.int .u64 x) ∧ C.U x := fun i hi => by
    obtain ⟨x, q, hw⟩ := fld_i Tryz.underlying22 (hfsB i hi) ⟨_, List.getElem?_eq_getElem (by omega)⟩
    rw [cells22, Nat.mul_one] at q
    exact ⟨x, drop_take q rfl, wf_U hw⟩
  -- the slices
  obtain ⟨ia, iN, iC, is, s2, i1, i2, i3, i4⟩ := insns_of t2
  obtain ⟨wa, wN, wC, ws, s3, w1, w2, w3, w4, w5⟩ := words_of t3
  obtain ⟨pa, pN, pC, ps, s4, q1, q2, q3⟩ := pokes_of t4
  have k30 : l[30]? = some (.slice ia iN iC) := at_drop s2
  have k31 : l[31]? = some (.slice wa wN wC) := at_drop s3
  have k32 : l[32]? = some (.slice pa pN pC) := at_drop s4
  have k33 : l[33]? = some (.int .i64 sec) := at_drop t5
  have hXn : ∀ i, i < 16 → l[0 + i]? = some (.int .u64 (nums l 0 i)) ∧ C.U (nums l 0 i) := fun i hi => by
    obtain ⟨x, h1, h2⟩ := hX i hi
    rw [nums_at h1]; exact ⟨h1, h2⟩
  have hRn : ∀ i, i < 12 → l[18 + i]? = some (.int .u64 (nums l 18 i)) ∧ C.U (nums l 18 i) := fun i hi => by
    obtain ⟨x, h1, h2⟩ := hR i hi
    rw [nums_at h1]; exact ⟨h1, h2⟩
  exact ⟨⟨l⟩, nums l 0, nums l 18, pc, mode, sec, _, _, _, rfl, fun n hn => by simpa using (hXn n hn).1, by simpa using p16, by simpa using p17, fun n hn => by simpa using (hRn n hn).1, by simpa using k30, by simpa using k31, by simpa using k32, by simpa using k33, by simpa using hl, fun n hn => (hXn n hn).2⟩
end Go.Proofs.YtkckobbedpccfaaGreatDoor
namespace Go.Proofs.YtkckobbedpccfaaGreatDoor
open Go.ChangeShapes Go.WideShapes Go.ChangeAt Go.RowKit
set_option linter.unusedVariables false
set_option maxRecDepth 100000
theorem open_lik {H : Type} {enc : TypeId × Value → H} {w : World} {b0 : Nat} {r : Reach} {v : Value} {d : DataW H} {p : List MemPlace}
    (hv : Value.okWide Tryz.prog w r b0 31 v) (h : DataW.Trod enc Tryz.prog w 0 (fun _ => true) true 31 v d p) :
    ∃ cs X R pc mode sec ia iN iC vw pa pN pC xs ps, v = .agg cs ∧ Looks cs X R pc mode sec (.slice ia iN iC) vw (.slice pa pN pC) ∧ iN ≤ iC ∧ iC ≤ 9223372036854775807 ∧ InsnsIn w ia iN xs ∧ pN ≤ pC ∧ pC ≤ 9223372036854775807 ∧ PokesIn w pa pN ps := by
  obtain ⟨⟨l⟩, rfl, hsz⟩ := okWide_agg Tryz.underlying31 hv
  obtain ⟨fuel, hf⟩ := h
  have hf' : DataW.trod enc Tryz.prog w 0 (fun _ => true) true fuel 31 l = some (d, p) := by simpa [Value.cells] using hf
  obtain ⟨xs, m, _, hx, hl, hlen, hfs⟩ := DataW.trod_struct Tryz.underlying31 hf'
  rw [cells31] at hl
  have hl6 : xs.length = 6 := by simpa using hlen
  have e : ∀ i, i < 6 → ∃ y, xs[i]? = some y := fun i hi => ⟨_, List.getElem?_eq_getElem (by omega)⟩
  obtain ⟨y0, g0⟩ := e 0 (by decide)
  obtain ⟨y1, g1⟩ := e 1 (by decide)
  obtain ⟨y2, g2⟩ := e 2 (by decide)
  obtain ⟨y3, g3⟩ := e 3 (by decide)
  obtain ⟨y4, g4⟩ := e 4 (by decide)
  have t0 := (show DataW.trod enc Tryz.prog w 0 (fun _ => true) true m 25 ((l.drop 0).take (Tryz.prog.cellsOf 25)) = xs[0]? from hfs 0 _ rfl).trans g0
  have t1 := (show DataW.trod enc Tryz.prog w 0 (fun _ => true) true m 26 ((l.drop 18).take (Tryz.prog.cellsOf 26)) = xs[1]? from hfs 1 _ rfl).trans g1
  have t2 := (show DataW.trod enc Tryz.prog w 0 (fun _ => true) true m 27 ((l.drop 30).take (Tryz.prog.cellsOf 27)) = xs[2]? from hfs 2 _ rfl).trans g2
  have t3 := (show DataW.trod enc Tryz.prog w 0 (fun _ => true) true m 28 ((l.drop 31).take (Tryz.prog.cellsOf 28)) = xs[3]? from hfs 3 _ rfl).trans g3
  have t4 := (show DataW.trod enc Tryz.prog w 0 (fun _ => true) true m 29 ((l.drop 32).take (Tryz.prog.cellsOf 29)) = xs[4]? from hfs 4 _ rfl).trans g4
  obtain ⟨sec, t5, wsec⟩ := fld_i Tryz.underlying3 (show DataW.trod enc Tryz.prog w 0 (fun _ => true) true m 3 ((l.drop 33).take (Tryz.prog.cellsOf 3)) = xs[5]? from hfs 5 _ rfl) (e 5 (by decide))
  rw [cells25] at t0
  rw [cells26] at t1
  rw [cells27] at t2
  rw [cells28] at t3
  rw [cells29] at t4
  rw [cells3] at t5
  -- the registers
  obtain ⟨rs, m0, _, _, _, hlen0, hfs0⟩ := DataW.trod_struct Tryz.underlying25 t0
  have hl3 : rs.length = 3 := by simpa using hlen0
  have e0 : ∀ i, i < 3 → ∃ y, rs[i]? = some y := fun i hi => ⟨_, List.getElem?_eq_getElem (by omega)⟩
  obtain ⟨z0, j0⟩ := e0 0 (by decide)
  have u0 := (show DataW.trod enc Tryz.prog w 0 (fun _ => true) true m0 23 ((((l.drop 0).take 18).drop 0).take (Tryz.prog.cellsOf 23)) = rs[0]? from hfs0 0 _ rfl).trans j0
  obtain ⟨pc, u1, wpc⟩ := fld_i Tryz.underlying22 (show DataW.trod enc Tryz.prog w 0 (fun _ => true) true m0 22 ((((l.drop 0).take 18).drop 16).take (Tryz.prog.cellsOf 22)) = rs[1]? from hfs0 1 _ rfl) (e0 1 (by decide))
  obtain ⟨mode, u2, wmode⟩ := fld_i Tryz.underlying3 (show DataW.trod enc Tryz.prog w 0 (fun _ => true) true m0 3 ((((l.drop 0).take 18).drop 17).take (Tryz.prog.cellsOf 3)) = rs[2]? from hfs0 2 _ rfl) (e0 2 (by decide))
  rw [cells23] at u0
  rw [cells22] at u1
  rw [cells3] at u2
  have p16 : l[0 + 16]? = some (.int .u64 pc) := drop_take u1 rfl
  have p17 : l[0 + 17]? = some (.int .i64 mode) := drop_take u2 rfl
  obtain ⟨ar, m1, _, _, _, hlenA, hfsA⟩ := DataW.trod_array Tryz.underlying23 u0
  have hX : ∀ i, i < 16 → ∃ x, l[0 + i]? = some (.int .u64 x) ∧ C.U x := fun i hi => by
    obtain ⟨x, q, hw⟩ := fld_i Tryz.underlying22 (hfsA i hi) ⟨_, List.getElem?_eq_getElem (by omega)⟩
    rw [cells22, Nat.mul_one] at q
    exact ⟨x, by simpa [List.getElem?_take, hi, show i < 18 by omega] using at_drop q, wf_U hw⟩
  -- the control registers
  obtain ⟨bs, m2, _, _, _, hlenB, hfsB⟩ := DataW.trod_array Tryz.underlying26 t1
  have hR : ∀ i, i < 12 → ∃ x, l[18 + i]? = some (.int .u64 x) ∧ C.U x := fun i hi => by
    obtain ⟨x, q, hw⟩ := fld_i Tryz.underlying22 (hfsB i hi) ⟨_, List.getElem?_eq_getElem (by omega)⟩
    rw [cells22, Nat.mul_one] at q
    exact ⟨x, drop_take q rfl, wf_U hw⟩
  -- the slices
  obtain ⟨ia, iN, iC, is, s2, i1, i2, i3, i4⟩ := insns_of t2
  obtain ⟨wa, wN, wC, ws, s3, w1, w2, w3, w4, w5⟩ := words_of t3
  obtain ⟨pa, pN, pC, ps, s4, q1, q2, q3⟩ := pokes_of t4
  have k30 : l[30]? = some (.slice ia iN iC) := at_drop s2
  have k31 : l[31]? = some (.slice wa wN wC) := at_drop s3
  have k32 : l[32]? = some (.slice pa pN pC) := at_drop s4
  have k33 : l[33]? = some (.int .i64 sec) := at_drop t5
  have hXn : ∀ i, i < 16 → l[0 + i]? = some (.int .u64 (nums l 0 i)) ∧ C.U (nums l 0 i) := fun i hi => by
    obtain ⟨x, h1, h2⟩ := hX i hi
    rw [nums_at h1]; exact ⟨h1, h2⟩
  have hRn : ∀ i, i < 12 → l[18 + i]? = some (.int .u64 (nums l 18 i)) ∧ C.U (nums l 18 i) := fun i hi => by
    obtain ⟨x, h1, h2⟩ := hR i hi
    rw [nums_at h1]; exact ⟨h1, h2⟩
  exact ⟨⟨l⟩, nums l 0, nums l 18, pc, mode, sec, ia, iN, iC, .slice wa wN wC, pa, pN, pC, is, ps, rfl, ⟨fun n hn => by simpa using (hXn n hn).1, by simpa using p16, by simpa using p17, fun n hn => by simpa using (hRn n hn).1, by simpa using k30, by simpa using k31, by simpa using k32, by simpa using k33, by simpa using hl, fun n hn => (hXn n hn).2⟩, i1, i2, i4, q1, q2, q3⟩
end Go.Proofs.YtkckobbedpccfaaGreatDoor
namespace Go.Proofs.YtkckobbedpccfaaGreatDoor
open Go.ChangeShapes Go.WideShapes Go.ChangeAt Go.RowKit
set_option linter.unusedVariables false
set_option maxRecDepth 100000
theorem tSizes : (Tryz.prog.globals[0]?).map (·.type) = some 136 := by kernel_rfl
theorem cells120 : Tryz.prog.cellsOf 107 = 2 := by kernel_rfl
theorem cells154 : Tryz.prog.cellsOf 136 = 6 := by kernel_rfl
theorem struct_cells {H : Type} {enc : TypeId × Value → H} {W : World} {sp : Nat → Bool} {held : Bool} {m : Nat} {c0 c1 : Value} {x : DataW H × List MemPlace} {a b : Int}
    (h : DataW.trod enc Tryz.prog W 0 sp held m 107 [c0, c1] = some x) (hx : x.1 = .agg [.lit (.int .i64 a), .lit (.int .i64 b)]) : c0 = .int .i64 a ∧ c1 = .int .i64 b := by
  obtain ⟨y0, y1, n, rfl, _, h0, h1⟩ := trod_struct2 Tryz.underlying107 h
  obtain ⟨k0, e0, e0', _⟩ := DataW.trod_int Tryz.underlying3 h0
  obtain ⟨k1, e1, e1', _⟩ := DataW.trod_int Tryz.underlying3 h1
  simp only [cells3] at e0 e1
  simp at e0 e1
  subst e0 e1 e0' e1'
  simp at hx
  obtain ⟨rfl, rfl⟩ := hx
  exact ⟨rfl, rfl⟩
/-- what the condition gives the walks -/
theorem of_laid {W : World} (h0 : laidMetH Tryz.prog Rows.emulateLikelyRow.laid W) : SZ W := by
  have h : laidMetH Tryz.prog [(_, Rows.laid_palisade_word_sizes)] W := h0
  rw [MakeChecks.laidMetH_plain _ _ _ (by kernel_rfl)] at h
  obtain ⟨ps, ⟨g0, t0, cs0, f0, p0, q0, hg0, ht0, hv0, hd0, _, _⟩, _, _⟩ := h
  obtain rfl := Option.some.inj ((show Tryz.prog.globalNamed _ = some 0 from by kernel_rfl).symm.trans hg0)
  obtain rfl := Option.some.inj (tSizes.symm.trans ht0)
  obtain ⟨xs, m1, rfl, hx1, hlen, hn3, hel⟩ := DataW.trod_array Tryz.underlying136 hd0
  simp only [Prod.mk.injEq] at hx1
  rw [cells154] at hlen
  obtain ⟨l⟩ := cs0
  match xs, hn3, hx1, hel with
  | [x0, x1, x2], _, hx1, hel =>
    match l, hlen with
    | [v0, v1, v2, v3, v4, v5], _ =>
      have h0 := hel 0 (by decide)
      have h1 := hel 1 (by decide)
      have h2 := hel 2 (by decide)
      simp only [cells120] at h0 h1 h2
      simp at h0 h1 h2
      have hx := hx1.1
      simp [Rows.laid_palisade_word_sizes] at hx
      obtain ⟨a0, a1⟩ := struct_cells h0 hx.1.symm
      obtain ⟨a2, a3⟩ := struct_cells h1 hx.2.1.symm
      obtain ⟨a4, a5⟩ := struct_cells h2 hx.2.2.symm
      subst a0 a1 a2 a3 a4 a5
      have k0 : W.cell? ⟨0, 0, none⟩ = some (.int .i64 1) := by simpa using World.var?_cell hg0 hv0 0
      refine ⟨k0, by simpa using World.var?_cell hg0 hv0 1, by simpa using World.var?_cell hg0 hv0 2, by simpa using World.var?_cell hg0 hv0 3, by simpa using World.var?_cell hg0 hv0 4, by simpa using World.var?_cell hg0 hv0 5, ?_⟩
      exact World.block_lt_of_cell? W ⟨0, 0, none⟩ k0
/-- a state, for the witness: nothing but zeros -/
def nilSt : Value := .agg (stCells (fun _ => 0) (fun _ => 0) 0 0 0 (.slice none 0 0) (.slice none 0 0) (.slice none 0 0))
end Go.Proofs.YtkckobbedpccfaaGreatDoor
