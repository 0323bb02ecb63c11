/-
  Slices of bytes that came in or were cut, told by their numbers: loads, conversions and appends over them.
  What a memory is in the heap, and what the small functions over it do: their contracts.
  What New, copied, Equal, Same and Clone do: their contracts.
  What Equal, Same, Clone, place and number do: their contracts.
-/
import Derived.Test.YtkckobbedpccfaaGreatDoorQC
import Derived.Laws.BytesArg
import Derived.Laws.AppendOwnNone
import Derived.Laws.CopyOwn
namespace Go.Proofs.YtkckobbedpccfaaGreatDoor
open Go.RowKit
set_option linter.unusedVariables false
set_option maxRecDepth 4000

/-- a slice of bytes with these numbers -/
def SL (w : World) (a : Option Addr) (len : Nat) (zs : List Int) : Prop :=
  zs.length = len ∧ Bytes zs ∧ (len = 0 ∨ ∃ b off, a = some ⟨b, off, none⟩ ∧ b < w.heap.size ∧ ∀ i, i < len → w.cell? ⟨b, off + i, none⟩ = some (.int .u8 (zs.getD i 0)))

theorem SL.below {w w' : World} {a : Option Addr} {len : Nat} {zs : List Int} (h : SL w a len zs) (hb : Below w.heap.size w w') : SL w' a len zs := by
  obtain ⟨h1, h2, h3⟩ := h
  refine ⟨h1, h2, ?_⟩
  rcases h3 with h3 | ⟨b, off, rfl, hlt, hc⟩
  · exact .inl h3
  · have := hb.size
    exact .inr ⟨b, off, rfl, by omega, fun i hi => ((bcell hb).1 b _ hlt).trans (hc i hi)⟩

def okW (len : Nat) (t n : Int) : Bool := decide ((n = 1 ∨ n = 4 ∨ n = 8) ∧ 0 ≤ t ∧ t ≤ (len : Int) - n)
def valW (zs : List Int) (len : Nat) (t n : Int) : Int := if okW len t n then extW n (leFrom zs t.toNat n.toNat) else 0

theorem load_any (a : Option Addr) (len cap : Nat) (zs : List Int) (t n : Int) (w : World) (hz : SZ w) (hs : SL w a len zs) (hl : len ≤ maxLen) :
    Calls Tryz.prog 21 #[.slice a len cap, .int .i64 t, .int .i64 n] w fun e w' => e = .returned (.tuple #[.int .u64 (valW zs len t n), .bool (okW len t n)]) ∧ Below w.heap.size w w' := by
  by_cases hn : n = 1 ∨ n = 4 ∨ n = 8
  · by_cases ht : 0 ≤ t ∧ t ≤ (len : Int) - n
    · have hok : okW len t n = true := decide_eq_true ⟨hn, ht⟩
      rw [valW, hok, if_pos rfl]
      obtain ⟨T, rfl⟩ := Int.eq_ofNat_of_zero_le ht.1
      obtain ⟨M, rfl⟩ := Int.eq_ofNat_of_zero_le (show 0 ≤ n by omega)
      rw [Int.toNat_natCast, Int.toNat_natCast]
      rcases hs.2.2 with h0 | ⟨b, off, rfl, hlt, hc⟩
      · omega
      · exact load_yes b off len cap T M zs w hz hn (by omega) hl hlt hc hs.2.1
    · have hok : okW len t n = false := decide_eq_false (fun h => ht h.2)
      rw [valW, hok, if_neg (by decide)]
      exact load_no_place a len cap t n w hz hn hl ht
  · have hok : okW len t n = false := decide_eq_false (fun h => hn h.1)
    rw [valW, hok, if_neg (by decide)]
    exact load_no_width _ t n w hz hn
theorem rload_any (a : Option Addr) (len cap : Nat) (zs : List Int) (t n : Int) (w : World) (hs : SL w a len zs) (hl : len ≤ maxLen) :
    Calls Tryz.prog 213 #[.slice a len cap, .int .i64 t, .int .i64 n] w fun e w' => e = .returned (.tuple #[.int .u64 (valW zs len t n), .bool (okW len t n)]) ∧ w' = w := by
  by_cases hn : n = 1 ∨ n = 4 ∨ n = 8
  · by_cases ht : 0 ≤ t ∧ t ≤ (len : Int) - n
    · have hok : okW len t n = true := decide_eq_true ⟨hn, ht⟩
      rw [valW, hok, if_pos rfl]
      obtain ⟨T, rfl⟩ := Int.eq_ofNat_of_zero_le ht.1
      obtain ⟨M, rfl⟩ := Int.eq_ofNat_of_zero_le (show 0 ≤ n by omega)
      rw [Int.toNat_natCast, Int.toNat_natCast]
      rcases hs.2.2 with h0 | ⟨b, off, rfl, hlt, hc⟩
      · omega
      · exact rload_yes b off len cap T M zs w hn (by omega) hl hlt hc hs.2.1
    · have hok : okW len t n = false := decide_eq_false (fun h => ht h.2)
      rw [valW, hok, if_neg (by decide)]
      exact rload_no_place a len cap t n w hn hl ht
  · have hok : okW len t n = false := decide_eq_false (fun h => hn h.1)
    rw [valW, hok, if_neg (by decide)]
    exact rload_no_width _ t n w hn

theorem conv_zero (w : World) (p : Option Addr) (c : Nat) : (convert 72 9 (.slice p 0 c)).run Tryz.prog w = .ok (.string ByteArray.empty) w := by
  rw [run_convert_bytes_string w 72 9 5 _ 0 c Tryz.underlying72 Tryz.underlying5 Tryz.underlying9]
  cases p <;> simp [Conv.bytesToString, loadCells]
  all_goals rfl
theorem conv_sl {w : World} {a : Option Addr} {len : Nat} {zs : List Int} (cap : Nat) (h : SL w a len zs) : (convert 72 9 (.slice a len cap)).run Tryz.prog w = .ok (.string (strOfNums zs)) w := by
  obtain ⟨h1, h2, h3⟩ := h
  rcases h3 with rfl | ⟨b, off, rfl, hlt, hc⟩
  · obtain rfl : zs = [] := List.length_eq_zero_iff.1 h1
    rw [conv_zero]; rfl
  · exact run_convert_bytes_arg w 72 5 Tryz.underlying72 Tryz.underlying5 b off len cap zs h1 hc 9 Tryz.underlying9

/-- a row that the call owns, as a slice of its numbers -/
theorem SL.own {w : World} {base g cap n : Nat} {zs : List Int} (h : w.ownsRow base 5 1 (.slice (some ⟨g, 0, none⟩) n cap) n (zs.map (Value.int .u8))) (hB : Bytes zs) : SL w (some ⟨g, 0, none⟩) n zs := by
  have hl : zs.length = n := by have := h.1; simpa using this
  refine ⟨hl, hB, .inr ⟨g, 0, rfl, (h.lt g rfl).2, fun i hi => ?_⟩⟩
  rw [Nat.zero_add, h.cellAt i (by omega)]
  simp [List.getElem?_eq_getElem (show i < zs.length by omega)]
/-- its first numbers -/
theorem SL.head {w : World} {base g cap n : Nat} {zs : List Int} {r : List Int} (c : Nat) (h : w.ownsRow base 5 1 (.slice (some ⟨g, 0, none⟩) n cap) n ((zs ++ r).map (Value.int .u8))) (hB : Bytes zs) : SL w (some ⟨g, 0, none⟩) zs.length zs := by
  have hl : (zs ++ r).length = n := by have := h.1; simpa using this
  rw [List.length_append] at hl
  refine ⟨rfl, hB, .inr ⟨g, 0, rfl, (h.lt g rfl).2, fun i hi => ?_⟩⟩
  rw [Nat.zero_add, h.cellAt i (by omega)]
  simp [List.getElem?_append, hi]

theorem grown_of_below {w w' : World} (h : Below w.heap.size w w') : w.grownBy w' none := ⟨h.os, h.tape, h.output, h.size, fun k hk _ => h.block k hk⟩
theorem own_below {w w' : World} {base g cap n : Nat} {e : TypeId} {size m : Nat} {xs : List Value} (h : w.ownsRow base e size (.slice (some ⟨g, 0, none⟩) n cap) m xs) (hb : Below w.heap.size w w') : w'.ownsRow base e size (.slice (some ⟨g, 0, none⟩) n cap) m xs :=
  h.kept (grown_of_below hb) (.inr (by simp [Value.ownBlock]))
theorem grown_refl (w : World) (row : Option Nat) : w.grownBy w row := ⟨rfl, rfl, rfl, Nat.le_refl _, fun _ _ _ => rfl⟩
theorem grown_trans {a b c : World} {row : Option Nat} (h : a.grownBy b row) (k : b.grownBy c row) : a.grownBy c row :=
  ⟨k.os.trans h.os, k.tape.trans h.tape, k.output.trans h.output, Nat.le_trans h.size k.size, fun i hi hne => (k.block i (Nat.lt_of_lt_of_le hi h.size) hne).trans (h.block i hi hne)⟩

/-- append of a slice of bytes, nil or not, to a row of the call's own -/
theorem wpList_append_sl {w : World} {ops : Array Oper} {rest : List Oper} {o : Oper} {a : Act} {Q : Exit → Act → World → Prop} (hgd : o.guard = none) (s x : Operand)
    (ho : o.op = .call { callee := .builtin .append, args := #[s, x], argTypes := #[72, 72] }) (base : Nat)
    (v : Value) (n : Nat) (xs : List Int) (hs : a.eval s = v) (hown : w.ownsRow base 5 1 v n (xs.map (Value.int .u8)))
    (ad : Option Addr) (m c : Nat) (zs : List Int) (hx : a.eval x = .slice ad m c) (hnil : ad = none → m = 0 ∧ c = 0) (hsl : SL w ad m zs)
    (hbytes : n + m ≤ 140737488355328) (hbase : base ≤ w.heap.size)
    (h : ∀ v' w', w'.ownsRow base 5 1 v' (n + m) ((xs ++ zs).map (Value.int .u8)) → w.grownBy w' v.ownBlock → wpList Tryz.prog ops Q rest (a.put o.dst v') w') : wpList Tryz.prog ops Q (o :: rest) a w := by
  obtain ⟨i0, hi, hz0, hz1, hz2⟩ := info_parts Tryz.info5
  cases ad with
  | none =>
    obtain ⟨rfl, rfl⟩ := hnil rfl
    have hz : zs = [] := List.length_eq_zero_iff.1 hsl.1
    subst hz
    refine wpList_append_own_none hgd s x 72 ho base 5 i0 1 Tryz.underlying72 hi v n _ hs hown hx ?_
    exact h v w (by simpa using hown) (grown_refl _ _)
  | some ad =>
    refine wpList_append_own w hgd s x 72 ho base 5 i0 (.int .u8 0) 1 1 Tryz.underlying72 hi hz0 hz1 hz2 rfl (by decide) v n _ hs hown ad m c (zs.map (Value.int .u8)) hx (by simpa using hsl.1) ?_ ?_ (by unfold maxLen; omega) (by omega) hbase ?_
    · intro j u hj
      have hjl : j < zs.length := by
        rcases Nat.lt_or_ge j zs.length with h' | h'
        · exact h'
        · simp [List.getElem?_eq_none (show (zs.map (Value.int .u8)).length ≤ j by simpa using h')] at hj
      rcases hsl.2.2 with h0 | ⟨b, off, hb, hlt, hc⟩
      · have := hsl.1; omega
      · cases hb
        have hplain : (⟨b, off, none⟩ : Addr).add j = ⟨b, off + j, none⟩ := by unfold Addr.add; split <;> simp_all
        rw [hplain, hc j (by have := hsl.1; omega)]
        simp [List.getElem?_eq_getElem hjl] at hj
        subst hj
        simp [List.getD, List.getElem?_eq_getElem hjl]
    · intro u hu
      obtain ⟨z, _, rfl⟩ := List.mem_map.1 hu
      rfl
    · intro v' w' h1 h2 _
      exact h v' w' (by simpa using h1) h2
end Go.Proofs.YtkckobbedpccfaaGreatDoor
namespace Go.Proofs.YtkckobbedpccfaaGreatDoor
open Go.RowKit
set_option linter.unusedVariables false

/-- a memory that New or Clone made: its block b, the row g of its bytes -/
structure MM (w : World) (b g : Nat) (zs : List Int) : Prop where
  cell : w.heap[b]? = some (.cells #[.slice (some ⟨g, 0, none⟩) zs.length zs.length] 122 (0, 0))
  row : w.heap[g]? = some (.cells (zs.map (Value.int .u8)).toArray 5 (0, 0))
  ne : b ≠ g
  bytes : Bytes zs
  pos : 0 < zs.length
  len : zs.length ≤ 16777216

theorem lt_of_heap {w : World} {b : Nat} {o : Obj} (h : w.heap[b]? = some o) : b < w.heap.size := (Array.getElem?_eq_some_iff.1 h).1
theorem MM.blt {w : World} {b g : Nat} {zs : List Int} (h : MM w b g zs) : b < w.heap.size := lt_of_heap h.cell
theorem MM.glt {w : World} {b g : Nat} {zs : List Int} (h : MM w b g zs) : g < w.heap.size := lt_of_heap h.row
theorem MM.cell0 {w : World} {b g : Nat} {zs : List Int} (h : MM w b g zs) : w.cell? ⟨b, 0, none⟩ = some (.slice (some ⟨g, 0, none⟩) zs.length zs.length) := by
  simp [World.cell?, h.cell]
theorem MM.rowAt {w : World} {b g : Nat} {zs : List Int} (h : MM w b g zs) (i : Nat) (hi : i < zs.length) : w.cell? ⟨g, i, none⟩ = some (.int .u8 (zs.getD i 0)) := by
  simp [World.cell?, h.row, List.getElem?_eq_getElem hi]
theorem MM.kept {w w' : World} {b g : Nat} {zs : List Int} (h : MM w b g zs) {r : Option Nat} (hk : w.grownBy w' r) (hb : some b ≠ r) (hg : some g ≠ r) : MM w' b g zs :=
  ⟨(hk.block b h.blt hb).trans h.cell, (hk.block g h.glt hg).trans h.row, h.ne, h.bytes, h.pos, h.len⟩
theorem MM.below {w w' : World} {b g : Nat} {zs : List Int} (h : MM w b g zs) (hk : Below w.heap.size w w') : MM w' b g zs :=
  ⟨(hk.block b h.blt).trans h.cell, (hk.block g h.glt).trans h.row, h.ne, h.bytes, h.pos, h.len⟩

theorem bytes_mid {zs : List Int} (h : Bytes zs) (o n : Nat) : Bytes ((zs.drop o).take n) := by
  intro i
  by_cases hi : i < n
  · have := h (o + i)
    simp only [List.getD, List.getElem?_take, hi, if_true, List.getElem?_drop] at this ⊢
    exact this
  · simp [List.getD, List.getElem?_take, hi]
/-- a piece of its bytes, as a slice -/
theorem MM.sl {w : World} {b g : Nat} {zs : List Int} (h : MM w b g zs) (o n : Nat) (hn : o + n ≤ zs.length) : SL w (some ⟨g, o, none⟩) n ((zs.drop o).take n) := by
  refine ⟨by simp; omega, bytes_mid h.bytes o n, .inr ⟨g, o, rfl, h.glt, fun i hi => ?_⟩⟩
  rw [h.rowAt (o + i) (by omega)]
  simp [List.getD, hi, List.getElem?_drop]
theorem MM.slAll {w : World} {b g : Nat} {zs : List Int} (h : MM w b g zs) : SL w (some ⟨g, 0, none⟩) zs.length zs := by
  have := h.sl 0 zs.length (by omega)
  simpa using this

/-- what stands in the memory that p points to: nothing, if p is nil or no call made it -/
def HV (w : World) (p v : Value) : Prop := (p = .pointer none ∧ v = .slice none 0 0) ∨ ∃ b, p = .pointer (some ⟨b, 0, none⟩) ∧ b < w.heap.size ∧ w.cell? ⟨b, 0, none⟩ = some v
theorem MM.hv {w : World} {b g : Nat} {zs : List Int} (h : MM w b g zs) : HV w (.pointer (some ⟨b, 0, none⟩)) (.slice (some ⟨g, 0, none⟩) zs.length zs.length) := .inr ⟨b, rfl, h.blt, h.cell0⟩
theorem HV.nil (w : World) : HV w (.pointer none) (.slice none 0 0) := .inl ⟨rfl, rfl⟩
theorem HV.below {w w' : World} {p v : Value} (h : HV w p v) (hk : Below w.heap.size w w') : HV w' p v := by
  rcases h with h | ⟨b, rfl, hlt, hc⟩
  · exact .inl h
  · exact .inr ⟨b, rfl, Nat.lt_of_lt_of_le hlt hk.size, ((bcell hk).1 b 0 hlt).trans hc⟩

theorem held_any (p v : Value) (w : World) (h : HV w p v) : Calls Tryz.prog 58 #[p] w fun e w' => e = .returned v ∧ w' = w := by
  rcases h with ⟨rfl, rfl⟩ | ⟨b, rfl, hlt, hc⟩
  · go_enter Tryz.func58, Tryz.ntmps58
    go_wp2
    go_ret
    exact ⟨rfl, rfl⟩
  · go_enter Tryz.func58, Tryz.ntmps58
    go_wp2
    go_ret
    exact ⟨rfl, rfl⟩
theorem made_any (p : Value) (a : Option Addr) (n c : Nat) (w : World) (h : HV w p (.slice a n c)) : Calls Tryz.prog 37 #[p] w fun e w' => e = .returned (.bool (decide (0 < n))) ∧ w' = w := by
  go_enter Tryz.func37, Tryz.ntmps37
  go_wp2_with fail
  refine (held_any _ _ _ h).mono ?_
  rintro e w1 ⟨rfl, rfl⟩
  go_wp2_with fail
  go_ret
  exact ⟨ret_bool (by simp), rfl⟩
end Go.Proofs.YtkckobbedpccfaaGreatDoor
namespace Go.Proofs.YtkckobbedpccfaaGreatDoor
open Go.RowKit
set_option linter.unusedVariables false
set_option maxRecDepth 4000

theorem made_zeros (n : Nat) : (madeCells (Value.int .u8 0).cells (n * 1)).toList = (List.replicate n (0 : Int)).map (Value.int .u8) := by
  apply List.ext_getElem (by simp [madeCells])
  intro i h1 h2
  simp [madeCells, Value.cells, Nat.mod_one]
theorem bytes_zeros (n : Nat) : Bytes (List.replicate n 0) := by
  intro i
  by_cases h : i < n
  · simp [List.getD, h]
  · simp [List.getD, h]
/-- a whole row of the call's own, as its block reads -/
theorem own_heap {w : World} {base g n : Nat} {zs : List Int} (h : w.ownsRow base 5 1 (.slice (some ⟨g, 0, none⟩) n n) n (zs.map (Value.int .u8))) : w.heap[g]? = some (.cells (zs.map (Value.int .u8)).toArray 5 (0, 0)) ∧ zs.length = n ∧ base ≤ g := by
  have hl : zs.length = n := by have := h.1; simpa using this
  rcases h.2 with ⟨h', _⟩ | ⟨g', cap', cur, h', hb, hg, hn, hm, hsz, htk⟩
  · cases h'
  · cases h'
    refine ⟨?_, hl, hb⟩
    rw [hg]
    have : cur.toList = zs.map (Value.int .u8) := by rw [← htk, List.take_of_length_le (by simp; omega)]
    rw [← this]

theorem heap_alloc_at (w : World) (o : Obj) : (w.alloc o).heap[w.heap.size]? = some o := by show (w.heap.push o)[w.heap.size]? = _; simp
theorem heap_alloc_past (w : World) (o : Obj) {k : Nat} (h : k < w.heap.size) : (w.alloc o).heap[k]? = w.heap[k]? := by show (w.heap.push o)[k]? = _; simp [Array.getElem?_push, Nat.ne_of_lt h]
/-- a whole row of the call's own, boxed as a memory -/
theorem MM.box {w : World} {base g n : Nat} {zs : List Int} (h : w.ownsRow base 5 1 (.slice (some ⟨g, 0, none⟩) n n) n (zs.map (Value.int .u8))) (hB : Bytes zs) (h1 : 0 < n) (h2 : n ≤ 16777216) :
    MM (w.alloc (.cells #[.slice (some ⟨g, 0, none⟩) n n] 122)) w.heap.size g zs := by
  obtain ⟨hh, rfl, hb⟩ := own_heap h
  have hlt := lt_of_heap hh
  exact ⟨heap_alloc_at _ _, (heap_alloc_past _ _ hlt).trans hh, by omega, hB, h1, h2⟩
theorem new_no (f : Int) (w : World) (h : ¬ (1 ≤ f ∧ f ≤ 65536)) :
    Calls Tryz.prog 29 #[.int .i64 f] w fun e w' => e = .returned (.tuple #[.pointer none, .int .i64 2]) ∧ w' = w := by
  by_cases h1 : f < 1
  · go_enter Tryz.func29, Tryz.ntmps29
    go_wp2
    go_ret2
    exact ⟨rfl, rfl⟩
  · have h2 : 65536 < f := by omega
    go_enter Tryz.func29, Tryz.ntmps29
    go_wp2
    go_ret2
    exact ⟨rfl, rfl⟩
theorem new_yes (f : Nat) (w : World) (h1 : 1 ≤ f) (h2 : f ≤ 65536) :
    Calls Tryz.prog 29 #[.int .i64 f] w fun e w' => ∃ b g, e = .returned (.tuple #[.pointer (some ⟨b, 0, none⟩), .int .i64 0]) ∧ MM w' b g (List.replicate (f * 256) 0) ∧ w.heap.size ≤ b ∧ w.heap.size ≤ g ∧ Below w.heap.size w w' := by
  obtain ⟨i0, hi, hz0, hz1, hz2⟩ := info_parts Tryz.info5
  go_enter Tryz.func29, Tryz.ntmps29
  go_wp2_with (at_make; refine wpList_make_full _ rfl _ _ 72 rfl w.heap.size 5 i0 (.int .u8 0) 1 Tryz.underlying72 hi hz0 hz1 _ _ _ _ (f * 256) rfl rfl (by omega) (by omega) (by rw [hz2]; omega) (by unfold maxLen; omega) (by simp) ?_; intro w2 hown2 hgrow2)
  rw [made_zeros] at hown2
  have hs2 := hgrow2.size
  go_ret2
  exact ⟨w2.heap.size, w.heap.size, rfl, MM.box hown2 (bytes_zeros _) (by omega) (by omega), hs2, Nat.le_refl _, ((Below.refl _ _).grown hgrow2 (by simp) (by intro k h; cases h)).alloc (by omega) _⟩

/-- copy of a slice of bytes into a row as long -/
theorem run_copy_sl {w : World} (ty : TypeId) (g off n : Nat) (dp sp : Option Addr) (dCap sCap m : Nat) (xs zs : List Int) (hg : w.heap[g]? = some (.cells (xs.map (Value.int .u8)).toArray 5 (0, 0))) (hsl : SL w sp m zs) (hnm : m = n) (hdp : n = 0 ∨ dp = some ⟨g, off, none⟩) (hfit : off + n ≤ xs.length) :
    ∃ w', (Builtin.copy_ #[72, 72] ty #[.slice dp n dCap, .slice sp m sCap]).run Tryz.prog w = .ok (goInt n) w' ∧ w'.heap[g]? = some (.cells ((splice xs off zs).map (Value.int .u8)).toArray 5 (0, 0)) ∧ w.grownBy w' (some g) := by
  subst hnm
  have hsz : (Tryz.prog.info? 5).map (·.size) = some 1 := by kernel_rfl
  obtain ⟨hl, hB, hc⟩ := hsl
  by_cases h0 : m = 0
  · subst h0
    obtain rfl : zs = [] := List.length_eq_zero_iff.1 hl
    exact ⟨w, run_copy_none (P := Tryz.prog) w 72 72 ty 5 dp sp 0 dCap 0 sCap Tryz.underlying72 hsz rfl, by simpa [splice] using hg, grown_refl _ _⟩
  · rcases hc with hc | ⟨b, o', rfl, hlt, hc⟩
    · omega
    rcases hdp with hdp | rfl
    · omega
    have hsrc : ∀ j v, (zs.map (Value.int .u8))[j]? = some v → w.cell? ((⟨b, o', none⟩ : Addr).add j) = some v := by
      intro j u hj
      have hjl : j < zs.length := by
        rcases Nat.lt_or_ge j zs.length with h' | h'
        · exact h'
        · simp [List.getElem?_eq_none (show (zs.map (Value.int .u8)).length ≤ j by simpa using h')] at hj
      have hplain : (⟨b, o', none⟩ : Addr).add j = ⟨b, o' + j, none⟩ := by unfold Addr.add; split <;> simp_all
      rw [hplain, hc j (by omega)]
      simp [List.getElem?_eq_getElem hjl] at hj
      subst hj
      simp [List.getD, List.getElem?_eq_getElem hjl]
    have hrun := run_copy_row (P := Tryz.prog) w 72 72 ty 5 g off m dCap ⟨b, o', none⟩ m sCap _ 5 (zs.map (Value.int .u8)) Tryz.underlying72 hsz hg (by simp [hl]) hsrc (by simp [hl]; omega) (by intro v hv; obtain ⟨z, _, rfl⟩ := List.mem_map.1 hv; rfl)
    rw [List.length_map, hl] at hrun
    refine ⟨_, hrun, ?_, ⟨rfl, rfl, rfl, by simp [World.setRow], fun k hk hne => setRow_other w g k _ (fun e => hne (by rw [e]))⟩⟩
    rw [setRow_heap w g _ _ 5 _ hg]
    simp [splice, hl]

theorem splice_all {α : Type} (xs zs : List α) (h : zs.length = xs.length) : splice xs 0 zs = zs := by simp [splice, h]
theorem own_of_heap {w : World} {base g n : Nat} {zs : List Int} (h : w.heap[g]? = some (.cells (zs.map (Value.int .u8)).toArray 5 (0, 0))) (hn : zs.length = n) (hb : base ≤ g) (hm : n ≤ maxLen) : w.ownsRow base 5 1 (.slice (some ⟨g, 0, none⟩) n n) n (zs.map (Value.int .u8)) :=
  ⟨by simp [hn], .inr ⟨g, n, _, rfl, hb, h, Nat.le_refl _, hm, by simp [hn], by rw [Nat.mul_one]; exact List.take_of_length_le (by simp [hn])⟩⟩

end Go.Proofs.YtkckobbedpccfaaGreatDoor
namespace Go.Proofs.YtkckobbedpccfaaGreatDoor
open Go.RowKit
set_option linter.unusedVariables false

theorem str_inj {xs ys : List Int} (hx : Bytes xs) (hy : Bytes ys) (h : strOfNums xs = strOfNums ys) : xs = ys := by
  have hl : xs.length = ys.length := by rw [← strOfNums_size xs, ← strOfNums_size ys, h]
  apply List.ext_getElem hl
  intro i h1 h2
  have hd : (strOfNums xs).data = (strOfNums ys).data := by rw [h]
  have e : (strOfNums xs).data[i]? = (strOfNums ys).data[i]? := by rw [hd]
  simp [strOfNums, List.getElem?_eq_getElem h1, List.getElem?_eq_getElem h2] at e
  have a := hx i
  have b := hy i
  simp [List.getD, List.getElem?_eq_getElem h1] at a
  simp [List.getD, List.getElem?_eq_getElem h2] at b
  generalize xs[i] = x at *
  generalize ys[i] = y at *
  have e2 := congrArg UInt8.toNat e
  simp at e2
  omega
theorem str_eq (xs ys : List Int) (hx : Bytes xs) (hy : Bytes ys) : ((strOfNums xs).toList == (strOfNums ys).toList) = decide (xs = ys) := by
  by_cases h : xs = ys
  · subst h; simp
  · have : ¬ (strOfNums xs).toList = (strOfNums ys).toList := by
      intro e
      rw [ByteArray.toList_eq, ByteArray.toList_eq] at e
      exact h (str_inj hx hy (ByteArray.ext (Array.toList_inj.1 e)))
    simp [h, this]

theorem SL.nil (w : World) (a : Option Addr) : SL w a 0 [] := ⟨rfl, by intro i; simp, .inl rfl⟩

theorem place_nobody (p : Value) (t n : Int) (w : World) (h : HV w p (.slice none 0 0)) :
    Calls Tryz.prog 38 #[p, .int .u64 t, .int .i64 n] w fun e w' => e = .returned (.tuple #[.slice none 0 0, .int .i64 1]) ∧ w' = w := by
  go_enter Tryz.func38, Tryz.ntmps38
  go_wp2_with fail
  refine (made_any _ _ _ _ _ h).mono ?_
  rintro e w1 ⟨rfl, rfl⟩
  go_wp2_with fail
  go_ret2
  exact ⟨rfl, rfl⟩
theorem place_neg (b g : Nat) (zs : List Int) (t n : Int) (w : World) (h : MM w b g zs) (hn : n < 0) :
    Calls Tryz.prog 38 #[.pointer (some ⟨b, 0, none⟩), .int .u64 t, .int .i64 n] w fun e w' => e = .returned (.tuple #[.slice none 0 0, .int .i64 2]) ∧ w' = w := by
  have hd : decide (0 < zs.length) = true := decide_eq_true h.pos
  go_enter Tryz.func38, Tryz.ntmps38
  go_wp2_with fail
  refine (made_any _ _ _ _ _ h.hv).mono ?_
  rintro e w1 ⟨rfl, rfl⟩
  rw [hd]
  go_wp2_with fail
  go_ret2
  exact ⟨rfl, rfl⟩
theorem bounds_any (b g : Nat) (zs : List Int) (w : World) (h : MM w b g zs) :
    Calls Tryz.prog 59 #[.pointer (some ⟨b, 0, none⟩)] w fun e w' => e = .returned (.func (.func 81) #[] #[.pointer (some ⟨w.heap.size, 0, none⟩)]) ∧ w' = w.alloc (.cells #[.int .u64 zs.length] 22) := by
  have hmf : ∀ (fn : Fn) (first cap : Array Value) (w : World), (Instr.makeFunc fn first cap).run Tryz.prog w = .ok (.func fn first cap) w := fun _ _ _ _ => rfl
  have hc := h.cell0
  have hl := h.len
  have hlt := h.blt
  go_enter Tryz.func59, Tryz.ntmps59
  go_wp2
  go_ret
  exact ⟨rfl, rfl⟩
theorem within_fn (q : Nat) (t n s : Int) (w : World) (h0 : 0 ≤ t) (h1 : 0 ≤ n) (hs : 0 ≤ s) (hs' : s < 18446744073709551616) (hc : w.cell? ⟨q, 0, none⟩ = some (.int .u64 s)) :
    Calls Tryz.prog 81 #[.int .u64 t, .int .u64 n, .pointer (some ⟨q, 0, none⟩)] w fun e w' => e = .returned (.bool (decide (t + n ≤ s))) ∧ w' = w := by
  by_cases h : n ≤ s
  · go_enter Tryz.func81, Tryz.ntmps81
    go_wp2
    go_ret
    exact ⟨ret_bool (by simp; omega), rfl⟩
  · have h' : s < n := by omega
    go_enter Tryz.func81, Tryz.ntmps81
    go_wp2
    go_ret
    exact ⟨ret_bool (by simp; omega), rfl⟩

theorem to_u64 (n : Int) (h0 : 0 ≤ n) (h1 : n < 9223372036854775808) : IntKind.u64.wrap n = n := by rw [IntKind.wrap_u64]; omega
theorem place_out (b g : Nat) (zs : List Int) (t n : Int) (w : World) (h : MM w b g zs) (ht : 0 ≤ t) (ht' : t < 18446744073709551616) (hn : 0 ≤ n) (hn' : n < 9223372036854775808) (ho : ¬ t + n ≤ zs.length) :
    Calls Tryz.prog 38 #[.pointer (some ⟨b, 0, none⟩), .int .u64 t, .int .i64 n] w fun e w' => e = .returned (.tuple #[.slice none 0 0, .int .i64 12]) ∧ Below w.heap.size w w' := by
  have hd : decide (0 < zs.length) = true := decide_eq_true h.pos
  have hl := h.len
  have hd2 : decide (t + n ≤ (zs.length : Int)) = false := decide_eq_false ho
  go_enter Tryz.func38, Tryz.ntmps38
  go_wp2_with fail
  refine (made_any _ _ _ _ _ h.hv).mono ?_
  rintro e w1 ⟨rfl, rfl⟩
  rw [hd]
  go_wp2_with fail
  refine (bounds_any b g zs _ h).mono ?_
  rintro e w2 ⟨rfl, rfl⟩
  go_wp2_with fail
  refine (within_fn _ t n zs.length _ ht hn (by omega) (by omega) (by simp)).mono ?_
  rintro e w3 ⟨rfl, rfl⟩
  rw [hd2]
  go_wp2_with fail
  go_ret2
  exact ⟨rfl, (Below.refl _ _).alloc (Nat.le_refl _) _⟩
def PlaceIs (g T N : Nat) (e : Ending) : Prop := ∃ o, (N = 0 ∨ o = T) ∧ e = .returned (.tuple #[.slice (some ⟨g, o, none⟩) N N, .int .i64 0])
theorem place_in (b g : Nat) (zs : List Int) (T N : Nat) (w : World) (h : MM w b g zs) (ho : T + N ≤ zs.length) :
    Calls Tryz.prog 38 #[.pointer (some ⟨b, 0, none⟩), .int .u64 T, .int .i64 N] w fun e w' => PlaceIs g T N e ∧ Below w.heap.size w w' := by
  have hd : decide (0 < zs.length) = true := decide_eq_true h.pos
  have hl := h.len
  have hd2 : decide ((T : Int) + N ≤ (zs.length : Int)) = true := decide_eq_true (by omega)
  have hc := h.cell0
  have hlt := h.blt
  go_enter Tryz.func38, Tryz.ntmps38
  go_wp2_with fail
  refine (made_any _ _ _ _ _ h.hv).mono ?_
  rintro e w1 ⟨rfl, rfl⟩
  rw [hd]
  go_wp2_with fail
  refine (bounds_any b g zs _ h).mono ?_
  rintro e w2 ⟨rfl, rfl⟩
  go_wp2_with fail
  refine (within_fn _ T N zs.length _ (by omega) (by omega) (by omega) (by omega) (by simp)).mono ?_
  rintro e w3 ⟨rfl, rfl⟩
  rw [hd2]
  clear hd hd2
  go_wp2_with fail
  · go_ret2
    exact ⟨⟨0, .inl (by omega), by simp; omega⟩, (Below.refl _ _).alloc (Nat.le_refl _) _⟩
  · go_ret2
    exact ⟨⟨T, .inr rfl, rfl⟩, (Below.refl _ _).alloc (Nat.le_refl _) _⟩
end Go.Proofs.YtkckobbedpccfaaGreatDoor
