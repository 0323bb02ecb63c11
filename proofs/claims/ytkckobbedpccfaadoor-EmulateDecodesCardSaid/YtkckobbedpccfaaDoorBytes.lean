/-
  Slices of bytes that came in or were cut, told by their numbers: loads, conversions and appends over them.
-/
import Derived.Test.YtkckobbedpccfaaDoorWalks10
import Derived.Laws.BytesArg
import Derived.Laws.AppendOwnNone
namespace Go.Proofs.YtkckobbedpccfaaDoor
open Go.RowKit
set_option linter.unusedVariables false
set_option maxRecDepth 4000

/-- a slice of bytes with these numbers -/
def SL (w : World) (a : Option Addr) (len : Nat) (zs : List Int) : Prop :=
  zs.length = len ∧ Bytes zs ∧ (len = 0 ∨ ∃ b off, a = some ⟨b, off, none⟩ ∧ b < w.heap.size ∧ ∀ i, i < len → w.cell? ⟨b, off + i, none⟩ = some (.int .u8 (zs.getD i 0)))

theorem SL.below {w w' : World} {a : Option Addr} {len : Nat} {zs : List Int} (h : SL w a len zs) (hb : Below w.heap.size w w') : SL w' a len zs := by
  obtain ⟨h1, h2, h3⟩ := h
  refine ⟨h1, h2, ?_⟩
  rcases h3 with h3 | ⟨b, off, rfl, hlt, hc⟩
  · exact .inl h3
  · have := hb.size
    exact .inr ⟨b, off, rfl, by omega, fun i hi => ((bcell hb).1 b _ hlt).trans (hc i hi)⟩

def okW (len : Nat) (t n : Int) : Bool := decide ((n = 1 ∨ n = 4 ∨ n = 8) ∧ 0 ≤ t ∧ t ≤ (len : Int) - n)
def valW (zs : List Int) (len : Nat) (t n : Int) : Int := if okW len t n then extW n (leFrom zs t.toNat n.toNat) else 0

theorem load_any (a : Option Addr) (len cap : Nat) (zs : List Int) (t n : Int) (w : World) (hz : SZ w) (hs : SL w a len zs) (hl : len ≤ maxLen) :
    Calls Tryd.prog 15 #[.slice a len cap, .int .i64 t, .int .i64 n] w fun e w' => e = .returned (.tuple #[.int .u64 (valW zs len t n), .bool (okW len t n)]) ∧ Below w.heap.size w w' := by
  by_cases hn : n = 1 ∨ n = 4 ∨ n = 8
  · by_cases ht : 0 ≤ t ∧ t ≤ (len : Int) - n
    · have hok : okW len t n = true := decide_eq_true ⟨hn, ht⟩
      rw [valW, hok, if_pos rfl]
      obtain ⟨T, rfl⟩ := Int.eq_ofNat_of_zero_le ht.1
      obtain ⟨M, rfl⟩ := Int.eq_ofNat_of_zero_le (show 0 ≤ n by omega)
      rw [Int.toNat_natCast, Int.toNat_natCast]
      rcases hs.2.2 with h0 | ⟨b, off, rfl, hlt, hc⟩
      · omega
      · exact load_yes b off len cap T M zs w hz hn (by omega) hl hlt hc hs.2.1
    · have hok : okW len t n = false := decide_eq_false (fun h => ht h.2)
      rw [valW, hok, if_neg (by decide)]
      exact load_no_place a len cap t n w hz hn hl ht
  · have hok : okW len t n = false := decide_eq_false (fun h => hn h.1)
    rw [valW, hok, if_neg (by decide)]
    exact load_no_width _ t n w hz hn
theorem rload_any (a : Option Addr) (len cap : Nat) (zs : List Int) (t n : Int) (w : World) (hs : SL w a len zs) (hl : len ≤ maxLen) :
    Calls Tryd.prog 17 #[.slice a len cap, .int .i64 t, .int .i64 n] w fun e w' => e = .returned (.tuple #[.int .u64 (valW zs len t n), .bool (okW len t n)]) ∧ w' = w := by
  by_cases hn : n = 1 ∨ n = 4 ∨ n = 8
  · by_cases ht : 0 ≤ t ∧ t ≤ (len : Int) - n
    · have hok : okW len t n = true := decide_eq_true ⟨hn, ht⟩
      rw [valW, hok, if_pos rfl]
      obtain ⟨T, rfl⟩ := Int.eq_ofNat_of_zero_le ht.1
      obtain ⟨M, rfl⟩ := Int.eq_ofNat_of_zero_le (show 0 ≤ n by omega)
      rw [Int.toNat_natCast, Int.toNat_natCast]
      rcases hs.2.2 with h0 | ⟨b, off, rfl, hlt, hc⟩
      · omega
      · exact rload_yes b off len cap T M zs w hn (by omega) hl hlt hc hs.2.1
    · have hok : okW len t n = false := decide_eq_false (fun h => ht h.2)
      rw [valW, hok, if_neg (by decide)]
      exact rload_no_place a len cap t n w hn hl ht
  · have hok : okW len t n = false := decide_eq_false (fun h => hn h.1)
    rw [valW, hok, if_neg (by decide)]
    exact rload_no_width _ t n w hn

theorem conv_zero (w : World) (p : Option Addr) (c : Nat) : (convert 54 9 (.slice p 0 c)).run Tryd.prog w = .ok (.string ByteArray.empty) w := by
  rw [run_convert_bytes_string w 54 9 5 _ 0 c Tryd.underlying54 Tryd.underlying5 Tryd.underlying9]
  cases p <;> simp [Conv.bytesToString, loadCells]
  all_goals rfl
theorem conv_sl {w : World} {a : Option Addr} {len : Nat} {zs : List Int} (cap : Nat) (h : SL w a len zs) : (convert 54 9 (.slice a len cap)).run Tryd.prog w = .ok (.string (strOfNums zs)) w := by
  obtain ⟨h1, h2, h3⟩ := h
  rcases h3 with rfl | ⟨b, off, rfl, hlt, hc⟩
  · obtain rfl : zs = [] := List.length_eq_zero_iff.1 h1
    rw [conv_zero]; rfl
  · exact run_convert_bytes_arg w 54 5 Tryd.underlying54 Tryd.underlying5 b off len cap zs h1 hc 9 Tryd.underlying9

/-- a row that the call owns, as a slice of its numbers -/
theorem SL.own {w : World} {base g cap n : Nat} {zs : List Int} (h : w.ownsRow base 5 1 (.slice (some ⟨g, 0, none⟩) n cap) n (zs.map (Value.int .u8))) (hB : Bytes zs) : SL w (some ⟨g, 0, none⟩) n zs := by
  have hl : zs.length = n := by have := h.1; simpa using this
  refine ⟨hl, hB, .inr ⟨g, 0, rfl, (h.lt g rfl).2, fun i hi => ?_⟩⟩
  rw [Nat.zero_add, h.cellAt i (by omega)]
  simp [List.getElem?_eq_getElem (show i < zs.length by omega)]
/-- its first numbers -/
theorem SL.head {w : World} {base g cap n : Nat} {zs : List Int} {r : List Int} (c : Nat) (h : w.ownsRow base 5 1 (.slice (some ⟨g, 0, none⟩) n cap) n ((zs ++ r).map (Value.int .u8))) (hB : Bytes zs) : SL w (some ⟨g, 0, none⟩) zs.length zs := by
  have hl : (zs ++ r).length = n := by have := h.1; simpa using this
  rw [List.length_append] at hl
  refine ⟨rfl, hB, .inr ⟨g, 0, rfl, (h.lt g rfl).2, fun i hi => ?_⟩⟩
  rw [Nat.zero_add, h.cellAt i (by omega)]
  simp [List.getElem?_append, hi]

theorem grown_of_below {w w' : World} (h : Below w.heap.size w w') : w.grownBy w' none := ⟨h.os, h.tape, h.output, h.size, fun k hk _ => h.block k hk⟩
theorem own_below {w w' : World} {base g cap n : Nat} {e : TypeId} {size m : Nat} {xs : List Value} (h : w.ownsRow base e size (.slice (some ⟨g, 0, none⟩) n cap) m xs) (hb : Below w.heap.size w w') : w'.ownsRow base e size (.slice (some ⟨g, 0, none⟩) n cap) m xs :=
  h.kept (grown_of_below hb) (.inr (by simp [Value.ownBlock]))
theorem grown_refl (w : World) (row : Option Nat) : w.grownBy w row := ⟨rfl, rfl, rfl, Nat.le_refl _, fun _ _ _ => rfl⟩
theorem grown_trans {a b c : World} {row : Option Nat} (h : a.grownBy b row) (k : b.grownBy c row) : a.grownBy c row :=
  ⟨k.os.trans h.os, k.tape.trans h.tape, k.output.trans h.output, Nat.le_trans h.size k.size, fun i hi hne => (k.block i (Nat.lt_of_lt_of_le hi h.size) hne).trans (h.block i hi hne)⟩

/-- append of a slice of bytes, nil or not, to a row of the call's own -/
theorem wpList_append_sl {w : World} {ops : Array Oper} {rest : List Oper} {o : Oper} {a : Act} {Q : Exit → Act → World → Prop} (hgd : o.guard = none) (s x : Operand)
    (ho : o.op = .call { callee := .builtin .append, args := #[s, x], argTypes := #[54, 54] }) (base : Nat)
    (v : Value) (n : Nat) (xs : List Int) (hs : a.eval s = v) (hown : w.ownsRow base 5 1 v n (xs.map (Value.int .u8)))
    (ad : Option Addr) (m c : Nat) (zs : List Int) (hx : a.eval x = .slice ad m c) (hnil : ad = none → m = 0 ∧ c = 0) (hsl : SL w ad m zs)
    (hbytes : n + m ≤ 140737488355328) (hbase : base ≤ w.heap.size)
    (h : ∀ v' w', w'.ownsRow base 5 1 v' (n + m) ((xs ++ zs).map (Value.int .u8)) → w.grownBy w' v.ownBlock → wpList Tryd.prog ops Q rest (a.put o.dst v') w') : wpList Tryd.prog ops Q (o :: rest) a w := by
  obtain ⟨i0, hi, hz0, hz1, hz2⟩ := info_parts Tryd.info5
  cases ad with
  | none =>
    obtain ⟨rfl, rfl⟩ := hnil rfl
    have hz : zs = [] := List.length_eq_zero_iff.1 hsl.1
    subst hz
    refine wpList_append_own_none hgd s x 54 ho base 5 i0 1 Tryd.underlying54 hi v n _ hs hown hx ?_
    exact h v w (by simpa using hown) (grown_refl _ _)
  | some ad =>
    refine wpList_append_own w hgd s x 54 ho base 5 i0 (.int .u8 0) 1 1 Tryd.underlying54 hi hz0 hz1 hz2 rfl (by decide) v n _ hs hown ad m c (zs.map (Value.int .u8)) hx (by simpa using hsl.1) ?_ ?_ (by unfold maxLen; omega) (by omega) hbase ?_
    · intro j u hj
      have hjl : j < zs.length := by
        rcases Nat.lt_or_ge j zs.length with h' | h'
        · exact h'
        · simp [List.getElem?_eq_none (show (zs.map (Value.int .u8)).length ≤ j by simpa using h')] at hj
      rcases hsl.2.2 with h0 | ⟨b, off, hb, hlt, hc⟩
      · have := hsl.1; omega
      · cases hb
        have hplain : (⟨b, off, none⟩ : Addr).add j = ⟨b, off + j, none⟩ := by unfold Addr.add; split <;> simp_all
        rw [hplain, hc j (by have := hsl.1; omega)]
        simp [List.getElem?_eq_getElem hjl] at hj
        subst hj
        simp [List.getD, List.getElem?_eq_getElem hjl]
    · intro u hu
      obtain ⟨z, _, rfl⟩ := List.mem_map.1 hu
      rfl
    · intro v' w' h1 h2 _
      exact h v' w' (by simpa using h1) h2
end Go.Proofs.YtkckobbedpccfaaDoor
