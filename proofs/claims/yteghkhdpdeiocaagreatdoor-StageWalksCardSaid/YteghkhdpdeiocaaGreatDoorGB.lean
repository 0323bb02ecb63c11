/-
  What a memory is in the heap, and what the small functions over it do: their contracts.
  What New, copied, Equal, Same and Clone do: their contracts.
  What Equal, Same, Clone, place and number do: their contracts.
  What number, Load, Store, Bytes, Put and Clear of a memory do: their contracts.
-/
import Derived.Test.YteghkhdpdeiocaaGreatDoorGA
import Derived.Laws.CopyOwn
namespace Go.Proofs.YteghkhdpdeiocaaGreatDoor
open Go.RowKit
set_option linter.unusedVariables false
set_option maxRecDepth 100000

/-- a memory that New or Clone made: its block b, the row g of its bytes -/
structure MM (w : World) (b g : Nat) (zs : List Int) : Prop where
  cell : w.heap[b]? = some (.cells #[.slice (some ⟨g, 0, none⟩) zs.length zs.length] 117 (0, 0))
  row : w.heap[g]? = some (.cells (zs.map (Value.int .u8)).toArray 5 (0, 0))
  ne : b ≠ g
  bytes : Bytes zs
  pos : 0 < zs.length
  len : zs.length ≤ 16777216

theorem lt_of_heap {w : World} {b : Nat} {o : Obj} (h : w.heap[b]? = some o) : b < w.heap.size := (Array.getElem?_eq_some_iff.1 h).1
theorem MM.blt {w : World} {b g : Nat} {zs : List Int} (h : MM w b g zs) : b < w.heap.size := lt_of_heap h.cell
theorem MM.glt {w : World} {b g : Nat} {zs : List Int} (h : MM w b g zs) : g < w.heap.size := lt_of_heap h.row
theorem MM.cell0 {w : World} {b g : Nat} {zs : List Int} (h : MM w b g zs) : w.cell? ⟨b, 0, none⟩ = some (.slice (some ⟨g, 0, none⟩) zs.length zs.length) := by
  simp [World.cell?, h.cell]
theorem MM.rowAt {w : World} {b g : Nat} {zs : List Int} (h : MM w b g zs) (i : Nat) (hi : i < zs.length) : w.cell? ⟨g, i, none⟩ = some (.int .u8 (zs.getD i 0)) := by
  simp [World.cell?, h.row, List.getElem?_eq_getElem hi]
theorem MM.kept {w w' : World} {b g : Nat} {zs : List Int} (h : MM w b g zs) {r : Option Nat} (hk : w.grownBy w' r) (hb : some b ≠ r) (hg : some g ≠ r) : MM w' b g zs :=
  ⟨(hk.block b h.blt hb).trans h.cell, (hk.block g h.glt hg).trans h.row, h.ne, h.bytes, h.pos, h.len⟩
theorem MM.below {w w' : World} {b g : Nat} {zs : List Int} (h : MM w b g zs) (hk : Below w.heap.size w w') : MM w' b g zs :=
  ⟨(hk.block b h.blt).trans h.cell, (hk.block g h.glt).trans h.row, h.ne, h.bytes, h.pos, h.len⟩

theorem bytes_mid {zs : List Int} (h : Bytes zs) (o n : Nat) : Bytes ((zs.drop o).take n) := by
  intro i
  by_cases hi : i < n
  · have := h (o + i)
    simp only [List.getD, List.getElem?_take, hi, if_true, List.getElem?_drop] at this ⊢
    exact this
  · simp [List.getD, List.getElem?_take, hi]
/-- a piece of its bytes, as a slice -/
theorem MM.sl {w : World} {b g : Nat} {zs : List Int} (h : MM w b g zs) (o n : Nat) (hn : o + n ≤ zs.length) : SL w (some ⟨g, o, none⟩) n ((zs.drop o).take n) := by
  refine ⟨by simp; omega, bytes_mid h.bytes o n, .inr ⟨g, o, rfl, h.glt, fun i hi => ?_⟩⟩
  rw [h.rowAt (o + i) (by omega)]
  simp [List.getD, hi, List.getElem?_drop]
theorem MM.slAll {w : World} {b g : Nat} {zs : List Int} (h : MM w b g zs) : SL w (some ⟨g, 0, none⟩) zs.length zs := by
  have := h.sl 0 zs.length (by omega)
  simpa using this

/-- what stands in the memory that p points to: nothing, if p is nil or no call made it -/
def HV (w : World) (p v : Value) : Prop := (p = .pointer none ∧ v = .slice none 0 0) ∨ ∃ b, p = .pointer (some ⟨b, 0, none⟩) ∧ b < w.heap.size ∧ w.cell? ⟨b, 0, none⟩ = some v
theorem MM.hv {w : World} {b g : Nat} {zs : List Int} (h : MM w b g zs) : HV w (.pointer (some ⟨b, 0, none⟩)) (.slice (some ⟨g, 0, none⟩) zs.length zs.length) := .inr ⟨b, rfl, h.blt, h.cell0⟩
theorem HV.nil (w : World) : HV w (.pointer none) (.slice none 0 0) := .inl ⟨rfl, rfl⟩
theorem HV.below {w w' : World} {p v : Value} (h : HV w p v) (hk : Below w.heap.size w w') : HV w' p v := by
  rcases h with h | ⟨b, rfl, hlt, hc⟩
  · exact .inl h
  · exact .inr ⟨b, rfl, Nat.lt_of_lt_of_le hlt hk.size, ((bcell hk).1 b 0 hlt).trans hc⟩

theorem held_any (p v : Value) (w : World) (h : HV w p v) : Calls Tryz.prog 81 #[p] w fun e w' => e = .returned v ∧ w' = w := by
  rcases h with ⟨rfl, rfl⟩ | ⟨b, rfl, hlt, hc⟩
  · go_enter Tryz.func81, Tryz.ntmps81
    go_wp2
    go_ret
    exact ⟨rfl, rfl⟩
  · go_enter Tryz.func81, Tryz.ntmps81
    go_wp2
    go_ret
    exact ⟨rfl, rfl⟩
theorem made_any (p : Value) (a : Option Addr) (n c : Nat) (w : World) (h : HV w p (.slice a n c)) : Calls Tryz.prog 70 #[p] w fun e w' => e = .returned (.bool (decide (0 < n))) ∧ w' = w := by
  go_enter Tryz.func70, Tryz.ntmps70
  go_wp2_with fail
  refine (held_any _ _ _ h).mono ?_
  rintro e w1 ⟨rfl, rfl⟩
  go_wp2_with fail
  go_ret
  exact ⟨ret_bool (by simp), rfl⟩
end Go.Proofs.YteghkhdpdeiocaaGreatDoor
namespace Go.Proofs.YteghkhdpdeiocaaGreatDoor
open Go.RowKit
set_option linter.unusedVariables false
set_option maxRecDepth 4000

theorem made_zeros (n : Nat) : (madeCells (Value.int .u8 0).cells (n * 1)).toList = (List.replicate n (0 : Int)).map (Value.int .u8) := by
  apply List.ext_getElem (by simp [madeCells])
  intro i h1 h2
  simp [madeCells, Value.cells, Nat.mod_one]
theorem bytes_zeros (n : Nat) : Bytes (List.replicate n 0) := by
  intro i
  by_cases h : i < n
  · simp [List.getD, h]
  · simp [List.getD, h]
/-- a whole row of the call's own, as its block reads -/
theorem own_heap {w : World} {base g n : Nat} {zs : List Int} (h : w.ownsRow base 5 1 (.slice (some ⟨g, 0, none⟩) n n) n (zs.map (Value.int .u8))) : w.heap[g]? = some (.cells (zs.map (Value.int .u8)).toArray 5 (0, 0)) ∧ zs.length = n ∧ base ≤ g := by
  have hl : zs.length = n := by have := h.1; simpa using this
  rcases h.2 with ⟨h', _⟩ | ⟨g', cap', cur, h', hb, hg, hn, hm, hsz, htk⟩
  · cases h'
  · cases h'
    refine ⟨?_, hl, hb⟩
    rw [hg]
    have : cur.toList = zs.map (Value.int .u8) := by rw [← htk, List.take_of_length_le (by simp; omega)]
    rw [← this]

theorem heap_alloc_at (w : World) (o : Obj) : (w.alloc o).heap[w.heap.size]? = some o := by show (w.heap.push o)[w.heap.size]? = _; simp
theorem heap_alloc_past (w : World) (o : Obj) {k : Nat} (h : k < w.heap.size) : (w.alloc o).heap[k]? = w.heap[k]? := by show (w.heap.push o)[k]? = _; simp [Array.getElem?_push, Nat.ne_of_lt h]
/-- a whole row of the call's own, boxed as a memory -/
theorem MM.box {w : World} {base g n : Nat} {zs : List Int} (h : w.ownsRow base 5 1 (.slice (some ⟨g, 0, none⟩) n n) n (zs.map (Value.int .u8))) (hB : Bytes zs) (h1 : 0 < n) (h2 : n ≤ 16777216) :
    MM (w.alloc (.cells #[.slice (some ⟨g, 0, none⟩) n n] 117)) w.heap.size g zs := by
  obtain ⟨hh, rfl, hb⟩ := own_heap h
  have hlt := lt_of_heap hh
  exact ⟨heap_alloc_at _ _, (heap_alloc_past _ _ hlt).trans hh, by omega, hB, h1, h2⟩
theorem new_no (f : Int) (w : World) (h : ¬ (1 ≤ f ∧ f ≤ 65536)) :
    Calls Tryz.prog 14 #[.int .i64 f] w fun e w' => e = .returned (.tuple #[.pointer none, .int .i64 2]) ∧ w' = w := by
  by_cases h1 : f < 1
  · go_enter Tryz.func14, Tryz.ntmps14
    go_wp2
    go_ret2
    exact ⟨rfl, rfl⟩
  · have h2 : 65536 < f := by omega
    go_enter Tryz.func14, Tryz.ntmps14
    go_wp2
    go_ret2
    exact ⟨rfl, rfl⟩
theorem new_yes (f : Nat) (w : World) (h1 : 1 ≤ f) (h2 : f ≤ 65536) :
    Calls Tryz.prog 14 #[.int .i64 f] w fun e w' => ∃ b g, e = .returned (.tuple #[.pointer (some ⟨b, 0, none⟩), .int .i64 0]) ∧ MM w' b g (List.replicate (f * 256) 0) ∧ w.heap.size ≤ b ∧ w.heap.size ≤ g ∧ Below w.heap.size w w' := by
  obtain ⟨i0, hi, hz0, hz1, hz2⟩ := info_parts Tryz.info5
  go_enter Tryz.func14, Tryz.ntmps14
  go_wp2_with (at_make; refine wpList_make_full _ rfl _ _ 33 rfl w.heap.size 5 i0 (.int .u8 0) 1 Tryz.underlying33 hi hz0 hz1 _ _ _ _ (f * 256) rfl rfl (by omega) (by omega) (by rw [hz2]; omega) (by unfold maxLen; omega) (by simp) ?_; intro w2 hown2 hgrow2)
  rw [made_zeros] at hown2
  have hs2 := hgrow2.size
  go_ret2
  exact ⟨w2.heap.size, w.heap.size, rfl, MM.box hown2 (bytes_zeros _) (by omega) (by omega), hs2, Nat.le_refl _, ((Below.refl _ _).grown hgrow2 (by simp) (by intro k h; cases h)).alloc (by omega) _⟩

/-- copy of a slice of bytes into a row as long -/
theorem run_copy_sl {w : World} (ty : TypeId) (g off n : Nat) (dp sp : Option Addr) (dCap sCap m : Nat) (xs zs : List Int) (hg : w.heap[g]? = some (.cells (xs.map (Value.int .u8)).toArray 5 (0, 0))) (hsl : SL w sp m zs) (hnm : m = n) (hdp : n = 0 ∨ dp = some ⟨g, off, none⟩) (hfit : off + n ≤ xs.length) :
    ∃ w', (Builtin.copy_ #[33, 33] ty #[.slice dp n dCap, .slice sp m sCap]).run Tryz.prog w = .ok (goInt n) w' ∧ w'.heap[g]? = some (.cells ((splice xs off zs).map (Value.int .u8)).toArray 5 (0, 0)) ∧ w.grownBy w' (some g) := by
  subst hnm
  have hsz : (Tryz.prog.info? 5).map (·.size) = some 1 := by kernel_rfl
  obtain ⟨hl, hB, hc⟩ := hsl
  by_cases h0 : m = 0
  · subst h0
    obtain rfl : zs = [] := List.length_eq_zero_iff.1 hl
    exact ⟨w, run_copy_none (P := Tryz.prog) w 33 33 ty 5 dp sp 0 dCap 0 sCap Tryz.underlying33 hsz rfl, by simpa [splice] using hg, grown_refl _ _⟩
  · rcases hc with hc | ⟨b, o', rfl, hlt, hc⟩
    · omega
    rcases hdp with hdp | rfl
    · omega
    have hsrc : ∀ j v, (zs.map (Value.int .u8))[j]? = some v → w.cell? ((⟨b, o', none⟩ : Addr).add j) = some v := by
      intro j u hj
      have hjl : j < zs.length := by
        rcases Nat.lt_or_ge j zs.length with h' | h'
        · exact h'
        · simp [List.getElem?_eq_none (show (zs.map (Value.int .u8)).length ≤ j by simpa using h')] at hj
      have hplain : (⟨b, o', none⟩ : Addr).add j = ⟨b, o' + j, none⟩ := by unfold Addr.add; split <;> simp_all
      rw [hplain, hc j (by omega)]
      simp [List.getElem?_eq_getElem hjl] at hj
      subst hj
      simp [List.getD, List.getElem?_eq_getElem hjl]
    have hrun := run_copy_row (P := Tryz.prog) w 33 33 ty 5 g off m dCap ⟨b, o', none⟩ m sCap _ 5 (zs.map (Value.int .u8)) Tryz.underlying33 hsz hg (by simp [hl]) hsrc (by simp [hl]; omega) (by intro v hv; obtain ⟨z, _, rfl⟩ := List.mem_map.1 hv; rfl)
    rw [List.length_map, hl] at hrun
    refine ⟨_, hrun, ?_, ⟨rfl, rfl, rfl, by simp [World.setRow], fun k hk hne => setRow_other w g k _ (fun e => hne (by rw [e]))⟩⟩
    rw [setRow_heap w g _ _ 5 _ hg]
    simp [splice, hl]

theorem splice_all {α : Type} (xs zs : List α) (h : zs.length = xs.length) : splice xs 0 zs = zs := by simp [splice, h]
theorem own_of_heap {w : World} {base g n : Nat} {zs : List Int} (h : w.heap[g]? = some (.cells (zs.map (Value.int .u8)).toArray 5 (0, 0))) (hn : zs.length = n) (hb : base ≤ g) (hm : n ≤ maxLen) : w.ownsRow base 5 1 (.slice (some ⟨g, 0, none⟩) n n) n (zs.map (Value.int .u8)) :=
  ⟨by simp [hn], .inr ⟨g, n, _, rfl, hb, h, Nat.le_refl _, hm, by simp [hn], by rw [Nat.mul_one]; exact List.take_of_length_le (by simp [hn])⟩⟩

end Go.Proofs.YteghkhdpdeiocaaGreatDoor
namespace Go.Proofs.YteghkhdpdeiocaaGreatDoor
open Go.RowKit
set_option linter.unusedVariables false
set_option maxRecDepth 100000

theorem str_inj {xs ys : List Int} (hx : Bytes xs) (hy : Bytes ys) (h : strOfNums xs = strOfNums ys) : xs = ys := by
  have hl : xs.length = ys.length := by rw [← strOfNums_size xs, ← strOfNums_size ys, h]
  apply List.ext_getElem hl
  intro i h1 h2
  have hd : (strOfNums xs).data = (strOfNums ys).data := by rw [h]
  have e : (strOfNums xs).data[i]? = (strOfNums ys).data[i]? := by rw [hd]
  simp [strOfNums, List.getElem?_eq_getElem h1, List.getElem?_eq_getElem h2] at e
  have a := hx i
  have b := hy i
  simp [List.getD, List.getElem?_eq_getElem h1] at a
  simp [List.getD, List.getElem?_eq_getElem h2] at b
  generalize xs[i] = x at *
  generalize ys[i] = y at *
  have e2 := congrArg UInt8.toNat e
  simp at e2
  omega
theorem str_eq (xs ys : List Int) (hx : Bytes xs) (hy : Bytes ys) : ((strOfNums xs).toList == (strOfNums ys).toList) = decide (xs = ys) := by
  by_cases h : xs = ys
  · subst h; simp
  · have : ¬ (strOfNums xs).toList = (strOfNums ys).toList := by
      intro e
      rw [ByteArray.toList_eq, ByteArray.toList_eq] at e
      exact h (str_inj hx hy (ByteArray.ext (Array.toList_inj.1 e)))
    simp [h, this]

theorem SL.nil (w : World) (a : Option Addr) : SL w a 0 [] := ⟨rfl, by intro i; simp, .inl rfl⟩

theorem place_nobody (p : Value) (t n : Int) (w : World) (h : HV w p (.slice none 0 0)) :
    Calls Tryz.prog 34 #[p, .int .u64 t, .int .i64 n] w fun e w' => e = .returned (.tuple #[.slice none 0 0, .int .i64 1]) ∧ w' = w := by
  go_enter Tryz.func34, Tryz.ntmps34
  go_wp2_with fail
  refine (made_any _ _ _ _ _ h).mono ?_
  rintro e w1 ⟨rfl, rfl⟩
  go_wp2_with fail
  go_ret2
  exact ⟨rfl, rfl⟩
theorem place_neg (b g : Nat) (zs : List Int) (t n : Int) (w : World) (h : MM w b g zs) (hn : n < 0) :
    Calls Tryz.prog 34 #[.pointer (some ⟨b, 0, none⟩), .int .u64 t, .int .i64 n] w fun e w' => e = .returned (.tuple #[.slice none 0 0, .int .i64 2]) ∧ w' = w := by
  have hd : decide (0 < zs.length) = true := decide_eq_true h.pos
  go_enter Tryz.func34, Tryz.ntmps34
  go_wp2_with fail
  refine (made_any _ _ _ _ _ h.hv).mono ?_
  rintro e w1 ⟨rfl, rfl⟩
  rw [hd]
  go_wp2_with fail
  go_ret2
  exact ⟨rfl, rfl⟩
theorem bounds_any (b g : Nat) (zs : List Int) (w : World) (h : MM w b g zs) :
    Calls Tryz.prog 71 #[.pointer (some ⟨b, 0, none⟩)] w fun e w' => e = .returned (.func (.func 91) #[] #[.pointer (some ⟨w.heap.size, 0, none⟩)]) ∧ w' = w.alloc (.cells #[.int .u64 zs.length] 47) := by
  have hmf : ∀ (fn : Fn) (first cap : Array Value) (w : World), (Instr.makeFunc fn first cap).run Tryz.prog w = .ok (.func fn first cap) w := fun _ _ _ _ => rfl
  have hc := h.cell0
  have hl := h.len
  have hlt := h.blt
  go_enter Tryz.func71, Tryz.ntmps71
  go_wp2
  go_ret
  exact ⟨rfl, rfl⟩
theorem within_fn (q : Nat) (t n s : Int) (w : World) (h0 : 0 ≤ t) (h1 : 0 ≤ n) (hs : 0 ≤ s) (hs' : s < 18446744073709551616) (hc : w.cell? ⟨q, 0, none⟩ = some (.int .u64 s)) :
    Calls Tryz.prog 91 #[.int .u64 t, .int .u64 n, .pointer (some ⟨q, 0, none⟩)] w fun e w' => e = .returned (.bool (decide (t + n ≤ s))) ∧ w' = w := by
  by_cases h : n ≤ s
  · go_enter Tryz.func91, Tryz.ntmps91
    go_wp2
    go_ret
    exact ⟨ret_bool (by simp; omega), rfl⟩
  · have h' : s < n := by omega
    go_enter Tryz.func91, Tryz.ntmps91
    go_wp2
    go_ret
    exact ⟨ret_bool (by simp; omega), rfl⟩

theorem to_u64 (n : Int) (h0 : 0 ≤ n) (h1 : n < 9223372036854775808) : IntKind.u64.wrap n = n := by rw [IntKind.wrap_u64]; omega
theorem place_out (b g : Nat) (zs : List Int) (t n : Int) (w : World) (h : MM w b g zs) (ht : 0 ≤ t) (ht' : t < 18446744073709551616) (hn : 0 ≤ n) (hn' : n < 9223372036854775808) (ho : ¬ t + n ≤ zs.length) :
    Calls Tryz.prog 34 #[.pointer (some ⟨b, 0, none⟩), .int .u64 t, .int .i64 n] w fun e w' => e = .returned (.tuple #[.slice none 0 0, .int .i64 12]) ∧ Below w.heap.size w w' := by
  have hd : decide (0 < zs.length) = true := decide_eq_true h.pos
  have hl := h.len
  have hd2 : decide (t + n ≤ (zs.length : Int)) = false := decide_eq_false ho
  go_enter Tryz.func34, Tryz.ntmps34
  go_wp2_with fail
  refine (made_any _ _ _ _ _ h.hv).mono ?_
  rintro e w1 ⟨rfl, rfl⟩
  rw [hd]
  go_wp2_with fail
  refine (bounds_any b g zs _ h).mono ?_
  rintro e w2 ⟨rfl, rfl⟩
  go_wp2_with fail
  refine (within_fn _ t n zs.length _ ht hn (by omega) (by omega) (by simp)).mono ?_
  rintro e w3 ⟨rfl, rfl⟩
  rw [hd2]
  go_wp2_with fail
  go_ret2
  exact ⟨rfl, (Below.refl _ _).alloc (Nat.le_refl _) _⟩
def PlaceIs (g T N : Nat) (e : Ending) : Prop := ∃ o, (N = 0 ∨ o = T) ∧ e = .returned (.tuple #[.slice (some ⟨g, o, none⟩) N N, .int .i64 0])
theorem place_in (b g : Nat) (zs : List Int) (T N : Nat) (w : World) (h : MM w b g zs) (ho : T + N ≤ zs.length) :
    Calls Tryz.prog 34 #[.pointer (some ⟨b, 0, none⟩), .int .u64 T, .int .i64 N] w fun e w' => PlaceIs g T N e ∧ Below w.heap.size w w' := by
  have hd : decide (0 < zs.length) = true := decide_eq_true h.pos
  have hl := h.len
  have hd2 : decide ((T : Int) + N ≤ (zs.length : Int)) = true := decide_eq_true (by omega)
  have hc := h.cell0
  have hlt := h.blt
  go_enter Tryz.func34, Tryz.ntmps34
  go_wp2_with fail
  refine (made_any _ _ _ _ _ h.hv).mono ?_
  rintro e w1 ⟨rfl, rfl⟩
  rw [hd]
  go_wp2_with fail
  refine (bounds_any b g zs _ h).mono ?_
  rintro e w2 ⟨rfl, rfl⟩
  go_wp2_with fail
  refine (within_fn _ T N zs.length _ (by omega) (by omega) (by omega) (by omega) (by simp)).mono ?_
  rintro e w3 ⟨rfl, rfl⟩
  rw [hd2]
  clear hd hd2
  go_wp2_with fail
  · go_ret2
    exact ⟨⟨0, .inl (by omega), by simp; omega⟩, (Below.refl _ _).alloc (Nat.le_refl _) _⟩
  · go_ret2
    exact ⟨⟨T, .inr rfl, rfl⟩, (Below.refl _ _).alloc (Nat.le_refl _) _⟩
end Go.Proofs.YteghkhdpdeiocaaGreatDoor
namespace Go.Proofs.YteghkhdpdeiocaaGreatDoor
open Go.RowKit
set_option linter.unusedVariables false
set_option maxRecDepth 100000

theorem SZ.below {w w' : World} (h : SZ w) (hb : Below w.heap.size w w') : SZ w' := by
  have hs := hb.size
  obtain ⟨hc, _⟩ := bcell hb
  obtain ⟨c0, c1, c2, c3, c4, c5, hp⟩ := h
  exact ⟨(hc _ _ hp).trans c0, (hc _ _ hp).trans c1, (hc _ _ hp).trans c2, (hc _ _ hp).trans c3, (hc _ _ hp).trans c4, (hc _ _ hp).trans c5, by omega⟩
theorem SZ.kept {w w' : World} (h : SZ w) {g : Nat} (hg : 1 < g) (hb : w.grownBy w' (some g)) : SZ w' := by
  have hs := hb.size
  obtain ⟨c0, c1, c2, c3, c4, c5, hp⟩ := h
  have hk := hb.block 1 hp (by simp; omega)
  have hc : ∀ o, w'.cell? ⟨1, o, none⟩ = w.cell? ⟨1, o, none⟩ := fun o => World.cell?_of_block (a := ⟨1, o, none⟩) hk
  exact ⟨(hc _).trans c0, (hc _).trans c1, (hc _).trans c2, (hc _).trans c3, (hc _).trans c4, (hc _).trans c5, by omega⟩

def isW (n : Int) : Prop := n = 1 ∨ n = 4 ∨ n = 8
instance (n : Int) : Decidable (isW n) := inferInstanceAs (Decidable (n = 1 ∨ n = 4 ∨ n = 8))
/-- P4.2: the error of a number's place -/
def numE (len : Nat) (t n : Int) : Int := if ¬ isW n then 2 else if ¬ t % n = 0 then 11 else if ¬ t + n ≤ len then 12 else 0
/-- P4.3: the error of bytes' place -/
def plcE (len : Nat) (t n : Int) : Int := if n < 0 then 2 else if ¬ t + n ≤ len then 12 else 0
theorem numE_zero {len : Nat} {t n : Int} (h : numE len t n = 0) : isW n ∧ t % n = 0 ∧ t + n ≤ len := by
  unfold numE at h
  by_cases h1 : isW n
  · by_cases h2 : t % n = 0
    · by_cases h3 : t + n ≤ len
      · exact ⟨h1, h2, h3⟩
      · simp [h1, h2, h3] at h
    · simp [h1, h2] at h
  · simp [h1] at h
theorem plcE_zero {len : Nat} {t n : Int} (h : plcE len t n = 0) : 0 ≤ n ∧ t + n ≤ len := by
  unfold plcE at h
  by_cases h1 : n < 0
  · simp [h1] at h
  · by_cases h3 : t + n ≤ len
    · exact ⟨by omega, h3⟩
    · simp [h1, h3] at h

/-- a place with an error: no bytes of it -/
def NoPlace (x : Int) (e : Ending) : Prop := e = .returned (.tuple #[.slice none 0 0, .int .i64 x])

theorem number_nobody (p : Value) (t n : Int) (w : World) (h : HV w p (.slice none 0 0)) :
    Calls Tryz.prog 97 #[p, .int .u64 t, .int .i64 n] w fun e w' => NoPlace 1 e ∧ w' = w := by
  go_enter Tryz.func97, Tryz.ntmps97
  go_wp2_with fail
  refine (made_any _ _ _ _ _ h).mono ?_
  rintro e w1 ⟨rfl, rfl⟩
  go_wp2_with fail
  go_ret2
  exact ⟨rfl, rfl⟩
theorem number_no (b g : Nat) (zs : List Int) (t n : Int) (w : World) (h : MM w b g zs) (ht : 0 ≤ t) (ht' : t < 18446744073709551616) (hn' : n < 9223372036854775808) (he : numE zs.length t n ≠ 0) :
    Calls Tryz.prog 97 #[.pointer (some ⟨b, 0, none⟩), .int .u64 t, .int .i64 n] w fun e w' => NoPlace (numE zs.length t n) e ∧ Below w.heap.size w w' := by
  have hd : decide (0 < zs.length) = true := decide_eq_true h.pos
  by_cases h1 : isW n
  · have h1' : n = 1 ∨ n = 4 ∨ n = 8 := h1
    by_cases h2 : t % n = 0
    · have h3 : ¬ t + n ≤ zs.length := fun h3 => he (by simp [numE, h1, h2, h3])
      have HE : Hid (numE zs.length t n = 12) := by show _ = _; simp [numE, h1, h2, h3]
      clear he
      rcases h1' with rfl | rfl | rfl
      all_goals
        go_enter Tryz.func97, Tryz.ntmps97
        go_wp2_with fail
        refine (made_any _ _ _ _ _ h.hv).mono ?_
        rintro e w1 ⟨rfl, rfl⟩
        rw [hd]
        go_wp2_with fail
        refine (place_out b g zs _ _ _ h ht ht' (by omega) (by omega) (by omega)).mono ?_
        rintro e w2 ⟨rfl, hb2⟩
        go_wp2_with fail
        go_ret2
        exact ⟨by rw [HE.out]; rfl, hb2⟩
    · have HE : Hid (numE zs.length t n = 11) := by show _ = _; simp [numE, h1, h2]
      clear he
      have h1'' : n = 4 ∨ n = 8 := by
        rcases h1' with rfl | h | h
        · omega
        · exact .inl h
        · exact .inr h
      rcases h1'' with rfl | rfl
      all_goals
        go_enter Tryz.func97, Tryz.ntmps97
        go_wp2_with fail
        refine (made_any _ _ _ _ _ h.hv).mono ?_
        rintro e w1 ⟨rfl, rfl⟩
        rw [hd]
        go_wp2_with fail
        go_ret2
        exact ⟨by rw [HE.out]; rfl, Below.refl _ _⟩
  · have HE : Hid (numE zs.length t n = 2) := by show _ = _; simp [numE, h1]
    clear he
    have e1 : (n != 1) = true := by rw [bne_iff_ne]; exact fun e => h1 (.inl e)
    have e4 : (n != 4) = true := by rw [bne_iff_ne]; exact fun e => h1 (.inr (.inl e))
    have e8 : (n != 8) = true := by rw [bne_iff_ne]; exact fun e => h1 (.inr (.inr e))
    go_enter Tryz.func97, Tryz.ntmps97
    go_wp2_with fail
    refine (made_any _ _ _ _ _ h.hv).mono ?_
    rintro e w1 ⟨rfl, rfl⟩
    rw [hd]
    go_wp2_with fail
    go_ret2
    exact ⟨by rw [HE.out]; rfl, Below.refl _ _⟩
theorem number_yes (b g : Nat) (zs : List Int) (T N : Nat) (w : World) (h : MM w b g zs) (hw : isW N) (ha : (T : Int) % N = 0) (ho : T + N ≤ zs.length) :
    Calls Tryz.prog 97 #[.pointer (some ⟨b, 0, none⟩), .int .u64 T, .int .i64 N] w fun e w' => e = .returned (.tuple #[.slice (some ⟨g, T, none⟩) N N, .int .i64 0]) ∧ Below w.heap.size w w' := by
  have hd : decide (0 < zs.length) = true := decide_eq_true h.pos
  have hl := h.len
  have hw' : N = 1 ∨ N = 4 ∨ N = 8 := by unfold isW at hw; omega
  have HP := place_in b g zs T N w h ho
  rcases hw' with rfl | rfl | rfl
  all_goals
    go_enter Tryz.func97, Tryz.ntmps97
    go_wp2_with fail
    refine (made_any _ _ _ _ _ h.hv).mono ?_
    rintro e w1 ⟨rfl, rfl⟩
    rw [hd]
    go_wp2_with fail
    refine HP.mono ?_
    rintro e w2 ⟨⟨o, ho, rfl⟩, hb2⟩
    obtain rfl : o = T := by omega
    go_wp2_with fail
    go_ret2
    exact ⟨rfl, hb2⟩

def loadV (zs : List Int) (t n : Int) : Int := if numE zs.length t n = 0 then extW n (leFrom zs t.toNat n.toNat) else 0
def storeV (zs : List Int) (t n v : Int) : List Int := if numE zs.length t n = 0 then splice zs t.toNat (bytesOf v n.toNat) else zs

theorem leFrom_mid (zs : List Int) : ∀ (m k o n : Nat), k + m ≤ n → leFrom ((zs.drop o).take n) k m = leFrom zs (o + k) m
  | 0, _, _, _, _ => rfl
  | m + 1, k, o, n, h => by
    rw [leFrom, leFrom, leFrom_mid zs m (k + 1) o n (by omega), show o + (k + 1) = o + k + 1 by omega]
    simp [List.getD, show k < n by omega, List.getElem?_drop]

theorem mload_nobody (p : Value) (t n : Int) (w : World) (h : HV w p (.slice none 0 0)) :
    Calls Tryz.prog 82 #[p, .int .u64 t, .int .i64 n] w fun e w' => e = .returned (.tuple #[.int .u64 0, .int .i64 1]) ∧ w' = w := by
  go_enter Tryz.func82, Tryz.ntmps82
  go_wp2_with fail
  refine (number_nobody _ _ _ _ h).mono ?_
  rintro e w1 ⟨rfl, rfl⟩
  go_wp2_with fail
  go_ret2
  exact ⟨rfl, rfl⟩
theorem mload_mm (b g : Nat) (zs : List Int) (t n : Int) (w : World) (hz : SZ w) (h : MM w b g zs) (ht : 0 ≤ t) (ht' : t < 18446744073709551616) (hn' : n < 9223372036854775808) :
    Calls Tryz.prog 82 #[.pointer (some ⟨b, 0, none⟩), .int .u64 t, .int .i64 n] w fun e w' => e = .returned (.tuple #[.int .u64 (loadV zs t n), .int .i64 (numE zs.length t n)]) ∧ Below w.heap.size w w' := by
  by_cases he : numE zs.length t n = 0
  · obtain ⟨h1, h2, h3⟩ := numE_zero he
    have hn0 : 0 ≤ n := by unfold isW at h1; omega
    obtain ⟨T, rfl⟩ := Int.eq_ofNat_of_zero_le ht
    obtain ⟨N, rfl⟩ := Int.eq_ofNat_of_zero_le hn0
    have HE : Hid (extW N (leFrom ((zs.drop T).take N) 0 N) = loadV zs T N) := by
      show _ = _
      rw [loadV, if_pos he, Int.toNat_natCast, Int.toNat_natCast, leFrom_mid zs N 0 T N (by omega), Nat.add_zero]
    have hN : N ≤ 8 := by unfold isW at h1; omega
    rw [he]
    clear he
    go_enter Tryz.func82, Tryz.ntmps82
    go_wp2_with fail
    refine (number_yes b g zs T N _ h h1 h2 (by omega)).mono ?_
    rintro e w1 ⟨rfl, hb1⟩
    have hz1 := SZ.below hz hb1
    have hm1 := h.below hb1
    have hsl := hm1.sl T N (by omega)
    go_wp2_with fail
    refine (load_yes g T N N 0 N ((zs.drop T).take N) _ hz1 h1 (by omega) (by unfold maxLen; omega) hm1.glt ?_ hsl.2.1).mono ?_
    · intro i hi
      rcases hsl.2.2 with h0 | ⟨b', off, hb', _, hc⟩
      · omega
      · cases hb'; exact hc i hi
    rintro e w2 ⟨rfl, hb2⟩
    rw [HE.out]
    go_wp2_with fail
    go_ret2
    exact ⟨rfl, hb1.trans (hb2.mono hb1.size)⟩
  · have HE : Hid (loadV zs t n = 0) := by show _ = _; rw [loadV, if_neg he]
    have he' : (numE zs.length t n != 0) = true := by rw [bne_iff_ne]; exact he
    have HN := number_no b g zs t n w h ht ht' hn' he
    rw [HE.out]
    clear he HE
    generalize numE zs.length t n = x at *
    go_enter Tryz.func82, Tryz.ntmps82
    go_wp2_with fail
    refine HN.mono ?_
    rintro e w1 ⟨rfl, hb1⟩
    go_wp2_with fail
    go_ret2
    exact ⟨rfl, hb1⟩

/-- the memory's row written anew -/
theorem MM.wrote {w w' : World} {b g : Nat} {zs ys : List Int} (h : MM w b g zs) (hl : ys.length = zs.length) (hB : Bytes ys) (hr : w'.heap[g]? = some (.cells (ys.map (Value.int .u8)).toArray 5 (0, 0))) (hk : w.grownBy w' (some g)) : MM w' b g ys := by
  refine ⟨?_, hr, h.ne, hB, by have := h.pos; omega, by have := h.len; omega⟩
  rw [hk.block b h.blt (by have := h.ne; simp; omega), hl]
  exact h.cell
theorem bytes_splice {zs ys : List Int} (h : Bytes zs) (h' : Bytes ys) (o : Nat) (ho : o + ys.length ≤ zs.length) : Bytes (splice zs o ys) := by
  intro i
  have a := h i
  have b := h' (i - o)
  unfold splice
  simp only [List.getD, List.getElem?_append, List.length_take, List.getElem?_take, List.getElem?_drop] at *
  by_cases h1 : i < o
  · have : i < min o zs.length := by omega
    simp only [this, h1, if_true]; exact a
  · have e1 : ¬ i < min o zs.length := by omega
    have e2 : min o zs.length = o := by omega
    simp only [h1, if_false, e2]
    by_cases h2 : i - o < ys.length
    · simp only [h2, if_true]; exact b
    · simp only [h2, if_false]
      rw [show o + ys.length + (i - o - ys.length) = i by omega]; exact a
theorem grown_some {w w' : World} (h : Below w.heap.size w w') (r : Option Nat) : w.grownBy w' r := ⟨h.os, h.tape, h.output, h.size, fun k hk _ => h.block k hk⟩

theorem mstore_nobody (p : Value) (t n v : Int) (w : World) (hz : SZ w) (h : HV w p (.slice none 0 0)) (h0 : 0 ≤ v) (h1 : v < 18446744073709551616) :
    Calls Tryz.prog 99 #[p, .int .u64 t, .int .i64 n, .int .u64 v] w fun e w' => e = .returned (.int .i64 1) ∧ Below w.heap.size w w' := by
  by_cases hn : n = 1 ∨ n = 4 ∨ n = 8
  · obtain ⟨N, rfl⟩ := Int.eq_ofNat_of_zero_le (show 0 ≤ n by omega)
    go_enter Tryz.func99, Tryz.ntmps99
    go_wp2_with fail
    refine (number_nobody _ _ _ _ h).mono ?_
    rintro e w1 ⟨rfl, rfl⟩
    go_wp2_with fail
    refine (store_yes v N _ hz hn h0 h1).mono ?_
    rintro e w2 ⟨g2, rfl, hown, hb2⟩
    have hr := run_copy_none (P := Tryz.prog) w2 33 33 3 5 none (some ⟨g2, 0, none⟩) 0 0 N N Tryz.underlying33 (by kernel_rfl) (by simp)
    clear hown
    go_wp2_with fail
    go_ret
    exact ⟨rfl, hb2⟩
  · go_enter Tryz.func99, Tryz.ntmps99
    go_wp2_with fail
    refine (number_nobody _ _ _ _ h).mono ?_
    rintro e w1 ⟨rfl, rfl⟩
    go_wp2_with fail
    refine (store_no v n _ hz hn).mono ?_
    rintro e w2 ⟨rfl, hb2⟩
    have hr := run_copy_none (P := Tryz.prog) w2 33 33 3 5 none none 0 0 0 0 Tryz.underlying33 (by kernel_rfl) (by simp)
    go_wp2_with fail
    go_ret
    exact ⟨rfl, hb2⟩

theorem mstore_mm (b g : Nat) (zs : List Int) (t n v : Int) (w : World) (hz : SZ w) (h : MM w b g zs) (ht : 0 ≤ t) (ht' : t < 18446744073709551616) (hn' : n < 9223372036854775808) (h0 : 0 ≤ v) (h1 : v < 18446744073709551616) :
    Calls Tryz.prog 99 #[.pointer (some ⟨b, 0, none⟩), .int .u64 t, .int .i64 n, .int .u64 v] w fun e w' => e = .returned (.int .i64 (numE zs.length t n)) ∧ MM w' b g (storeV zs t n v) ∧ w.grownBy w' (some g) := by
  by_cases he : numE zs.length t n = 0
  · obtain ⟨k1, k2, k3⟩ := numE_zero he
    have hn0 : 0 ≤ n := by unfold isW at k1; omega
    obtain ⟨T, rfl⟩ := Int.eq_ofNat_of_zero_le ht
    obtain ⟨N, rfl⟩ := Int.eq_ofNat_of_zero_le hn0
    have HE : Hid (storeV zs T N v = splice zs T (bytesOf v N)) := by show _ = _; rw [storeV, if_pos he, Int.toNat_natCast, Int.toNat_natCast]
    have hN : N ≤ 8 := by unfold isW at k1; omega
    rw [he, HE.out]
    clear he HE
    go_enter Tryz.func99, Tryz.ntmps99
    go_wp2_with fail
    refine (number_yes b g zs T N _ h k1 k2 (by omega)).mono ?_
    rintro e w1 ⟨rfl, hb1⟩
    have hz1 := SZ.below hz hb1
    have hm1 := h.below hb1
    go_wp2_with fail
    refine (store_yes v N _ hz1 k1 h0 h1).mono ?_
    rintro e w2 ⟨g2, rfl, hown, hb2⟩
    have hm2 := hm1.below hb2
    have hs2 := SL.own hown (bytesOf_bytes v N)
    obtain ⟨w3, hr3, hg3, hgr3⟩ := run_copy_sl 3 g T N (some ⟨g, T, none⟩) (some ⟨g2, 0, none⟩) N N N zs (bytesOf v N) hm2.row hs2 rfl (.inr rfl) (by omega)
    have hlen := length_splice zs T (bytesOf v N) (by rw [bytesOf_len]; omega)
    have hm3 := hm2.wrote hlen (bytes_splice h.bytes (bytesOf_bytes v N) T (by rw [bytesOf_len]; omega)) hg3 hgr3
    have HM : Hid (_) := hm3
    have hk : w.grownBy w3 (some g) := grown_trans (grown_some (hb1.trans (hb2.mono hb1.size)) _) hgr3
    clear hown hg3 hm3 hs2 hm1 hm2
    go_wp2_with fail
    go_ret
    exact ⟨rfl, HM.out, hk⟩
  · have HE : Hid (storeV zs t n v = zs) := by show _ = _; rw [storeV, if_neg he]
    have HN := number_no b g zs t n w h ht ht' hn' he
    rw [HE.out]
    clear he HE
    generalize numE zs.length t n = x at *
    by_cases hn : n = 1 ∨ n = 4 ∨ n = 8
    · obtain ⟨N, rfl⟩ := Int.eq_ofNat_of_zero_le (show 0 ≤ n by omega)
      go_enter Tryz.func99, Tryz.ntmps99
      go_wp2_with fail
      refine HN.mono ?_
      rintro e w1 ⟨rfl, hb1⟩
      have hz1 := SZ.below hz hb1
      go_wp2_with fail
      refine (store_yes v N _ hz1 hn h0 h1).mono ?_
      rintro e w2 ⟨g2, rfl, hown, hb2⟩
      have hr := run_copy_none (P := Tryz.prog) w2 33 33 3 5 none (some ⟨g2, 0, none⟩) 0 0 N N Tryz.underlying33 (by kernel_rfl) (by simp)
      clear hown
      go_wp2_with fail
      go_ret
      exact ⟨rfl, (h.below hb1).below hb2, grown_some (hb1.trans (hb2.mono hb1.size)) _⟩
    · go_enter Tryz.func99, Tryz.ntmps99
      go_wp2_with fail
      refine HN.mono ?_
      rintro e w1 ⟨rfl, hb1⟩
      have hz1 := SZ.below hz hb1
      go_wp2_with fail
      refine (store_no v n _ hz1 hn).mono ?_
      rintro e w2 ⟨rfl, hb2⟩
      have hr := run_copy_none (P := Tryz.prog) w2 33 33 3 5 none none 0 0 0 0 Tryz.underlying33 (by kernel_rfl) (by simp)
      go_wp2_with fail
      go_ret
      exact ⟨rfl, (h.below hb1).below hb2, grown_some (hb1.trans (hb2.mono hb1.size)) _⟩
end Go.Proofs.YteghkhdpdeiocaaGreatDoor
