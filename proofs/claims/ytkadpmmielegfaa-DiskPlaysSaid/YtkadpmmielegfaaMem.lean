/-
  What Bytes and Put of a memory do, and the document's memory: their contracts.
-/
import Derived.Test.YtkadpmmielegfaaBase
namespace Go.Proofs.Ytkadpmmielegfaa
open Go.RowKit
set_option linter.unusedVariables false
set_option maxRecDepth 20000

theorem str_inj {xs ys : List Int} (hx : Bytes xs) (hy : Bytes ys) (h : strOfNums xs = strOfNums ys) : xs = ys := by
  have hl : xs.length = ys.length := by rw [← strOfNums_size xs, ← strOfNums_size ys, h]
  apply List.ext_getElem hl
  intro i h1 h2
  have hd : (strOfNums xs).data = (strOfNums ys).data := by rw [h]
  have e : (strOfNums xs).data[i]? = (strOfNums ys).data[i]? := by rw [hd]
  simp [strOfNums, List.getElem?_eq_getElem h1, List.getElem?_eq_getElem h2] at e
  have a := hx i
  have b := hy i
  simp [List.getD, List.getElem?_eq_getElem h1] at a
  simp [List.getD, List.getElem?_eq_getElem h2] at b
  generalize xs[i] = x at *
  generalize ys[i] = y at *
  have e2 := congrArg UInt8.toNat e
  simp at e2
  omega
theorem str_eq (xs ys : List Int) (hx : Bytes xs) (hy : Bytes ys) : ((strOfNums xs).toList == (strOfNums ys).toList) = decide (xs = ys) := by
  by_cases h : xs = ys
  · subst h; simp
  · have : ¬ (strOfNums xs).toList = (strOfNums ys).toList := by
      intro e
      rw [ByteArray.toList_eq, ByteArray.toList_eq] at e
      exact h (str_inj hx hy (ByteArray.ext (Array.toList_inj.1 e)))
    simp [h, this]
theorem equal_any (a b : Option Addr) (n m c d : Nat) (xs ys : List Int) (w : World) (hx : SL w a n xs) (hy : SL w b m ys) :
    Calls Try.prog 42 #[.slice a n c, .slice b m d] w fun e w' => e = .returned (.bool (decide (xs = ys))) ∧ w' = w := by
  have v1 := conv_sl c hx
  have v2 := conv_sl d hy
  have HE : Hid (_) := str_eq xs ys hx.2.1 hy.2.1
  clear hx hy
  go_enter Try.func42, Try.ntmps42
  go_wp2_with fail
  go_ret
  exact ⟨ret_bool HE.out, rfl⟩
theorem SL.nil (w : World) (a : Option Addr) : SL w a 0 [] := ⟨rfl, by intro i; simp, .inl rfl⟩
theorem place_nobody (p : Value) (t n : Int) (w : World) (h : HV w p (.slice none 0 0)) :
    Calls Try.prog 34 #[p, .int .u64 t, .int .i64 n] w fun e w' => e = .returned (.tuple #[.slice none 0 0, .int .i64 1]) ∧ w' = w := by
  go_enter Try.func34, Try.ntmps34
  go_wp2_with fail
  refine (made_any _ _ _ _ _ h).mono ?_
  rintro e w1 ⟨rfl, rfl⟩
  go_wp2_with fail
  go_ret2
  exact ⟨rfl, rfl⟩
theorem place_neg (b g : Nat) (zs : List Int) (t n : Int) (w : World) (h : MM w b g zs) (hn : n < 0) :
    Calls Try.prog 34 #[.pointer (some ⟨b, 0, none⟩), .int .u64 t, .int .i64 n] w fun e w' => e = .returned (.tuple #[.slice none 0 0, .int .i64 2]) ∧ w' = w := by
  have hd : decide (0 < zs.length) = true := decide_eq_true h.pos
  go_enter Try.func34, Try.ntmps34
  go_wp2_with fail
  refine (made_any _ _ _ _ _ h.hv).mono ?_
  rintro e w1 ⟨rfl, rfl⟩
  rw [hd]
  go_wp2_with fail
  go_ret2
  exact ⟨rfl, rfl⟩
theorem bounds_any (b g : Nat) (zs : List Int) (w : World) (h : MM w b g zs) :
    Calls Try.prog 44 #[.pointer (some ⟨b, 0, none⟩)] w fun e w' => e = .returned (.func (.func 46) #[] #[.pointer (some ⟨w.heap.size, 0, none⟩)]) ∧ w' = w.alloc (.cells #[.int .u64 zs.length] 52) := by
  have hmf : ∀ (fn : Fn) (first cap : Array Value) (w : World), (Instr.makeFunc fn first cap).run Try.prog w = .ok (.func fn first cap) w := fun _ _ _ _ => rfl
  have hc := h.cell0
  have hl := h.len
  have hlt := h.blt
  go_enter Try.func44, Try.ntmps44
  go_wp2
  go_ret
  exact ⟨rfl, rfl⟩
theorem within_fn (q : Nat) (t n s : Int) (w : World) (h0 : 0 ≤ t) (h1 : 0 ≤ n) (hs : 0 ≤ s) (hs' : s < 18446744073709551616) (hc : w.cell? ⟨q, 0, none⟩ = some (.int .u64 s)) :
    Calls Try.prog 46 #[.int .u64 t, .int .u64 n, .pointer (some ⟨q, 0, none⟩)] w fun e w' => e = .returned (.bool (decide (t + n ≤ s))) ∧ w' = w := by
  by_cases h : n ≤ s
  · go_enter Try.func46, Try.ntmps46
    go_wp2
    go_ret
    exact ⟨ret_bool (by simp; omega), rfl⟩
  · have h' : s < n := by omega
    go_enter Try.func46, Try.ntmps46
    go_wp2
    go_ret
    exact ⟨ret_bool (by simp; omega), rfl⟩
theorem to_u64 (n : Int) (h0 : 0 ≤ n) (h1 : n < 9223372036854775808) : IntKind.u64.wrap n = n := by rw [IntKind.wrap_u64]; omega
theorem place_out (b g : Nat) (zs : List Int) (t n : Int) (w : World) (h : MM w b g zs) (ht : 0 ≤ t) (ht' : t < 18446744073709551616) (hn : 0 ≤ n) (hn' : n < 9223372036854775808) (ho : ¬ t + n ≤ zs.length) :
    Calls Try.prog 34 #[.pointer (some ⟨b, 0, none⟩), .int .u64 t, .int .i64 n] w fun e w' => e = .returned (.tuple #[.slice none 0 0, .int .i64 12]) ∧ Below w.heap.size w w' := by
  have hd : decide (0 < zs.length) = true := decide_eq_true h.pos
  have hl := h.len
  have hd2 : decide (t + n ≤ (zs.length : Int)) = false := decide_eq_false ho
  go_enter Try.func34, Try.ntmps34
  go_wp2_with fail
  refine (made_any _ _ _ _ _ h.hv).mono ?_
  rintro e w1 ⟨rfl, rfl⟩
  rw [hd]
  go_wp2_with fail
  refine (bounds_any b g zs _ h).mono ?_
  rintro e w2 ⟨rfl, rfl⟩
  go_wp2_with fail
  refine (within_fn _ t n zs.length _ ht hn (by omega) (by omega) (by simp)).mono ?_
  rintro e w3 ⟨rfl, rfl⟩
  rw [hd2]
  go_wp2_with fail
  go_ret2
  exact ⟨rfl, (Below.refl _ _).alloc (Nat.le_refl _) _⟩
def PlaceIs (g T N : Nat) (e : Ending) : Prop := ∃ o, (N = 0 ∨ o = T) ∧ e = .returned (.tuple #[.slice (some ⟨g, o, none⟩) N N, .int .i64 0])
theorem place_in (b g : Nat) (zs : List Int) (T N : Nat) (w : World) (h : MM w b g zs) (ho : T + N ≤ zs.length) :
    Calls Try.prog 34 #[.pointer (some ⟨b, 0, none⟩), .int .u64 T, .int .i64 N] w fun e w' => PlaceIs g T N e ∧ Below w.heap.size w w' := by
  have hd : decide (0 < zs.length) = true := decide_eq_true h.pos
  have hl := h.len
  have hd2 : decide ((T : Int) + N ≤ (zs.length : Int)) = true := decide_eq_true (by omega)
  have hc := h.cell0
  have hlt := h.blt
  go_enter Try.func34, Try.ntmps34
  go_wp2_with fail
  refine (made_any _ _ _ _ _ h.hv).mono ?_
  rintro e w1 ⟨rfl, rfl⟩
  rw [hd]
  go_wp2_with fail
  refine (bounds_any b g zs _ h).mono ?_
  rintro e w2 ⟨rfl, rfl⟩
  go_wp2_with fail
  refine (within_fn _ T N zs.length _ (by omega) (by omega) (by omega) (by omega) (by simp)).mono ?_
  rintro e w3 ⟨rfl, rfl⟩
  rw [hd2]
  clear hd hd2
  go_wp2_with fail
  · go_ret2
    exact ⟨⟨0, .inl (by omega), by simp; omega⟩, (Below.refl _ _).alloc (Nat.le_refl _) _⟩
  · go_ret2
    exact ⟨⟨T, .inr rfl, rfl⟩, (Below.refl _ _).alloc (Nat.le_refl _) _⟩
/-- P4.3: the error of bytes' place -/
def plcE (len : Nat) (t n : Int) : Int := if n < 0 then 2 else if ¬ t + n ≤ len then 12 else 0
theorem plcE_zero {len : Nat} {t n : Int} (h : plcE len t n = 0) : 0 ≤ n ∧ t + n ≤ len := by
  unfold plcE at h
  by_cases h1 : n < 0
  · simp [h1] at h
  · by_cases h3 : t + n ≤ len
    · exact ⟨by omega, h3⟩
    · simp [h1, h3] at h
/-- a place with an error: no bytes of it -/
def NoPlace (x : Int) (e : Ending) : Prop := e = .returned (.tuple #[.slice none 0 0, .int .i64 x])
/-- the memory's row written anew -/
theorem MM.wrote {w w' : World} {b g : Nat} {zs ys : List Int} (h : MM w b g zs) (hl : ys.length = zs.length) (hB : Bytes ys) (hr : w'.heap[g]? = some (.cells (ys.map (Value.int .u8)).toArray 5 (0, 0))) (hk : w.grownBy w' (some g)) : MM w' b g ys := by
  refine ⟨?_, hr, h.ne, hB, by have := h.pos; omega, by have := h.len; omega⟩
  rw [hk.block b h.blt (by have := h.ne; simp; omega), hl]
  exact h.cell
theorem bytes_splice {zs ys : List Int} (h : Bytes zs) (h' : Bytes ys) (o : Nat) (ho : o + ys.length ≤ zs.length) : Bytes (splice zs o ys) := by
  intro i
  have a := h i
  have b := h' (i - o)
  unfold splice
  simp only [List.getD, List.getElem?_append, List.length_take, List.getElem?_take, List.getElem?_drop] at *
  by_cases h1 : i < o
  · have : i < min o zs.length := by omega
    simp only [this, h1, if_true]; exact a
  · have e1 : ¬ i < min o zs.length := by omega
    have e2 : min o zs.length = o := by omega
    simp only [h1, if_false, e2]
    by_cases h2 : i - o < ys.length
    · simp only [h2, if_true]; exact b
    · simp only [h2, if_false]
      rw [show o + ys.length + (i - o - ys.length) = i by omega]; exact a
theorem grown_some {w w' : World} (h : Below w.heap.size w w') (r : Option Nat) : w.grownBy w' r := ⟨h.os, h.tape, h.output, h.size, fun k hk _ => h.block k hk⟩
theorem mbytes_nobody (p : Value) (t n : Int) (w : World) (h : HV w p (.slice none 0 0)) :
    Calls Try.prog 23 #[p, .int .u64 t, .int .i64 n] w fun e w' => NoPlace 1 e ∧ w' = w := by
  go_enter Try.func23, Try.ntmps23
  go_wp2_with fail
  refine (place_nobody _ _ _ _ h).mono ?_
  rintro e w1 ⟨rfl, rfl⟩
  go_wp2_with fail
  go_ret2
  exact ⟨rfl, rfl⟩
theorem mplace_no (b g : Nat) (zs : List Int) (t n : Int) (w : World) (h : MM w b g zs) (ht : 0 ≤ t) (ht' : t < 18446744073709551616) (hn' : n < 9223372036854775808) (he : plcE zs.length t n ≠ 0) :
    Calls Try.prog 34 #[.pointer (some ⟨b, 0, none⟩), .int .u64 t, .int .i64 n] w fun e w' => NoPlace (plcE zs.length t n) e ∧ Below w.heap.size w w' := by
  by_cases h1 : n < 0
  · rw [show plcE zs.length t n = 2 by simp [plcE, h1]]
    refine (place_neg b g zs t n w h h1).mono ?_
    rintro e w1 ⟨rfl, rfl⟩
    exact ⟨rfl, Below.refl _ _⟩
  · have h3 : ¬ t + n ≤ zs.length := fun h3 => he (by simp [plcE, h1, h3])
    rw [show plcE zs.length t n = 12 by simp [plcE, h1, h3]]
    refine (place_out b g zs t n w h ht ht' (by omega) hn' h3).mono ?_
    rintro e w1 ⟨rfl, hb⟩
    exact ⟨rfl, hb⟩
theorem mbytes_no (b g : Nat) (zs : List Int) (t n : Int) (w : World) (h : MM w b g zs) (ht : 0 ≤ t) (ht' : t < 18446744073709551616) (hn' : n < 9223372036854775808) (he : plcE zs.length t n ≠ 0) :
    Calls Try.prog 23 #[.pointer (some ⟨b, 0, none⟩), .int .u64 t, .int .i64 n] w fun e w' => NoPlace (plcE zs.length t n) e ∧ Below w.heap.size w w' := by
  have he' : (plcE zs.length t n != 0) = true := by rw [bne_iff_ne]; exact he
  have HN := mplace_no b g zs t n w h ht ht' hn' he
  clear he
  generalize plcE zs.length t n = x at *
  go_enter Try.func23, Try.ntmps23
  go_wp2_with fail
  refine HN.mono ?_
  rintro e w1 ⟨rfl, hb1⟩
  go_wp2_with fail
  go_ret2
  exact ⟨rfl, hb1⟩
theorem mbytes_yes (b g : Nat) (zs : List Int) (T N : Nat) (w : World) (h : MM w b g zs) (ho : T + N ≤ zs.length) :
    Calls Try.prog 23 #[.pointer (some ⟨b, 0, none⟩), .int .u64 T, .int .i64 N] w fun e w' => ∃ g', e = .returned (.tuple #[.slice (some ⟨g', 0, none⟩) N N, .int .i64 0]) ∧ w'.ownsRow w.heap.size 5 1 (.slice (some ⟨g', 0, none⟩) N N) N (((zs.drop T).take N).map (Value.int .u8)) ∧ Below w.heap.size w w' := by
  have hl := h.len
  go_enter Try.func23, Try.ntmps23
  go_wp2_with fail
  refine (place_in b g zs T N _ h ho).mono ?_
  rintro e w1 ⟨⟨o, hoT, rfl⟩, hb1⟩
  have hm1 := h.below hb1
  have hsl : SL w1 (some ⟨g, o, none⟩) N ((zs.drop T).take N) := by
    rcases hoT with rfl | rfl
    · simp only [List.take_zero]; exact SL.nil _ _
    · exact hm1.sl o N ho
  go_wp2_with fail
  refine (copied_any _ N N ((zs.drop T).take N) _ hsl (by omega)).mono ?_
  rintro e w2 ⟨g', rfl, hown, hb2⟩
  have hs1 := hb1.size
  have HO : Hid (w2.ownsRow w.heap.size 5 1 (.slice (some ⟨g', 0, none⟩) N N) N (((zs.drop T).take N).map (Value.int .u8))) := by
    obtain ⟨k1, k2, k3⟩ := own_heap hown
    exact own_of_heap k1 k2 (by omega) (by unfold maxLen; omega)
  clear hown
  go_wp2_with fail
  go_ret2
  exact ⟨g', rfl, HO.out, hb1.trans (hb2.mono hb1.size)⟩
def putV (zs : List Int) (t : Int) (ys : List Int) : List Int := if plcE zs.length t ys.length = 0 then splice zs t.toNat ys else zs
theorem mput_nobody (p : Value) (t : Int) (a : Option Addr) (n c : Nat) (w : World) (h : HV w p (.slice none 0 0)) :
    Calls Try.prog 18 #[p, .int .u64 t, .slice a n c] w fun e w' => e = .returned (.int .i64 1) ∧ w' = w := by
  have hr := run_copy_none (P := Try.prog) w 39 39 3 5 none a 0 0 n c Try.underlying39 (by kernel_rfl) (by simp)
  go_enter Try.func18, Try.ntmps18
  go_wp2_with fail
  refine (place_nobody _ _ _ _ h).mono ?_
  rintro e w1 ⟨rfl, rfl⟩
  go_wp2_with fail
  go_ret
  exact ⟨rfl, rfl⟩
theorem mput_mm (b g : Nat) (zs ys : List Int) (t : Int) (a : Option Addr) (n c : Nat) (w : World) (h : MM w b g zs) (hs : SL w a n ys) (hn : n < 9223372036854775808) (ht : 0 ≤ t) (ht' : t < 18446744073709551616) :
    Calls Try.prog 18 #[.pointer (some ⟨b, 0, none⟩), .int .u64 t, .slice a n c] w fun e w' => e = .returned (.int .i64 (plcE zs.length t ys.length)) ∧ MM w' b g (putV zs t ys) ∧ w.grownBy w' (some g) := by
  have hyl := hs.1
  by_cases he : plcE zs.length t ys.length = 0
  · obtain ⟨_, h3⟩ := plcE_zero he
    obtain ⟨T, rfl⟩ := Int.eq_ofNat_of_zero_le ht
    rw [he, show putV zs T ys = splice zs T ys by rw [putV, if_pos he, Int.toNat_natCast]]
    clear he
    have hle : T + n ≤ zs.length := by omega
    go_enter Try.func18, Try.ntmps18
    go_wp2_with fail
    refine (place_in b g zs T n _ h hle).mono ?_
    rintro e w1 ⟨⟨o, hoT, rfl⟩, hb1⟩
    have hm1 := h.below hb1
    have hs1 := SL.below hs hb1
    obtain ⟨w3, hr3, hg3, hgr3⟩ := run_copy_sl 3 g T n (some ⟨g, o, none⟩) a n c n zs ys hm1.row hs1 rfl (by rcases hoT with h' | rfl; exact .inl h'; exact .inr rfl) hle
    have hlen := length_splice zs T ys (by omega)
    have hm3 := hm1.wrote hlen (bytes_splice h.bytes hs.2.1 T (by omega)) hg3 hgr3
    have HM : Hid (_) := hm3
    have hk : w.grownBy w3 (some g) := grown_trans (grown_some hb1 _) hgr3
    clear hg3 hm3 hm1 hs1
    go_wp2_with fail
    go_ret
    exact ⟨rfl, HM.out, hk⟩
  · have HN := mplace_no b g zs t ys.length w h ht ht' (by omega) he
    rw [show putV zs t ys = zs by rw [putV, if_neg he]]
    clear he
    rw [hyl] at HN ⊢
    generalize plcE zs.length t n = x at *
    go_enter Try.func18, Try.ntmps18
    go_wp2_with fail
    refine HN.mono ?_
    rintro e w1 ⟨rfl, hb1⟩
    have hr := run_copy_none (P := Try.prog) w1 39 39 3 5 none a 0 0 n c Try.underlying39 (by kernel_rfl) (by simp)
    go_wp2_with fail
    go_ret
    exact ⟨rfl, h.below hb1, grown_some hb1 _⟩
theorem zero_cells (n : Nat) : (Builtin.zeroCells (Value.int .u8 0).cells n).toList = (List.replicate n (0 : Int)).map (Value.int .u8) := by
  apply List.ext_getElem (by simp [Builtin.zeroCells, Value.cells])
  intro i h1 h2
  simp [Builtin.zeroCells, Value.cells, Nat.mod_one]
/-- clear of a slice of bytes -/
theorem run_clear_sl {w : World} (ty : TypeId) (g off n c : Nat) (xs : List Int) (hg : w.heap[g]? = some (.cells (xs.map (Value.int .u8)).toArray 5 (0, 0))) (hn : 0 < n) (hfit : off + n ≤ xs.length) :
    ∃ w', (Builtin.clear_ #[39] ty #[.slice (some ⟨g, off, none⟩) n c]).run Try.prog w = .ok (.tuple #[]) w' ∧ w'.heap[g]? = some (.cells ((splice xs off (List.replicate n 0)).map (Value.int .u8)).toArray 5 (0, 0)) ∧ w.grownBy w' (some g) := by
  obtain ⟨i0, hi, hz0, hz1, hz2⟩ := info_parts Try.info5
  obtain ⟨m, rfl⟩ : ∃ m, n = m + 1 := ⟨n - 1, by omega⟩
  have hz : (zeroValue 5).run Try.prog w = .ok (.int .u8 0) w := by kernel_rfl
  have hlen : ((List.replicate (m + 1) (0 : Int)).map (Value.int .u8)).length = m + 1 := by simp
  have hone : ∀ v ∈ (List.replicate (m + 1) (0 : Int)).map (Value.int .u8), v.oneCell' = true := by intro v hv; obtain ⟨z, _, rfl⟩ := List.mem_map.1 hv; rfl
  have hzc := zero_cells (m + 1)
  have hfin : (splice xs off (List.replicate (m + 1) 0)).map (Value.int .u8) = (xs.map (Value.int .u8)).take off ++ (List.replicate (m + 1) (0 : Int)).map (Value.int .u8) ++ (xs.map (Value.int .u8)).drop (off + (m + 1)) := by
    simp only [splice, List.map_append, List.map_take, List.map_drop, List.length_replicate, List.append_assoc]
  rw [hfin]
  generalize (List.replicate (m + 1) (0 : Int)).map (Value.int .u8) = L at *
  have hst := run_storeCells_at Try.prog g off 5 L 0 _ w hg (by simp [hlen]; omega) hone
  refine ⟨w.setRow g ((xs.map (Value.int .u8)).take off ++ L ++ (xs.map (Value.int .u8)).drop (off + (m + 1))).toArray, ?_, ?_, ?_⟩
  · rw [hlen, Nat.add_zero] at hst
    simp [Builtin.clear_, run_underlying Try.underlying39, hz, hzc, hst]
  · rw [setRow_heap w g _ _ 5 _ hg]
  · exact ⟨rfl, rfl, rfl, by simp [World.setRow], fun k hk hne => setRow_other w g k _ (fun e => hne (by rw [e]))⟩
theorem splice_getD (zs ys : List Int) (o i : Nat) (ho : o + ys.length ≤ zs.length) : (splice zs o ys).getD i 0 = if o ≤ i ∧ i < o + ys.length then ys.getD (i - o) 0 else zs.getD i 0 := by
  unfold splice
  simp only [List.getD, List.getElem?_append, List.length_take, List.getElem?_take, List.getElem?_drop]
  by_cases h1 : i < o
  · have e : i < min o zs.length := by omega
    have e2 : ¬ (o ≤ i ∧ i < o + ys.length) := by omega
    simp only [e, h1, if_true, e2, if_false]
  · have e1 : ¬ i < min o zs.length := by omega
    have e2 : min o zs.length = o := by omega
    rw [if_neg e1, e2]
    by_cases h2 : i - o < ys.length
    · rw [if_pos h2, if_pos (by omega)]
    · rw [if_neg h2, if_neg (by omega), show o + ys.length + (i - o - ys.length) = i by omega]
theorem eq_of_getD {xs ys : List Int} (hl : xs.length = ys.length) (h : ∀ i, i < xs.length → xs.getD i 0 = ys.getD i 0) : xs = ys := by
  apply List.ext_getElem hl
  intro i h1 h2
  have := h i h1
  simpa [List.getD, List.getElem?_eq_getElem h1, List.getElem?_eq_getElem h2] using this
theorem zeros_getD (n i : Nat) : (List.replicate n (0 : Int)).getD i 0 = 0 := by
  by_cases hi : i < n <;> simp [List.getD, hi]
/-- the document's memory: its block b, the row g of its bytes -/
structure RM (w : World) (b g : Nat) (zs : List Int) : Prop where
  cell : w.heap[b]? = some (.cells #[.slice (some ⟨g, 0, none⟩) zs.length zs.length] 61 (0, 0))
  row : w.heap[g]? = some (.cells (zs.map (Value.int .u8)).toArray 5 (0, 0))
  ne : b ≠ g
  bytes : Bytes zs
  pos : 0 < zs.length
  len : zs.length ≤ 16777216
theorem RM.blt {w : World} {b g : Nat} {zs : List Int} (h : RM w b g zs) : b < w.heap.size := lt_of_heap h.cell
theorem RM.glt {w : World} {b g : Nat} {zs : List Int} (h : RM w b g zs) : g < w.heap.size := lt_of_heap h.row
theorem RM.cell0 {w : World} {b g : Nat} {zs : List Int} (h : RM w b g zs) : w.cell? ⟨b, 0, none⟩ = some (.slice (some ⟨g, 0, none⟩) zs.length zs.length) := by
  simp [World.cell?, h.cell]
theorem RM.rowAt {w : World} {b g : Nat} {zs : List Int} (h : RM w b g zs) (i : Nat) (hi : i < zs.length) : w.cell? ⟨g, i, none⟩ = some (.int .u8 (zs.getD i 0)) := by
  simp [World.cell?, h.row, List.getElem?_eq_getElem hi]
theorem RM.kept {w w' : World} {b g : Nat} {zs : List Int} (h : RM w b g zs) {r : Option Nat} (hk : w.grownBy w' r) (hb : some b ≠ r) (hg : some g ≠ r) : RM w' b g zs :=
  ⟨(hk.block b h.blt hb).trans h.cell, (hk.block g h.glt hg).trans h.row, h.ne, h.bytes, h.pos, h.len⟩
theorem RM.below {w w' : World} {b g : Nat} {zs : List Int} (h : RM w b g zs) (hk : Below w.heap.size w w') : RM w' b g zs :=
  ⟨(hk.block b h.blt).trans h.cell, (hk.block g h.glt).trans h.row, h.ne, h.bytes, h.pos, h.len⟩
theorem RM.sl {w : World} {b g : Nat} {zs : List Int} (h : RM w b g zs) (o n : Nat) (hn : o + n ≤ zs.length) : SL w (some ⟨g, o, none⟩) n ((zs.drop o).take n) := by
  refine ⟨by simp; omega, bytes_mid h.bytes o n, .inr ⟨g, o, rfl, h.glt, fun i hi => ?_⟩⟩
  rw [h.rowAt (o + i) (by omega)]
  simp [List.getD, hi, List.getElem?_drop]
theorem RM.slAll {w : World} {b g : Nat} {zs : List Int} (h : RM w b g zs) : SL w (some ⟨g, 0, none⟩) zs.length zs := by
  have := h.sl 0 zs.length (by omega)
  simpa using this
theorem RM.box {w : World} {base g n : Nat} {zs : List Int} (h : w.ownsRow base 5 1 (.slice (some ⟨g, 0, none⟩) n n) n (zs.map (Value.int .u8))) (hB : Bytes zs) (h1 : 0 < n) (h2 : n ≤ 16777216) :
    RM (w.alloc (.cells #[.slice (some ⟨g, 0, none⟩) n n] 61)) w.heap.size g zs := by
  obtain ⟨hh, rfl, hb⟩ := own_heap h
  have hlt := lt_of_heap hh
  exact ⟨heap_alloc_at _ _, (heap_alloc_past _ _ hlt).trans hh, by omega, hB, h1, h2⟩
theorem RM.wrote {w w' : World} {b g : Nat} {zs ys : List Int} (h : RM w b g zs) (hl : ys.length = zs.length) (hB : Bytes ys) (hr : w'.heap[g]? = some (.cells (ys.map (Value.int .u8)).toArray 5 (0, 0))) (hk : w.grownBy w' (some g)) : RM w' b g ys := by
  refine ⟨?_, hr, h.ne, hB, by have := h.pos; omega, by have := h.len; omega⟩
  rw [hk.block b h.blt (by have := h.ne; simp; omega), hl]
  exact h.cell
theorem rnew_no (f : Int) (w : World) (h : ¬ (1 ≤ f ∧ f ≤ 65536)) :
    Calls Try.prog 10 #[.int .i64 f] w fun e w' => e = .returned (.tuple #[.pointer none, .int .i64 2]) ∧ w' = w := by
  by_cases h1 : f < 1
  · go_enter Try.func10, Try.ntmps10
    go_wp2
    go_ret2
    exact ⟨rfl, rfl⟩
  · have h2 : 65536 < f := by omega
    go_enter Try.func10, Try.ntmps10
    go_wp2
    go_ret2
    exact ⟨rfl, rfl⟩
theorem rnew_yes (f : Nat) (w : World) (h1 : 1 ≤ f) (h2 : f ≤ 65536) :
    Calls Try.prog 10 #[.int .i64 f] w fun e w' => ∃ b g, e = .returned (.tuple #[.pointer (some ⟨b, 0, none⟩), .int .i64 0]) ∧ RM w' b g (List.replicate (f * 256) 0) ∧ w.heap.size ≤ b ∧ w.heap.size ≤ g ∧ Below w.heap.size w w' := by
  obtain ⟨i0, hi, hz0, hz1, hz2⟩ := info_parts Try.info5
  go_enter Try.func10, Try.ntmps10
  go_wp2_with (at_make; refine wpList_make_full _ rfl _ _ 39 rfl w.heap.size 5 i0 (.int .u8 0) 1 Try.underlying39 hi hz0 hz1 _ _ _ _ (f * 256) rfl rfl (by omega) (by omega) (by rw [hz2]; omega) (by unfold maxLen; omega) (by simp) ?_; intro w2 hown2 hgrow2)
  rw [made_zeros] at hown2
  have hs2 := hgrow2.size
  go_ret2
  exact ⟨w2.heap.size, w.heap.size, rfl, RM.box hown2 (bytes_zeros _) (by omega) (by omega), hs2, Nat.le_refl _, ((Below.refl _ _).grown hgrow2 (by simp) (by intro k h; cases h)).alloc (by omega) _⟩
theorem lies_any (b g : Nat) (zs : List Int) (t n : Int) (w : World) (h : RM w b g zs) (ht : 0 ≤ t) (hn : 0 ≤ n) (hn' : n < 9223372036854775808) :
    Calls Try.prog 35 #[.pointer (some ⟨b, 0, none⟩), .int .u64 t, .int .i64 n] w fun e w' => e = .returned (.bool (decide (t + n ≤ zs.length))) ∧ w' = w := by
  have hc := h.cell0
  have hlt := h.blt
  have hl := h.len
  by_cases h1 : n ≤ zs.length
  · go_enter Try.func35, Try.ntmps35
    go_wp2
    go_ret
    exact ⟨ret_bool (by simp; omega), rfl⟩
  · have h1' : (zs.length : Int) < n := by omega
    go_enter Try.func35, Try.ntmps35
    go_wp2
    go_ret
    exact ⟨ret_bool (by simp; omega), rfl⟩
theorem set_getD (zs : List Int) (o : Nat) (z : Int) (i : Nat) (ho : o < zs.length) : (zs.set o z).getD i 0 = if i = o then z else zs.getD i 0 := by
  simp only [List.getD, List.getElem?_set]
  by_cases h : o = i
  · subst h; simp [ho]
  · rw [if_neg h, if_neg (fun e => h e.symm)]
theorem splice_snoc (zs ys : List Int) (z : Int) (o : Nat) (h : o + ys.length < zs.length) : splice zs o (ys ++ [z]) = (splice zs o ys).set (o + ys.length) z := by
  have l1 := length_splice zs o (ys ++ [z]) (by simp; omega)
  have l2 := length_splice zs o ys (by omega)
  apply eq_of_getD (by rw [l1, List.length_set, l2])
  intro i hi
  rw [set_getD _ _ _ _ (by omega), splice_getD _ _ _ _ (by simp; omega), splice_getD _ _ _ _ (by omega)]
  simp only [List.length_append, List.length_singleton]
  by_cases h1 : i = o + ys.length
  · subst h1
    rw [if_pos (by omega), if_pos rfl]
    simp [List.getD]
  · rw [if_neg h1]
    by_cases h2 : o ≤ i ∧ i < o + ys.length
    · rw [if_pos (by omega), if_pos h2]
      simp only [List.getD, List.getElem?_append]
      rw [if_pos (by omega)]
    · rw [if_neg (by omega), if_neg h2]
theorem splice_nil (zs : List Int) (o : Nat) : splice zs o [] = zs := by simp [splice]
/-- one byte of it written -/
theorem RM.set {w : World} {b g : Nat} {zs : List Int} (h : RM w b g zs) (i : Nat) (z : Int) (hi : i < zs.length) (h0 : 0 ≤ z) (h1 : z ≤ 255) :
    RM (w.setCell ⟨g, i, none⟩ (.int .u8 z)) b g (zs.set i z) ∧ w.grownBy (w.setCell ⟨g, i, none⟩ (.int .u8 z)) (some g) := by
  have e := setCell_eq_setRow w g i _ 5 (0, 0) (.int .u8 z) h.row
  have hk : w.grownBy (w.setCell ⟨g, i, none⟩ (.int .u8 z)) (some g) := by
    rw [e]
    exact ⟨rfl, rfl, rfl, by simp [World.setRow], fun k hk hne => setRow_other w g k _ (fun e => hne (by rw [e]))⟩
  refine ⟨h.wrote (by simp) ?_ ?_ hk, hk⟩
  · intro j
    rw [set_getD _ _ _ _ hi]
    split
    · omega
    · exact h.bytes j
  · rw [e, setRow_heap w g _ _ 5 _ h.row]
    simp [List.map_set]
theorem RM.drew {w : World} {b g : Nat} {zs : List Int} (h : RM w b g zs) : RM w.drew b g zs := ⟨h.cell, h.row, h.ne, h.bytes, h.pos, h.len⟩
theorem grown_drew {w w' : World} {r : Option Nat} (h : w.grownBy w' r) : w.grownBy w'.drew r := ⟨h.os, h.tape, h.output, h.size, h.block⟩
theorem own_cap3 {w : World} {base g cap n size : Nat} {e : TypeId} {xs : List Value} (h : w.ownsRow base e size (.slice (some ⟨g, 0, none⟩) n cap) n xs) : n ≤ cap := by
  rcases h.2 with ⟨h', _⟩ | ⟨g', cap', cur, h', _, _, hn, _⟩
  · cases h'
  · cases h'; exact hn
theorem rmput_any (b g : Nat) (zs ys : List Int) (t : Int) (a : Option Addr) (n c : Nat) (w : World) (h : RM w b g zs) (hs : SL w a n ys) (hne : 0 < n → ∀ b0 off, a = some ⟨b0, off, none⟩ → b0 ≠ g) (hnc : n ≤ c) (hn : n < 9223372036854775808) (ht : 0 ≤ t) (ht' : t < 18446744073709551616) :
    Calls Try.prog 19 #[.pointer (some ⟨b, 0, none⟩), .int .u64 t, .slice a n c] w fun e w' => e = .returned (.int .i64 (plcE zs.length t ys.length)) ∧ RM w' b g (putV zs t ys) ∧ w.grownBy w' (some g) := by
  have hyl := hs.1
  have hl := h.len
  have L := lies_any b g zs t n w h ht (by omega) (by omega)
  by_cases he : plcE zs.length t ys.length = 0
  · obtain ⟨_, h3⟩ := plcE_zero he
    obtain ⟨T, rfl⟩ := Int.eq_ofNat_of_zero_le ht
    rw [he, show putV zs T ys = splice zs T ys by rw [putV, if_pos he, Int.toNat_natCast]]
    have hd : decide ((T : Int) + n ≤ zs.length) = true := decide_eq_true (by omega)
    rw [hd] at L
    clear he hd
    have hle : T + n ≤ zs.length := by omega
    go_enter Try.func19, Try.ntmps19
    go_wp2_with fail
    refine L.mono ?_
    rintro e w1 ⟨rfl, rfl⟩
    clear L
    go_wp2_with fail
    go_loopw [7] (fun i wr => ∃ k : Nat, k ≤ n ∧ i = .int .i64 k ∧ RM wr b g (splice zs T (ys.take k)) ∧ w1.grownBy wr (some g)) (fun i _ => n - (intOf i).toNat)
    case atStart => exact ⟨0, by omega, rfl, by rw [List.take_zero, splice_nil]; exact h, grown_refl _ _⟩
    case round =>
      obtain ⟨k, hk, rfl, hm, hgr⟩ := hrel
      by_cases hlt : k < n
      · rcases hs.2.2 with h00 | ⟨b0, off, rfl, hb0, hcells⟩
        · omega
        have hb := hs.2.1 k
        have htl : (ys.take k).length = k := by simp; omega
        have hlen := length_splice zs T (ys.take k) (by omega)
        have hc := hm.cell0
        have hbl := hm.blt
        have hgl := hm.glt
        have hne0 := hne (by omega) b0 off rfl
        have hbk : wr.cell? ⟨b0, off + k, none⟩ = some (.int .u8 (ys.getD k 0)) := by
          rw [World.cell?_of_block (a := ⟨b0, off + k, none⟩) (hgr.block b0 hb0 (by simp; exact hne0))]
          exact hcells k hlt
        have hg3l := World.block_lt_of_cell? wr ⟨b0, off + k, none⟩ hbk
        have htk := hm.rowAt (T + k) (by omega)
        have hfz : wr.frozen? ⟨g, T + k, none⟩ = false := by simp [World.frozen?, hm.row]
        have ST := hm.set (T + k) (ys.getD k 0) (by omega) hb.1 hb.2
        have e0 : ys.take (k + 1) = ys.take k ++ [ys.getD k 0] := by
          rw [List.take_add_one, List.getElem?_eq_getElem (show k < ys.length by omega)]
          simp [List.getD, List.getElem?_eq_getElem (show k < ys.length by omega)]
        have e1 : (splice zs T (ys.take k)).set (T + k) (ys.getD k 0) = splice zs T (ys.take (k + 1)) := by
          rw [e0, splice_snoc zs _ _ T (by omega), htl]
        rw [e1] at ST
        have HST : Hid (_) := ST
        have HG : Hid (_) := hgr
        rw [hlen] at hc
        clear ST e1 hm hgr hlen e0 htl hcells hs hne
        generalize ys.getD k 0 = z at *
        generalize (splice zs T (ys.take k)).getD (T + k) 0 = y at *
        have i1 : (0 : Int) ≤ (k : Int) ∧ (k : Int) < (n : Int) := by omega
        have i2 : (0 : Int) ≤ (T : Int) + (k : Int) ∧ (T : Int) + (k : Int) < (zs.length : Int) := by omega
        go_wp2_with fail
        go_region
        all_goals go_wp2_with fail
        exact ⟨⟨k + 1, by omega, by go_num, HST.out.1.drew, grown_drew (grown_trans HG.out HST.out.2)⟩, by simp [intOf]; omega⟩
      · obtain rfl : k = n := by omega
        rw [List.take_of_length_le (by omega)] at hm
        go_wp2_with fail
        go_ret
        exact ⟨rfl, hm, hgr⟩
  · rw [show putV zs t ys = zs by rw [putV, if_neg he]]
    have h3 : ¬ t + (n : Int) ≤ zs.length := fun h3 => he (by rw [plcE, if_neg (by omega), if_neg (by omega)])
    rw [show plcE zs.length t ys.length = 12 by rw [plcE, if_neg (by omega), if_pos (by omega)]]
    have hd : decide (t + (n : Int) ≤ zs.length) = false := decide_eq_false h3
    rw [hd] at L
    clear he hd h3
    go_enter Try.func19, Try.ntmps19
    go_wp2_with fail
    refine L.mono ?_
    rintro e w1 ⟨rfl, rfl⟩
    go_wp2_with fail
    go_ret
    exact ⟨rfl, h, grown_refl _ _⟩
/-- a row of the call's own, nil or not, as a slice of its numbers -/
theorem own_sl {w : World} {base n : Nat} {v : Value} {zs : List Int} (h : w.ownsRow base 5 1 v n (zs.map (Value.int .u8))) (hB : Bytes zs) : ∃ a cap, v = .slice a n cap ∧ SL w a n zs := by
  have hl : zs.length = n := by have := h.1; simpa using this
  rcases h.2 with ⟨rfl, rfl⟩ | ⟨g, cap, cur, rfl, _⟩
  · exact ⟨none, 0, rfl, hl, hB, .inl rfl⟩
  · exact ⟨_, cap, rfl, SL.own h hB⟩
def TuplesIs (x : Int) (v : Value) (e : Ending) : Prop := e = .returned (.tuple #[v, .int .i64 x])
end Go.Proofs.Ytkadpmmielegfaa
