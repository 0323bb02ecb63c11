/-
  The numbers of the law AsmMarks.
  A text of two lines in plain terms: what is told of it.
  What is told of a text of words 0, a mark and a jump to it.
  The law AsmMarks: its walk.
-/
import Derived.Test.YtopankjjlapfbaaGreatDoorMath3
import Derived.Laws.BitsAllLaws
import Derived.Test.YtopankjjlapfbaaGreatDoorBldB
import Derived.Test.YtopankjjlapfbaaGreatDoorAsmW
import Derived.BigRegion
import Derived.BigQuiet
import Derived.Deep.DeepCutAuto
namespace Go.Proofs.YtopankjjlapfbaaGreatDoor
open Go.RowKit
set_option linter.unusedVariables false
theorem and1023 (n : Int) : ∃ m : Nat, m < 1024 ∧ bits .and .i64 n 1023 = (m : Int) := by
  refine ⟨(n % 1024).toNat, by omega, ?_⟩
  have h := and_ones64 n 10 (by decide)
  rw [show (1023 : Int) = 2 ^ 10 - 1 from rfl, h]
  omega
theorem low16 (a : Nat) (h : a < 65536) : (a &&& 18446744073709551612) % 4 = 0 ∧ (a &&& 18446744073709551612) ≤ 65535 := by
  refine ⟨?_, Nat.le_trans Nat.and_le_left (by omega)⟩
  have h2 := Nat.and_mod_two_pow (a := a) (b := 18446744073709551612) (n := 2)
  rw [show (4 : Nat) = 2 ^ 2 from rfl, h2]
  simp
theorem base_ok (base : Int) (h0 : 0 ≤ base) (h1 : base < 18446744073709551616) : ∃ b : Int, 0 ≤ b ∧ b ≤ 65535 ∧ b % 4 = 0 ∧ bits .andNot .u64 (bits .and .u64 base 65535) 3 = b := by
  have h := bits_mask .u64 64 (by decide) wraps_u64 16 (by decide) base h0 (by omega)
  have h2 : bits .and .u64 base 65535 = base % 65536 := h
  rw [h2]
  obtain ⟨x, hx⟩ : ∃ x : Nat, base % 65536 = (x : Int) := ⟨(base % 65536).toNat, by omega⟩
  have hxl : x < 65536 := by omega
  rw [hx, show (3 : Int) = ((3 : Nat) : Int) from rfl, u64_andNot_nat x 3 (by omega) (by decide), show 18446744073709551615 - 3 = 18446744073709551612 from rfl]
  have := low16 x hxl
  exact ⟨_, by omega, by omega, by omega, rfl⟩
end Go.Proofs.YtopankjjlapfbaaGreatDoor
namespace Go.Proofs.YtopankjjlapfbaaGreatDoor
set_option linter.unusedVariables false
set_option maxRecDepth 100000

/-- a string of these bytes -/
def mkB (l : List UInt8) : ByteArray := ⟨l.toArray⟩
theorem mkB_data (l : List UInt8) : (mkB l).data.toList = l := rfl
theorem mkB_size (l : List UInt8) : (mkB l).size = l.length := by show l.toArray.size = _; simp
theorem mkB_of (s : ByteArray) : mkB s.data.toList = s := by apply ByteArray.ext; simp [mkB]

theorem index_one (c : UInt8) : ∀ (p r : List UInt8), c ∉ p → Lib.index (p ++ c :: r) [c] = (p.length : Int)
  | [], r, h => by simp [Lib.index]
  | b :: p, r, h => by
    have hb : c ≠ b := fun e => h (by simp [e])
    have ih := index_one c p r (fun hc => h (by simp [hc]))
    show Lib.index (b :: (p ++ c :: r)) [c] = _
    unfold Lib.index
    rw [ih]
    have hp : ([c] : List UInt8).isPrefixOf (b :: (p ++ c :: r)) = false := by simp [List.isPrefixOf, hb]
    have hm : (((p.length : Int)) == -1) = false := by rw [beq_eq_false_iff_ne]; omega
    simp [hp, hm]
theorem index_no (c : UInt8) : ∀ (p : List UInt8), c ∉ p → Lib.index p [c] = -1
  | [], h => by simp [Lib.index]
  | b :: p, h => by
    have hb : c ≠ b := fun e => h (by simp [e])
    have ih := index_no c p (fun hc => h (by simp [hc]))
    unfold Lib.index
    rw [ih]
    have hp : ([c] : List UInt8).isPrefixOf (b :: p) = false := by simp [List.isPrefixOf, hb]
    simp [hp]

theorem lines_cons (p r : List UInt8) (h : (10 : UInt8) ∉ p) : linesL (mkB (p ++ 10 :: r)) = mkB p :: linesL (mkB r) := by
  have hi : Lib.indexB (mkB (p ++ 10 :: r)) ⟨#[10]⟩ = (p.length : Int) := index_one 10 p r h
  have e1 : (mkB (p ++ 10 :: r)).extract 0 p.length = mkB p := by
    rw [← mkB_of ((mkB (p ++ 10 :: r)).extract 0 p.length), Lib.extract_from_zero, mkB_data]
    simp
  have e2 : (mkB (p ++ 10 :: r)).extract (p.length + 1) (mkB (p ++ 10 :: r)).size = mkB r := by
    rw [← mkB_of ((mkB (p ++ 10 :: r)).extract (p.length + 1) (mkB (p ++ 10 :: r)).size), Lib.extract_to_end, mkB_data]
    rw [List.drop_append, List.drop_eq_nil_of_le (by omega)]
    simp
  unfold linesL
  rw [Lib.countB_hit _ _ p.length (by decide) hi, Nat.add_comm, Lib.splitB_hit _ _ _ _ p.length hi]
  show (mkB (p ++ 10 :: r)).extract 0 (p.length + 0) :: Lib.splitB ⟨#[10]⟩ 0 (Lib.countB ((mkB (p ++ 10 :: r)).extract (p.length + 1) (mkB (p ++ 10 :: r)).size) ⟨#[10]⟩) ((mkB (p ++ 10 :: r)).extract (p.length + 1) (mkB (p ++ 10 :: r)).size) = _
  rw [e2, Nat.add_zero, e1]
theorem lines_last (p : List UInt8) (h : (10 : UInt8) ∉ p) : linesL (mkB p) = [mkB p] := by
  have hi : Lib.indexB (mkB p) ⟨#[10]⟩ = -1 := index_no 10 p h
  unfold linesL
  exact Lib.splitB_miss _ _ _ _ hi
theorem said_hash (p r : List UInt8) (h : (35 : UInt8) ∉ p) : saidS (mkB (p ++ 35 :: r)) = mkB p := by
  unfold saidS Lib.cut
  rw [mkB_data, index_one 35 p r h, if_pos (by omega)]
  show mkB ((p ++ 35 :: r).take ((p.length : Int)).toNat) = _
  simp
theorem said_all (p : List UInt8) (h : (35 : UInt8) ∉ p) : saidS (mkB p) = mkB p := by
  unfold saidS Lib.cut
  rw [mkB_data, index_no 35 p h, if_neg (by omega)]
  rfl

/-- four digits of a number, and what is left without noughts ahead -/
def dg4 (n : Nat) : List UInt8 := [UInt8.ofNat (48 + n / 1000), UInt8.ofNat (48 + n / 100 % 10), UInt8.ofNat (48 + n / 10 % 10), UInt8.ofNat (48 + n % 10)]
def strip : List UInt8 → List UInt8
  | c :: d :: r => if c = 48 then strip (d :: r) else c :: d :: r
  | l => l
def fillP : List UInt8 := [46, 102, 105, 108, 108, 32]
def herP : List UInt8 := [104, 101, 114, 101, 58, 32, 106, 97, 108, 32, 120, 48, 44, 32, 104, 101, 114, 101, 32]
/-- all that there is to know of the first line -/
def fillOk (n : Nat) : Bool :=
  decide (Lib.goFieldsP gapB (mkB (fillP ++ strip (dg4 n))) = [mkB [46, 102, 105, 108, 108], mkB (strip (dg4 n))]) && decide (numO (mkB (strip (dg4 n))) = some (n : Int)) && decide ((10 : UInt8) ∉ strip (dg4 n)) && decide ((35 : UInt8) ∉ strip (dg4 n)) && decide ((strip (dg4 n)).length ≤ 4)
theorem fill_ok : ∀ n : Fin 1024, fillOk n.val = true := by decide +kernel
theorem here_words : Lib.goFieldsP gapB (mkB herP) = [mkB [104, 101, 114, 101, 58], mkB [106, 97, 108], mkB [120, 48], mkB [104, 101, 114, 101]] := by decide +kernel
end Go.Proofs.YtopankjjlapfbaaGreatDoor
namespace Go.Proofs.YtopankjjlapfbaaGreatDoor
set_option linter.unusedVariables false
set_option maxRecDepth 100000

def hereS : ByteArray := mkB [104, 101, 114, 101]
def jalSt : St := ⟨0, 35, 0, 0, 0, 0, hereS, 0, 1⟩
theorem jal_stmt : stmtO (opM 48) (mkB [106, 97, 108]) [mkB [120, 48], mkB [104, 101, 114, 101]] = some jalSt := by kernel_rfl
theorem here_name : nameB hereS = true := by decide +kernel
theorem here_suffix : Lib.hasSuffix (mkB [104, 101, 114, 101, 58]).data.toList [58] = true := by decide +kernel
theorem here_mark : markN (mkB [104, 101, 114, 101, 58]) = hereS := by decide +kernel
theorem fill_suffix : Lib.hasSuffix (mkB [46, 102, 105, 108, 108]).data.toList [58] = false := by decide +kernel
theorem words_nil : wordsL (mkB []) = [] := by decide +kernel
theorem here_hash : (35 : UInt8) ∉ herP := by decide
theorem here_nl : (10 : UInt8) ∉ herP := by decide
theorem fill_nl : (10 : UInt8) ∉ fillP := by decide
theorem fill_hash : (35 : UInt8) ∉ fillP := by decide

def twoT (n : Nat) (said : List UInt8) : List UInt8 := (fillP ++ strip (dg4 n)) ++ 10 :: ((herP ++ 35 :: said) ++ 10 :: [])
def twoM (n : Nat) : ByteArray → Option Int := putM (fun _ => none) hereS (n : Int)

theorem two_lines (n : Nat) (hn : n < 1024) (said : List UInt8) (hs : (10 : UInt8) ∉ said) : linesL (mkB (twoT n said)) = [mkB (fillP ++ strip (dg4 n)), mkB (herP ++ 35 :: said), mkB []] := by
  have hf := fill_ok ⟨n, hn⟩
  unfold fillOk at hf
  simp only [Bool.and_eq_true, decide_eq_true_eq] at hf
  unfold twoT
  rw [lines_cons _ _ (by
    intro h
    rcases List.mem_append.1 h with h | h
    · exact fill_nl h
    · exact hf.1.1.2 h), lines_cons _ _ (by
    intro h
    rcases List.mem_append.1 h with h | h
    · exact here_nl h
    · rcases List.mem_cons.1 h with h | h
      · cases h
      · exact hs h), lines_last [] (by simp)]

theorem fill_words (n : Nat) (hn : n < 1024) : wordsL (mkB (fillP ++ strip (dg4 n))) = [mkB [46, 102, 105, 108, 108], mkB (strip (dg4 n))] := by
  have hf := fill_ok ⟨n, hn⟩
  unfold fillOk at hf
  simp only [Bool.and_eq_true, decide_eq_true_eq] at hf
  unfold wordsL
  rw [said_all _ (by
    intro h
    rcases List.mem_append.1 h with h | h
    · exact fill_hash h
    · exact hf.1.2 h)]
  exact hf.1.1.1.1
theorem fill_num (n : Nat) (hn : n < 1024) : numO (mkB (strip (dg4 n))) = some (n : Int) := by
  have hf := fill_ok ⟨n, hn⟩
  unfold fillOk at hf
  simp only [Bool.and_eq_true, decide_eq_true_eq] at hf
  exact hf.1.1.1.2
theorem two_words (said : List UInt8) : wordsL (mkB (herP ++ 35 :: said)) = [mkB [104, 101, 114, 101, 58], mkB [106, 97, 108], mkB [120, 48], mkB [104, 101, 114, 101]] := by
  unfold wordsL
  rw [said_hash _ _ here_hash]
  exact here_words

theorem read_fill (n : Nat) (hn : n < 1024) : readP (opM 48) 0 ⟨fun _ => none, [], 0⟩ (wordsL (mkB (fillP ++ strip (dg4 n)))) = some ⟨fun _ => none, [⟨0, 0, 0, 0, 0, 0, ⟨#[]⟩, 0, (n : Int)⟩], 0 + (n : Int)⟩ := by
  rw [fill_words n hn]
  have hst : stmtO (opM 48) (mkB [46, 102, 105, 108, 108]) [mkB (strip (dg4 n))] = some (fillSt (n : Int)) := by
    unfold stmtO
    rw [if_neg (by decide), if_pos (show mkB [46, 102, 105, 108, 108] = ⟨#[46, 102, 105, 108, 108]⟩ from rfl)]
    unfold withinO
    simp only [fill_num n hn]
    rw [if_pos (by omega)]
    rfl
  unfold readP markP
  simp only [fill_suffix, Bool.false_eq_true, if_false]
  unfold stmtP
  simp only [hst]
  rfl
theorem read_here (n : Nat) (said : List UInt8) (sts : List St) (len : Int) : readP (opM 48) 1 ⟨fun _ => none, sts, len⟩ (wordsL (mkB (herP ++ 35 :: said))) = some ⟨putM (fun _ => none) hereS len, sts ++ [⟨1, 35, 0, 0, 0, 0, hereS, 0, 1⟩], len + 1⟩ := by
  rw [two_words]
  unfold readP markP
  simp only [here_suffix, here_mark, here_name, if_true, Option.isNone_none, Bool.true_and]
  unfold stmtP
  simp only [jal_stmt]
  rfl
theorem two_reads (n : Nat) (hn : n < 1024) (said : List UInt8) (hs : (10 : UInt8) ∉ said) :
    readsP (opM 48) 0 ⟨fun _ => none, [], 0⟩ (linesL (mkB (twoT n said))) = .ok ⟨twoM n, [⟨0, 0, 0, 0, 0, 0, ⟨#[]⟩, 0, (n : Int)⟩, ⟨1, 35, 0, 0, 0, 0, hereS, 0, 1⟩], (n : Int) + 1⟩ := by
  rw [two_lines n hn said hs]
  unfold readsP
  simp only [read_fill n hn]
  unfold readsP
  simp only [show (0 : Int) + 1 = 1 by rfl, read_here n said]
  unfold readsP
  rw [words_nil]
  have h3 : ∀ S : PSt, readP (opM 48) (1 + 1) S [] = some S := fun S => rfl
  simp only [h3, Int.zero_add]
  rfl
theorem two_build (n : Nat) (hn : n < 1024) (said : List UInt8) (hs : (10 : UInt8) ∉ said) (hl : said.length ≤ 1000) (base : Int) (h4 : base % 4 = 0) (hb : base ≤ 65535) :
    buildO (mkB (twoT n said)) base = .ok (List.replicate n 0 ++ [2348810240]) (twoM n) := by
  have hf := fill_ok ⟨n, hn⟩
  unfold fillOk at hf
  simp only [Bool.and_eq_true, decide_eq_true_eq] at hf
  have hsz : (mkB (twoT n said)).size ≤ 65536 := by
    rw [mkB_size]
    unfold twoT fillP herP
    simp
    have := hf.2
    omega
  have hw : wordsP (twoM n) [] [⟨0, 0, 0, 0, 0, 0, ⟨#[]⟩, 0, (n : Int)⟩, ⟨1, 35, 0, 0, 0, 0, hereS, 0, 1⟩] = .ok (List.replicate n 0 ++ [2348810240]) := by
    have e1 : stepW (twoM n) [] ⟨0, 0, 0, 0, 0, 0, ⟨#[]⟩, 0, (n : Int)⟩ = some (List.replicate n 0) := by
      unfold stepW
      rw [if_pos rfl]
      simp
    have e2 : stepW (twoM n) (List.replicate n 0) ⟨1, 35, 0, 0, 0, 0, hereS, 0, 1⟩ = some (List.replicate n 0 ++ [2348810240]) := by
      have hi : immO (twoM n) (List.replicate n 0) ⟨1, 35, 0, 0, 0, 0, hereS, 0, 1⟩ = some 0 := by
        unfold immO
        rw [if_neg (by decide)]
        show Option.map _ (twoM n hereS) = _
        unfold twoM putM
        rw [if_pos rfl]
        simp
      unfold stepW
      rw [if_neg (by decide), hi]
      rfl
    unfold wordsP
    simp only [e1]
    unfold wordsP
    simp only [e2]
    rfl
  unfold buildO
  rw [if_neg (by omega), if_neg (by omega), two_reads n hn said hs]
  simp only
  rw [if_neg (by omega), hw]
end Go.Proofs.YtopankjjlapfbaaGreatDoor
namespace Go.Proofs.YtopankjjlapfbaaGreatDoor
open Go.RowKit
set_option linter.unusedVariables false
set_option maxRecDepth 100000

theorem four_bytes (w : World) (z3 z2 z1 z0 : Int) : (convert 36 9 (.slice (some ⟨w.heap.size, 0, none⟩) 4 4)).run Tryz.prog (w.alloc (.cells #[.int .u8 z3, .int .u8 z2, .int .u8 z1, .int .u8 z0] 5)).drew = .ok (.string ⟨#[UInt8.ofNat z3.toNat, UInt8.ofNat z2.toNat, UInt8.ofNat z1.toNat, UInt8.ofNat z0.toNat]⟩) (w.alloc (.cells #[.int .u8 z3, .int .u8 z2, .int .u8 z1, .int .u8 z0] 5)).drew := by
  have h := run_convert_bytes_arg (P := Tryz.prog) (w.alloc (.cells #[.int .u8 z3, .int .u8 z2, .int .u8 z1, .int .u8 z0] 5)).drew 36 5 Tryz.underlying36 Tryz.underlying5 w.heap.size 0 4 4 [z3, z2, z1, z0] rfl (by
    intro i hi
    have hi4 : i = 0 ∨ i = 1 ∨ i = 2 ∨ i = 3 := by omega
    rcases hi4 with rfl | rfl | rfl | rfl <;> simp) 9 Tryz.underlying9
  simpa [strOfNums] using h
theorem dig_at (d : ByteArray) (hd : d = ⟨#[48, 49, 50, 51, 52, 53, 54, 55, 56, 57]⟩) : ∀ k (h : k < d.size), k < 10 → d[k] = UInt8.ofNat (48 + k) := by
  subst hd
  intro k h hk
  have hc : k = 0 ∨ k = 1 ∨ k = 2 ∨ k = 3 ∨ k = 4 ∨ k = 5 ∨ k = 6 ∨ k = 7 ∨ k = 8 ∨ k = 9 := by omega
  rcases hc with rfl | rfl | rfl | rfl | rfl | rfl | rfl | rfl | rfl | rfl <;> rfl

def stL : Value → Nat
  | .string s => s.size
  | _ => 0
theorem fl_size (l : List UInt8) : (mkB (fillP ++ l ++ [10])).size = 7 + l.length := by
  rw [mkB_size]
  unfold fillP
  simp
  omega
theorem fl_six (c : UInt8) (r : List UInt8) (h : 6 < (mkB (fillP ++ (c :: r) ++ [10])).size) : (mkB (fillP ++ (c :: r) ++ [10]))[6] = c := rfl
theorem fl_cut (c : UInt8) (r : List UInt8) : (mkB (fillP ++ (c :: r) ++ [10])).extract 0 6 ++ (mkB (fillP ++ (c :: r) ++ [10])).extract 7 (mkB (fillP ++ (c :: r) ++ [10])).size = mkB (fillP ++ r ++ [10]) := by
  rw [← mkB_of ((mkB (fillP ++ (c :: r) ++ [10])).extract 0 6), ← mkB_of ((mkB (fillP ++ (c :: r) ++ [10])).extract 7 (mkB (fillP ++ (c :: r) ++ [10])).size), Lib.extract_from_zero, Lib.extract_to_end, mkB_data]
  unfold mkB
  rw [Go.ByteArray.mk_append_mk]
  unfold fillP
  simp
theorem fl_text (m : Nat) (said : ByteArray) : mkB (fillP ++ strip (dg4 m) ++ [10]) ++ (⟨#[104, 101, 114, 101, 58, 32, 106, 97, 108, 32, 120, 48, 44, 32, 104, 101, 114, 101, 32, 35]⟩ : ByteArray) ++ said ++ (⟨#[10]⟩ : ByteArray) = mkB (twoT m said.data.toList) := by
  obtain ⟨sd⟩ := said
  unfold mkB
  rw [Go.ByteArray.mk_append_mk, Go.ByteArray.mk_append_mk, Go.ByteArray.mk_append_mk]
  unfold twoT herP fillP
  apply ByteArray.ext
  apply Array.toList_inj.1
  simp
theorem WR.last {wS w : World} {v : Value} {m : Nat} {x : Int} (h : WR wS w v (List.replicate m 0 ++ [x])) :
    ∃ g cap, v = .slice (some ⟨g, 0, none⟩) (m + 1) cap ∧ g < w.heap.size ∧ w.cell? ⟨g, m, none⟩ = some (.int .u32 x) := by
  have hlen : (List.replicate m (0 : Int) ++ [x]).length = m + 1 := by simp
  have hr := h.row
  rw [hlen] at hr
  have hc := fun g => hr.cells (g := g)
  have hlt := hr.lt
  rcases hr.2 with ⟨_, h0⟩ | ⟨g, cap, cur, rfl, hb, hg, _⟩
  · omega
  · have hc2 := hc g rfl m (.int .u32 x) (by simp)
    have hadd : (⟨g, 0, none⟩ : Addr).add m = ⟨g, m, none⟩ := by unfold Addr.add; split <;> simp_all
    rw [hadd] at hc2
    exact ⟨g, cap, rfl, (hlt g rfl).2, hc2⟩

theorem marks_two (m : Nat) (hm : m < 1024) (said : List UInt8) (hs : (10 : UInt8) ∉ said) (hl : said.length ≤ 1000) (b : Int) (h0 : 0 ≤ b) (h4 : b % 4 = 0) (hb : b ≤ 65535) (w : World) (he : Errs w) (hli : Lies w) :
    (ErT w → Calls Tryz.prog 6 #[.string (mkB (twoT m said)), .int .u64 b] w fun e w' => Below w.heap.size w w' ∧ ∃ v, e = .returned (.tuple #[v, .int .i64 0, .int .i64 0]) ∧ WR w w' v (List.replicate m 0 ++ [2348810240])) ∧
    Calls Tryz.prog 8 #[.string (mkB (twoT m said)), .int .u64 b, .string ⟨#[104, 101, 114, 101]⟩] w (fun e w' => e = .returned (.tuple #[.int .u64 (b + 4 * (m : Int)), .bool true]) ∧ Below w.heap.size w w') ∧
    Calls Tryz.prog 8 #[.string (mkB (twoT m said)), .int .u64 b, .string ⟨#[116, 104, 101, 114, 101]⟩] w (fun e w' => e = .returned (.tuple #[.int .u64 0, .bool false]) ∧ Below w.heap.size w w') := by
  have hB := two_build m hm said hs hl b h4 hb
  refine ⟨fun hg => ?_, ?_, ?_⟩
  · have h := assemble_any (mkB (twoT m said)) b h0 w he hli hg
    rw [hB] at h
    exact h
  · have h := mark_of (mkB (twoT m said)) b h0 ⟨#[104, 101, 114, 101]⟩ (by decide) w he hli
    have hM : markA (buildO (mkB (twoT m said)) b) b ⟨#[104, 101, 114, 101]⟩ = (b + 4 * (m : Int), true) := by
      rw [hB]
      unfold markA twoM putM
      simp only [show ((⟨#[104, 101, 114, 101]⟩ : ByteArray) = hereS) from rfl, if_true]
    rw [hM] at h
    exact h
  · have h := mark_of (mkB (twoT m said)) b h0 ⟨#[116, 104, 101, 114, 101]⟩ (by decide) w he hli
    have hM : markA (buildO (mkB (twoT m said)) b) b ⟨#[116, 104, 101, 114, 101]⟩ = (0, false) := by
      rw [hB]
      have hne : ¬ ((⟨#[116, 104, 101, 114, 101]⟩ : ByteArray) = hereS) := by decide
      unfold markA twoM putM
      simp only [if_neg hne]
    rw [hM] at h
    exact h

theorem marks_walk (n base : Int) (said : ByteArray) (hn : (Lit.int .i64 n).wf = true) (hb : (Lit.int .u64 base).wf = true) (hs : said.size ≤ 9223372036854775807) (w : World) (he : Errs w) (hl : Lies w) (hg : ErT w) :
    Calls Tryz.prog 5 #[.int .i64 n, .int .u64 base, .string said] w fun e w' => e = .returned (.bool true) ∧ Below w.heap.size w w' := by
  have hbr : 0 ≤ base ∧ base ≤ 18446744073709551615 := by
    simp [Lit.wf] at hb
    exact hb
  obtain ⟨m, hm, em⟩ := and1023 n
  obtain ⟨b, hb0, hb1, hb4, eb⟩ := base_ok base hbr.1 (by omega)
  have HZ : Hid (∀ k (h : k < said.size), ((said[k].toNat : Nat) : Int) = bsA said k) := fun k h => by
    unfold bsA
    rw [List.getD_eq_getElem?_getD, Array.getElem?_toList, Array.getElem?_eq_getElem (show k < said.data.size from h)]
    rfl
  go_enter Tryz.func5, Tryz.ntmps5
  go_wp2_with fail
  go_loop [7] (fun i => ∃ k : Nat, k ≤ said.size ∧ i = .int .i64 k ∧ ∀ j, j < k → bsA said j ≠ 10) (fun i => said.size - (intOf i).toNat)
  case atStart => exact ⟨0, by omega, rfl, fun j hj => by omega⟩
  case round =>
    obtain ⟨k, hk, rfl, hno⟩ := hrel
    by_cases hk2 : k < said.size
    · have hzk := HZ.out k hk2
      have HNO := hid_mk hno
      clear hno
      by_cases h10 : bsA said k = 10
      · rw [h10] at hzk
        go_wp2_with fail
        go_ret
        exact ⟨rfl, Below.refl _ _⟩
      · have hzb : (bsA said k == 10) = false := by rw [beq_eq_false_iff_ne]; exact h10
        have HX : Hid (∀ j, j < k + 1 → bsA said j ≠ 10) := fun j hj => by
          rcases Nat.lt_or_ge j k with h' | h'
          · exact HNO.out j h'
          · obtain rfl : j = k := by omega
            exact h10
        generalize bsA said k = z at *
        go_wp2_with fail
        go_round
        case rel => exact ⟨k + 1, by omega, by go_num, HX.out⟩
        case measure => simp [intOf]; omega
    · obtain rfl : k = said.size := by omega
      by_cases h1000 : 1000 < said.size
      · have HNO := hid_mk hno
        clear hno
        go_wp2_with fail
        go_ret
        exact ⟨rfl, Below.refl _ _⟩
      · have HSN : Hid ((10 : UInt8) ∉ said.data.toList) := fun h => by
          obtain ⟨i, hi, he⟩ := List.getElem_of_mem h
          have hi2 : i < said.size := by rw [Array.length_toList] at hi; exact hi
          refine hno i hi2 ?_
          unfold bsA
          rw [List.getD_eq_getElem?_getD, List.getElem?_eq_getElem hi, Option.getD_some, he]
          rfl
        clear hno
        go_wp2_with fail
        go_cut [9] from 35 to 56 (fun v9 wx => v9 = .string (mkB (fillP ++ dg4 m ++ [10])) ∧ Below w.heap.size w wx)
        case first =>
          obtain ⟨d, hd⟩ : ∃ d : ByteArray, d = ⟨#[48, 49, 50, 51, 52, 53, 54, 55, 56, 57]⟩ := ⟨_, rfl⟩
          rw [← hd]
          have hd10 : d.size = 10 := by rw [hd]; rfl
          have HD := hid_mk hd
          clear hd
          have p3 : 0 ≤ (m : Int) / 1000 ∧ (m : Int) / 1000 < d.size := by omega
          have p2 : 0 ≤ (m : Int) / 100 % 10 ∧ (m : Int) / 100 % 10 < d.size := by omega
          have p1 : 0 ≤ (m : Int) / 10 % 10 ∧ (m : Int) / 10 % 10 < d.size := by omega
          have p0 : 0 ≤ (m : Int) % 10 ∧ (m : Int) % 10 < d.size := by omega
          have HD10 := hid_mk hd10
          clear hd10
          have cv := four_bytes w
          go_big_region
          have hdd := HD.out
          have g3 := dig_at d hdd (m / 1000) (by omega) (by omega)
          have g2 := dig_at d hdd (m / 100 % 10) (by omega) (by omega)
          have g1 := dig_at d hdd (m / 10 % 10) (by omega) (by omega)
          have g0 := dig_at d hdd (m % 10) (by omega) (by omega)
          simp only [g3, g2, g1, g0]
          clear g3 g2 g1 g0 cv p3 p2 p1 p0 HD10 HD
          subst hdd
          go_wp2_with fail
          go_meet
          refine ⟨?_, ((Below.refl _ _).alloc (Nat.le_refl _) _).drew⟩
          rw [Go.ByteArray.mk_append_mk, Go.ByteArray.mk_append_mk]
          rfl
        case rest =>
          obtain ⟨rfl, hbc⟩ := hcut
          go_wp2_with fail
          go_loopw [9] (fun v wr => ∃ l, v = .string (mkB (fillP ++ l ++ [10])) ∧ l ≠ [] ∧ l.length ≤ 4 ∧ strip l = strip (dg4 m) ∧ Below w.heap.size w wr) (fun v _ => stL v)
          case atStart => exact ⟨_, rfl, by unfold dg4; simp, by unfold dg4; simp, rfl, hbc⟩
          case round =>
            obtain ⟨l, rfl, hne, hl4, hst, hb⟩ := hrel
            cases l with
            | nil => exact absurd rfl hne
            | cons c r =>
              have hfs := fl_six c r
              have hfc := fl_cut c r
              cases r with
              | nil =>
                have hst' : [c] = strip (dg4 m) := hst
                have htx := fl_text m said
                rw [← hst'] at htx
                have hfz : (mkB (fillP ++ [c] ++ [10])).size = 8 := fl_size [c]
                clear hfs hfc hst hst'
                have HTX := hid_mk htx
                clear htx
                generalize mkB (fillP ++ [c] ++ [10]) = t at *
                go_wp2_with fail
                have hlt1 : 1 < w.heap.size := by have := he.big; omega
                have hgr : ErT wr := by unfold ErT; rw [hb.cell (p := ⟨1, 0, none⟩) hlt1]; exact hg
                have hsl : said.data.toList.length ≤ 1000 := by
                  rw [Array.length_toList]
                  show said.size ≤ 1000
                  omega
                have CM := fun w' (hw : Below w.heap.size w w') => marks_two m hm said.data.toList HSN.out hsl b hb0 hb4 hb1 w' (he.below hw) (hl.below hw)
                rw [HTX.out]
                clear HTX
                generalize mkB (twoT m said.data.toList) = T at *
                refine ((CM wr hb).1 hgr).mono ?_
                rintro e w1 ⟨hw1, v, rfl, hW⟩
                obtain ⟨g, cap, rfl, hgl, hcl⟩ := hW.last
                have hbw1 : Below w.heap.size w w1 := hb.trans (hw1.mono hb.size)
                clear hW
                go_wp2_with fail
                refine ((CM _ hbw1).2.1).mono ?_
                rintro e w2 ⟨rfl, hw2⟩
                have hbw2 : Below w.heap.size w w2 := hbw1.trans (hw2.mono hbw1.size)
                rw [← hw2.cell (p := ⟨g, m, none⟩) hgl] at hcl
                have hgl2 : g < w2.heap.size := Nat.lt_of_lt_of_le hgl hw2.size
                go_wp2_with fail
                refine ((CM _ hbw2).2.2).mono ?_
                rintro e w3 ⟨rfl, hw3⟩
                have hbw3 : Below w.heap.size w w3 := hbw2.trans (hw3.mono hbw2.size)
                rw [← hw3.cell (p := ⟨g, m, none⟩) hgl2] at hcl
                clear hw1 hw2 hw3 CM hgl hgl2 hbw1 hbw2 hgr he hl hg hb
                go_wp2_with fail
                go_ret
                exact ⟨rfl, hbw3⟩
              | cons d r =>
                have hlr : r.length ≤ 2 := by simp at hl4; omega
                have hfz : (mkB (fillP ++ (c :: d :: r) ++ [10])).size = 9 + r.length := by
                  rw [fl_size]
                  simp
                  omega
                by_cases hc : c = 48
                · have hst2 : strip (d :: r) = strip (dg4 m) := by
                    rw [← hst]
                    show _ = if c = 48 then strip (d :: r) else c :: d :: r
                    rw [if_pos hc]
                  have HFI : Hid ((∃ l, mkB (fillP ++ (d :: r) ++ [10]) = mkB (fillP ++ l ++ [10]) ∧ l ≠ [] ∧ l.length ≤ 4 ∧ strip l = strip (dg4 m))) := ⟨d :: r, rfl, by simp, by simp; omega, hst2⟩
                  have hz2 : (mkB (fillP ++ (d :: r) ++ [10])).size = 8 + r.length := by
                    rw [fl_size]
                    simp
                    omega
                  have hf6 : ∀ h : 6 < (mkB (fillP ++ (c :: d :: r) ++ [10])).size, (((mkB (fillP ++ (c :: d :: r) ++ [10]))[6]'h).toNat : Int) = 48 := fun h => by rw [hfs h, hc]; rfl
                  clear hfs hst hst2 hl4 hc
                  generalize mkB (fillP ++ (d :: r) ++ [10]) = t2 at *
                  generalize mkB (fillP ++ (c :: d :: r) ++ [10]) = t at *
                  generalize r.length = L at *
                  go_wp2_with fail
                  have q6 : (6 : Int) ≤ t.size := by omega
                  have q7 : (7 : Int) ≤ t.size := by omega
                  have q6n : 6 ≤ t.size := by omega
                  have q7n : 7 ≤ t.size := by omega
                  have HZ2 := hid_mk hz2
                  have HFZ := hid_mk hfz
                  have hadd : ∀ W, (Op.stringOp .add (t.extract 0 6) (t.extract 7 t.size)).run Tryz.prog W = .ok (.string t2) W := fun W => by
                    rw [run_string_add_sum, hfc]
                    rw [← Go.ByteArray.size_append', hfc]
                    omega
                  clear hz2 hfz hfc
                  go_big_region
                  all_goals
                    go_wp2_with fail
                    go_roundw
                    case rel =>
                      obtain ⟨l, hl1, hl2⟩ := HFI.out
                      exact ⟨l, by rw [hl1], hl2.1, hl2.2.1, hl2.2.2, hb.drew⟩
                    case measure =>
                      have h1 := HZ2.out
                      have h2 := HFZ.out
                      simp [stL]
                      omega
                · have hst' : c :: d :: r = strip (dg4 m) := by
                    rw [← hst]
                    show _ = if c = 48 then strip (d :: r) else c :: d :: r
                    rw [if_neg hc]
                  have htx := fl_text m said
                  rw [← hst'] at htx
                  have hz : c.toNat ≠ 48 := fun h => hc (by apply UInt8.toNat_inj.1; rw [h]; rfl)
                  have hf6 : ∀ h : 6 < (mkB (fillP ++ (c :: d :: r) ++ [10])).size, (((mkB (fillP ++ (c :: d :: r) ++ [10]))[6]'h).toNat : Int) = (c.toNat : Int) := fun h => by rw [hfs h]
                  clear hfs hfc hst hst' hl4 hc
                  have HTX := hid_mk htx
                  clear htx
                  generalize mkB (fillP ++ (c :: d :: r) ++ [10]) = t at *
                  generalize c.toNat = cz at *
                  generalize r.length = L at *
                  have hzb : ((cz : Int) == 48) = false := by rw [beq_eq_false_iff_ne]; omega
                  go_wp2_with fail
                  have hlt1 : 1 < w.heap.size := by have := he.big; omega
                  have hgr : ErT wr := by unfold ErT; rw [hb.cell (p := ⟨1, 0, none⟩) hlt1]; exact hg
                  have hsl : said.data.toList.length ≤ 1000 := by
                    rw [Array.length_toList]
                    show said.size ≤ 1000
                    omega
                  have CM := fun w' (hw : Below w.heap.size w w') => marks_two m hm said.data.toList HSN.out hsl b hb0 hb4 hb1 w' (he.below hw) (hl.below hw)
                  rw [HTX.out]
                  clear HTX
                  generalize mkB (twoT m said.data.toList) = T at *
                  refine ((CM wr hb).1 hgr).mono ?_
                  rintro e w1 ⟨hw1, v, rfl, hW⟩
                  obtain ⟨g, cap, rfl, hgl, hcl⟩ := hW.last
                  have hbw1 : Below w.heap.size w w1 := hb.trans (hw1.mono hb.size)
                  clear hW
                  go_wp2_with fail
                  refine ((CM _ hbw1).2.1).mono ?_
                  rintro e w2 ⟨rfl, hw2⟩
                  have hbw2 : Below w.heap.size w w2 := hbw1.trans (hw2.mono hbw1.size)
                  rw [← hw2.cell (p := ⟨g, m, none⟩) hgl] at hcl
                  have hgl2 : g < w2.heap.size := Nat.lt_of_lt_of_le hgl hw2.size
                  go_wp2_with fail
                  refine ((CM _ hbw2).2.2).mono ?_
                  rintro e w3 ⟨rfl, hw3⟩
                  have hbw3 : Below w.heap.size w w3 := hbw2.trans (hw3.mono hbw2.size)
                  rw [← hw3.cell (p := ⟨g, m, none⟩) hgl2] at hcl
                  clear hw1 hw2 hw3 CM hgl hgl2 hbw1 hbw2 hgr he hl hg hb
                  go_wp2_with fail
                  go_ret
                  exact ⟨rfl, hbw3⟩
end Go.Proofs.YtopankjjlapfbaaGreatDoor
