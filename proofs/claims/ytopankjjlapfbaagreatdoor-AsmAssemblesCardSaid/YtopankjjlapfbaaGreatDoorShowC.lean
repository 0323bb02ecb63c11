/-
  What is shown of a word: the program's Show.
  The program's Show, walked.
  The program's Show at any word.
-/
import Derived.Test.YtopankjjlapfbaaGreatDoorPlc
import Derived.Test.YtopankjjlapfbaaGreatDoorWalks12
namespace Go.Proofs.YtopankjjlapfbaaGreatDoor
open Go.RowKit
set_option linter.unusedVariables false
set_option maxRecDepth 100000

/-- the operations' names, each in its operation's place -/
def nameL : List ByteArray := [⟨#[]⟩, ⟨#[97, 100, 100]⟩, ⟨#[115, 117, 98]⟩, ⟨#[97, 110, 100]⟩, ⟨#[111, 114]⟩, ⟨#[120, 111, 114]⟩, ⟨#[115, 108, 108]⟩, ⟨#[115, 114, 108]⟩, ⟨#[115, 114, 97]⟩, ⟨#[115, 108, 116]⟩, ⟨#[115, 108, 116, 117]⟩, ⟨#[109, 117, 108]⟩, ⟨#[100, 105, 118, 117]⟩, ⟨#[114, 101, 109, 117]⟩, ⟨#[97, 100, 100, 105]⟩, ⟨#[97, 110, 100, 105]⟩, ⟨#[111, 114, 105]⟩, ⟨#[120, 111, 114, 105]⟩, ⟨#[115, 108, 108, 105]⟩, ⟨#[115, 114, 108, 105]⟩, ⟨#[115, 114, 97, 105]⟩, ⟨#[115, 108, 116, 105]⟩, ⟨#[108, 117, 105]⟩, ⟨#[108, 100]⟩, ⟨#[108, 119]⟩, ⟨#[108, 98]⟩, ⟨#[115, 100]⟩, ⟨#[115, 119]⟩, ⟨#[115, 98]⟩, ⟨#[98, 101, 113]⟩, ⟨#[98, 110, 101]⟩, ⟨#[98, 108, 116]⟩, ⟨#[98, 103, 101]⟩, ⟨#[98, 108, 116, 117]⟩, ⟨#[98, 103, 101, 117]⟩, ⟨#[106, 97, 108]⟩, ⟨#[106, 97, 108, 114]⟩, ⟨#[108, 114]⟩, ⟨#[115, 99]⟩, ⟨#[97, 109, 111, 97, 100, 100]⟩, ⟨#[97, 109, 111, 115, 119, 112]⟩, ⟨#[102, 101, 110, 99, 101]⟩, ⟨#[101, 99, 97, 108, 108]⟩, ⟨#[115, 114, 101, 116]⟩, ⟨#[119, 102, 105]⟩, ⟨#[115, 102, 101, 110, 99, 101]⟩, ⟨#[99, 115, 114, 114, 119]⟩, ⟨#[99, 115, 114, 114, 115]⟩, ⟨#[99, 115, 114, 114, 99]⟩]
def nameS (op : Int) : ByteArray := nameL.getD op.toNat ⟨#[]⟩
theorem nameS_size (op : Int) : (nameS op).size ≤ 10 := by
  have h : ∀ s ∈ nameL, s.size ≤ 10 := by decide
  unfold nameS
  rw [List.getD_eq_getElem?_getD]
  cases hx : nameL[op.toNat]? with
  | none => exact Nat.zero_le _
  | some s => exact h s (List.mem_of_getElem? hx)

/-- the variable that holds them, and the table of powers of ten, as they lie -/
structure Lies (w : World) : Prop where
  tab : Tab w
  nam : ∀ i : Nat, i < 49 → w.cell? ⟨0, i, none⟩ = some (.string (nameL.getD i ⟨#[]⟩))
  big : 2 ≤ w.heap.size
theorem Lies.below {w w' : World} (h : Lies w) (hb : Below w.heap.size w w') : Lies w' :=
  ⟨h.tab.below hb, fun i hi => by rw [hb.cell (p := ⟨0, i, none⟩) (by have := h.big; show 0 < _; omega)]; exact h.nam i hi, Nat.le_trans h.big hb.size⟩
theorem Lies.alloc {w : World} (h : Lies w) (o : Obj) : Lies (w.alloc o) := h.below ((Below.refl _ _).alloc (Nat.le_refl _) _)

def fv (x1 x2 x3 x4 p : Int) : Int := if p = 0 then x1 else if p = 1 then x2 else if p = 2 then x3 else x4
/-- a line: a name, and the first k of its operands, a blank ahead of each -/
def lineS (nm : ByteArray) (x1 x2 x3 x4 : Int) : List Int → ByteArray
  | [] => nm
  | p :: r => lineS (nm ++ (⟨#[32]⟩ ++ opdS p (fv x1 x2 x3 x4 p))) x1 x2 x3 x4 r
theorem lineS_snoc (x1 x2 x3 x4 p : Int) : ∀ (l : List Int) (nm : ByteArray), lineS nm x1 x2 x3 x4 (l ++ [p]) = lineS nm x1 x2 x3 x4 l ++ (⟨#[32]⟩ ++ opdS p (fv x1 x2 x3 x4 p))
  | [], nm => rfl
  | q :: r, nm => lineS_snoc x1 x2 x3 x4 p r _
theorem opdS_size (p v : Int) (h0 : -1000000 ≤ v) (h1 : v ≤ 1000000) : (opdS p v).size ≤ 1000010 := by
  have hs := itoS_size v
  unfold opdS
  split
  · rw [Go.ByteArray.size_append']
    show 1 + _ ≤ _
    omega
  · omega
theorem lineS_size (x1 x2 x3 x4 : Int) (hx : ∀ p, -1000000 ≤ fv x1 x2 x3 x4 p ∧ fv x1 x2 x3 x4 p ≤ 1000000) : ∀ (l : List Int) (nm : ByteArray), (lineS nm x1 x2 x3 x4 l).size ≤ nm.size + 1000020 * l.length
  | [], nm => by simp [lineS]
  | p :: r, nm => by
    have h := lineS_size x1 x2 x3 x4 hx r (nm ++ (⟨#[32]⟩ ++ opdS p (fv x1 x2 x3 x4 p)))
    have h2 := opdS_size p _ (hx p).1 (hx p).2
    rw [Go.ByteArray.size_append', Go.ByteArray.size_append'] at h
    have h3 : (⟨#[32]⟩ : ByteArray).size = 1 := rfl
    rw [List.length_cons]
    unfold lineS
    omega
end Go.Proofs.YtopankjjlapfbaaGreatDoor
namespace Go.Proofs.YtopankjjlapfbaaGreatDoor
open Go.RowKit
set_option linter.unusedVariables false
set_option maxRecDepth 100000

theorem show_no (a : Int) (ha : 0 ≤ a) (ha' : a ≤ 4294967295) (hv : validW a = false) (w : World) (hl : Lies w) :
    Calls Tryz.prog 11 #[.int .u32 a] w fun e w' => e = .returned (.string (⟨#[46, 119, 111, 114, 100, 32]⟩ ++ itoS a)) ∧ Below w.heap.size w w' := by
  have C1 := decode_no a ha ha' hv
  obtain ⟨u, rfl⟩ : ∃ u : Nat, a = (u : Int) := ⟨a.toNat, by omega⟩
  have hw : IntKind.u64.wrap (u : Int) = (u : Int) := by rw [IntKind.wrap_u64]; omega
  have C2 := format_any u (by omega)
  have hs := decS_size u
  have hs' : (decS u).size ≤ 4294967300 := by omega
  rw [itoS_nat]
  unfold ins at C1
  clear hv hs
  generalize decS u = s at *
  generalize (u : Int) = a at *
  go_enter Tryz.func11, Tryz.ntmps11
  go_wp2_with fail
  refine (C1 _).mono ?_
  rintro e w1 ⟨rfl, hb1⟩
  have HL := (hl.below hb1).alloc (.cells #[.int .i64 0, .int .i64 0, .int .i64 0, .int .i64 0, .int .i64 0] 49)
  have HT := HL.tab
  go_wp2_with fail
  refine (C2 _ HT).mono ?_
  rintro e w2 ⟨rfl, hb2⟩
  go_wp2_with fail
  go_ret
  exact ⟨rfl, (hb1.alloc hb1.size _).trans (hb2.mono (by simp; have := hb1.size; omega))⟩

theorem show_of (a x0 x1 x2 x3 x4 : Int) (n : Nat) (nm : ByteArray) (ps : List Int) (h0 : x0 = (n : Int)) (hn : n < 49) (hnm : nm.size ≤ 10)
    (hx : ∀ p, -1000000 ≤ fv x1 x2 x3 x4 p ∧ fv x1 x2 x3 x4 p ≤ 1000000) (hr : ps.length ≤ 3)
    (C1 : ∀ w, Calls Tryz.prog 17 #[.int .u32 a] w fun e w' => e = .returned (.tuple #[.agg #[.int .i64 x0, .int .i64 x1, .int .i64 x2, .int .i64 x3, .int .i64 x4], .int .i64 0]) ∧ Below w.heap.size w w')
    (C2 : ∀ w, Calls Tryz.prog 19 #[.int .i64 x0] w fun e w' => e = .returned (.slice (some ⟨w.heap.size, 0, none⟩) ps.length ps.length) ∧ w' = w.alloc (.cells (ps.map (Value.int .i64)).toArray 62))
    (w : World) (hl : Lies w) (hc : nameL.getD n ⟨#[]⟩ = nm) :
    Calls Tryz.prog 11 #[.int .u32 a] w fun e w' => e = .returned (.string (lineS nm x1 x2 x3 x4 ps)) ∧ Below w.heap.size w w' := by
  subst h0
  go_enter Tryz.func11, Tryz.ntmps11
  go_wp2_with fail
  refine (C1 _).mono ?_
  rintro e w1 ⟨rfl, hb1⟩
  have hl1 := hl.below hb1
  have hg := hl1.nam n hn
  have hg0 : 0 < w1.heap.size := by have := hl1.big; omega
  rw [hc] at hg
  clear C1
  go_wp2_with fail
  refine (C2 _).mono ?_
  rintro e w2 ⟨rfl, hw2⟩
  simp only [World.size_alloc] at *
  have HB2 : Hid (Below w.heap.size w w2) := by
    rw [hw2]
    exact (hb1.alloc hb1.size _).alloc (by simp; have := hb1.size; omega) _
  have HL2 : Hid (Lies w2) := by
    rw [hw2]
    exact (hl1.alloc _).alloc _
  have hz : w2.heap.size = w1.heap.size + 2 := by rw [hw2]; simp
  have hi1 : w2.cell? ⟨w1.heap.size, 1, none⟩ = some (.int .i64 x1) := by rw [hw2]; simp
  have hi2 : w2.cell? ⟨w1.heap.size, 2, none⟩ = some (.int .i64 x2) := by rw [hw2]; simp
  have hi3 : w2.cell? ⟨w1.heap.size, 3, none⟩ = some (.int .i64 x3) := by rw [hw2]; simp
  have hi4 : w2.cell? ⟨w1.heap.size, 4, none⟩ = some (.int .i64 x4) := by rw [hw2]; simp
  have HF : Hid (∀ q, w2.cell? ⟨w1.heap.size, fo q, none⟩ = some (.int .i64 (fv x1 x2 x3 x4 q))) := fun q => by
    unfold fo fv
    by_cases q0 : q = 0
    · rw [if_pos q0, if_pos q0]; exact hi1
    · rw [if_neg q0, if_neg q0]
      by_cases q1 : q = 1
      · rw [if_pos q1, if_pos q1]; exact hi2
      · rw [if_neg q1, if_neg q1]
        by_cases q2 : q = 2
        · rw [if_pos q2, if_pos q2]; exact hi3
        · rw [if_neg q2, if_neg q2]; exact hi4
  have HP : Hid (∀ k (hk : k < ps.length), w2.cell? ⟨w1.heap.size + 1, k, none⟩ = some (.int .i64 (ps.getD k 0))) := fun k hk => by
    rw [hw2]
    have h := World.cell?_alloc_new (w1.alloc (.cells #[.int .i64 (n : Int), .int .i64 x1, .int .i64 x2, .int .i64 x3, .int .i64 x4] 49)) ((ps.map (Value.int .i64)).toArray) 62 k
    simp only [World.size_alloc] at h
    rw [h]
    simp [hk, List.getD]
  clear hw2 hi1 hi2 hi3 hi4 hb1 hl1 hg hg0 C2 hc hl
  have HLS : Hid (∀ k, (lineS nm x1 x2 x3 x4 (ps.take k)).size ≤ 4000000) := fun k => by
    have h := lineS_size x1 x2 x3 x4 hx (ps.take k) nm
    have h2 : (ps.take k).length ≤ 3 := by simp; omega
    omega
  have HT : Hid (∀ k, k < ps.length → ps.take (k + 1) = ps.take k ++ [ps.getD k 0]) := fun k hk => by
    rw [List.take_succ_eq_append_getElem hk]
    simp [List.getD, hk]
  have HA : Hid (ps.take ps.length = ps) := List.take_length
  generalize ps.length = L at *
  generalize w1.heap.size = B at *
  have HX : Hid (∀ p, -1000000 ≤ fv x1 x2 x3 x4 p ∧ fv x1 x2 x3 x4 p ≤ 1000000) := hx
  clear hx
  go_wp2_with fail
  go_loopw [5, 27] (fun s i wr => ∃ k : Nat, k ≤ L ∧ i = .int .i64 k ∧ s = .string (lineS nm x1 x2 x3 x4 (ps.take k)) ∧ Below w2.heap.size w2 wr) (fun _ i _ => L - (intOf i).toNat)
  case atStart => exact ⟨0, by omega, rfl, rfl, Below.refl _ _⟩
  case round =>
    obtain ⟨k, hk, rfl, rfl, hb⟩ := hrel
    by_cases hlt : k < L
    · have hcp := HP.out k hlt
      rw [← hb.cell (p := ⟨B + 1, k, none⟩) (by show B + 1 < _; omega)] at hcp
      have hs1 := HLS.out k
      have hs2 := HLS.out (k + 1)
      have hh := congrArg (lineS nm x1 x2 x3 x4) (HT.out k hlt)
      rw [lineS_snoc] at hh
      rw [hh] at hs2
      generalize ps.getD k 0 = q at *
      have hcf := HF.out q
      rw [← hb.cell (p := ⟨B, fo q, none⟩) (by show B < _; omega)] at hcf
      have HTB := (HL2.out.below hb).tab
      have hxq := HX.out q
      generalize fv x1 x2 x3 x4 q = vq at *
      have C9 := pshow_any q vq hxq.1 hxq.2 wr HTB
      generalize opdS q vq = oq at *
      generalize lineS nm x1 x2 x3 x4 (ps.take k) = sl at *
      have hoq : oq.size ≤ 4000000 := by
        rw [Go.ByteArray.size_append', Go.ByteArray.size_append'] at hs2
        omega
      have HN : Hid (lineS nm x1 x2 x3 x4 (ps.take (k + 1)) = sl ++ (⟨#[32]⟩ ++ oq)) := hh
      clear hs2 HTB hxq hh
      go_wp2_with fail
      refine (of_any q B _).mono ?_
      rintro e w3 ⟨rfl, rfl⟩
      go_wp2_with fail
      refine C9.mono ?_
      rintro e w4 ⟨rfl, hb4⟩
      go_wp2_with fail
      go_roundw
      case rel => exact ⟨k + 1, by omega, by go_num, by rw [HN.out], hb.trans (hb4.mono hb.size)⟩
      case measure => simp [intOf]; omega
    · obtain rfl : k = L := by omega
      go_wp2_with fail
      go_ret
      exact ⟨congrArg (fun l => Ending.returned (.string (lineS nm x1 x2 x3 x4 l))) HA.out, HB2.out.trans (hb.mono HB2.out.size)⟩
end Go.Proofs.YtopankjjlapfbaaGreatDoor
namespace Go.Proofs.YtopankjjlapfbaaGreatDoor
open Go.RowKit
set_option linter.unusedVariables false
set_option maxRecDepth 100000

theorem show_bare (a x0 x1 x2 x3 x4 : Int) (n : Nat) (nm : ByteArray) (h0 : x0 = (n : Int)) (hn : n < 49)
    (C1 : ∀ w, Calls Tryz.prog 17 #[.int .u32 a] w fun e w' => e = .returned (.tuple #[.agg #[.int .i64 x0, .int .i64 x1, .int .i64 x2, .int .i64 x3, .int .i64 x4], .int .i64 0]) ∧ Below w.heap.size w w')
    (C2 : ∀ w, Calls Tryz.prog 19 #[.int .i64 x0] w fun e w' => e = .returned (.slice none 0 0) ∧ w' = w)
    (w : World) (hl : Lies w) (hc : nameL.getD n ⟨#[]⟩ = nm) :
    Calls Tryz.prog 11 #[.int .u32 a] w fun e w' => e = .returned (.string nm) ∧ Below w.heap.size w w' := by
  subst h0
  go_enter Tryz.func11, Tryz.ntmps11
  go_wp2_with fail
  refine (C1 _).mono ?_
  rintro e w1 ⟨rfl, hb1⟩
  have hl1 := hl.below hb1
  have hg := hl1.nam n hn
  have hg0 : 0 < w1.heap.size := by have := hl1.big; omega
  rw [hc] at hg
  clear C1
  go_wp2_with fail
  refine (C2 _).mono ?_
  rintro e w2 ⟨rfl, rfl⟩
  go_wp2_with fail
  go_loop [5, 27] (fun s i => s = .string nm ∧ i = .int .i64 0) (fun _ _ => 0)
  case atStart => exact ⟨rfl, rfl⟩
  case round =>
    obtain ⟨rfl, rfl⟩ := hrel
    go_wp2_with fail
    go_ret
    exact ⟨rfl, hb1.alloc hb1.size _⟩

theorem plcL_len (op : Int) : (plcL op).length ≤ 3 := by
  unfold plcL
  repeat' split
  all_goals decide

/-- what is shown of a word -/
def showS (a : Int) : ByteArray :=
  if validW a = true then lineS (nameS (opW a)) (rdW a) (rs1W a) (rs2W a) (immW a) (plcL (opW a)) else ⟨#[46, 119, 111, 114, 100, 32]⟩ ++ itoS a

theorem valid_op {a : Int} (h : validW a = true) : 1 ≤ opW a ∧ opW a ≤ 48 := by
  have hs : shapeB (opW a) = true := by
    unfold validW validP at h
    cases hb : shapeB (opW a)
    · rw [hb] at h; simp at h
    · rfl
  have := shape_cases (opW a)
  unfold shapeB at hs
  simp at hs
  omega
theorem fv_small (a p : Int) : -1000000 ≤ fv (rdW a) (rs1W a) (rs2W a) (immW a) p ∧ fv (rdW a) (rs1W a) (rs2W a) (immW a) p ≤ 1000000 := by
  unfold fv rdW rs1W rs2W immW
  repeat' split
  all_goals omega

theorem show_any (a : Int) (ha : 0 ≤ a) (ha' : a ≤ 4294967295) (w : World) (hl : Lies w) :
    Calls Tryz.prog 11 #[.int .u32 a] w fun e w' => e = .returned (.string (showS a)) ∧ Below w.heap.size w w' := by
  unfold showS
  cases hv : validW a
  · exact show_no a ha ha' hv w hl
  · rw [if_pos rfl]
    have ho := valid_op hv
    have C1 := decode_yes a ha ha' hv
    have C2 := places_any (opW a)
    obtain ⟨n, hn⟩ : ∃ n : Nat, opW a = (n : Int) := ⟨(opW a).toNat, by omega⟩
    have hnm : nameL.getD n ⟨#[]⟩ = nameS (opW a) := by unfold nameS; rw [hn]; rfl
    by_cases hp : plcL (opW a) = []
    · rw [hp]
      unfold rowV rowW at C2
      rw [hp] at C2
      exact show_bare a _ _ _ _ _ n _ hn (by omega) C1 (fun w => by simpa using C2 w) w hl hnm
    · unfold rowV rowW at C2
      exact show_of a _ _ _ _ _ n _ (plcL (opW a)) hn (by omega) (nameS_size _) (fv_small a) (plcL_len _) C1 (fun w => by simpa [hp] using C2 w) w hl hnm
end Go.Proofs.YtopankjjlapfbaaGreatDoor
