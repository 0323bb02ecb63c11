/-
  What an error is told as.
  Assemble and Mark, whatever the text.
-/
import Derived.Test.YtopankjjlapfbaaGreatDoorAs3
import Derived.Test.YtopankjjlapfbaaGreatDoorNum
import Derived.Test.YtopankjjlapfbaaGreatDoorBldB
namespace Go.Proofs.YtopankjjlapfbaaGreatDoor
open Go.RowKit
set_option linter.unusedVariables false
set_option maxRecDepth 100000

/-- the variable in which the library keeps what an error's type is -/
def ErT (w : World) : Prop := w.cell? ⟨1, 0, none⟩ = some (.iface 141 (.agg #[.pointer (some ⟨10, 40, none⟩)]))

theorem blame_nil (w : World) : Calls Tryz.prog 13 #[.nilIface] w fun e w' => e = .returned (.tuple #[.int .i64 0, .int .i64 0]) ∧ Below w.heap.size w w' := by
  go_enter Tryz.func13, Tryz.ntmps13
  go_wp2_with fail
  refine (as_nil _ _).mono ?_
  rintro e w1 ⟨rfl, rfl⟩
  go_wp2_with fail
  refine (as_nil _ _).mono ?_
  rintro e w1 ⟨rfl, rfl⟩
  go_wp2_with fail
  go_quiet (fail)
  go_wp2_with fail
  go_ret2
  exact ⟨rfl, below_drewN (((Below.refl _ _).alloc (Nat.le_refl _) _).alloc (by simp) _) _⟩

theorem blame_fault (n : Int) (w : World) (hg : ErT w) : Calls Tryz.prog 13 #[.iface 77 (.agg #[.int .i64 n])] w fun e w' => e = .returned (.tuple #[.int .i64 n, .int .i64 10]) ∧ Below w.heap.size w w' := by
  have hlt : 1 < w.heap.size := World.block_lt_of_cell? w ⟨1, 0, none⟩ hg
  go_enter Tryz.func13, Tryz.ntmps13
  go_wp2_with fail
  refine (as_fault n w.heap.size (.int .i64 0) _ (by rw [World.cell?_alloc_lt _ _ ⟨1, 0, none⟩ hlt]; exact hg) (by simp) (World.frozen?_alloc_new _ _ _ _)).mono ?_
  rintro e w1 ⟨rfl, W, rfl, hb⟩
  have hc := hb.cell (p := ⟨w.heap.size, 0, none⟩) (by show w.heap.size < _; simp)
  have hc' : W.cell? ⟨w.heap.size, 0, none⟩ = some (.int .i64 0) := by rw [hc]; simp
  have HB : Hid (Below w.heap.size w (W.setCell ⟨w.heap.size, 0, none⟩ (.int .i64 n))) := (((Below.refl _ _).alloc (Nat.le_refl _) _).trans (hb.mono (by simp))).setCell (Nat.le_refl _) _
  clear hb hc
  go_wp2_with fail
  go_ret2
  exact ⟨rfl, HB.out⟩

theorem blame_errno (n : Int) (w : World) (hg : ErT w) : Calls Tryz.prog 13 #[.iface 24 (.int .i64 n)] w fun e w' => e = .returned (.tuple #[.int .i64 0, .int .i64 n]) ∧ Below w.heap.size w w' := by
  have hlt : 1 < w.heap.size := World.block_lt_of_cell? w ⟨1, 0, none⟩ hg
  go_enter Tryz.func13, Tryz.ntmps13
  go_wp2_with fail
  refine (as_other n w.heap.size (.int .i64 0) _ (by rw [World.cell?_alloc_lt _ _ ⟨1, 0, none⟩ hlt]; exact hg) (by simp)).mono ?_
  rintro e w1 ⟨rfl, hb⟩
  have hb1 : Below w.heap.size w w1 := ((Below.refl _ _).alloc (Nat.le_refl _) _).trans (hb.mono (by simp))
  have hg1 : w1.cell? ⟨1, 0, none⟩ = some (.iface 141 (.agg #[.pointer (some ⟨10, 40, none⟩)])) := by rw [hb1.cell (p := ⟨1, 0, none⟩) hlt]; exact hg
  have hlt1 : 1 < w1.heap.size := Nat.lt_of_lt_of_le hlt hb1.size
  clear hb
  go_wp2_with fail
  refine (as_errno n w1.heap.size (.int .i64 0) _ (by rw [World.cell?_alloc_lt _ _ ⟨1, 0, none⟩ hlt1]; exact hg1) (by simp) (World.frozen?_alloc_new _ _ _ _)).mono ?_
  rintro e w2 ⟨rfl, W, rfl, hb⟩
  have hc := hb.cell (p := ⟨w1.heap.size, 0, none⟩) (by show w1.heap.size < _; simp)
  have hc' : W.cell? ⟨w1.heap.size, 0, none⟩ = some (.int .i64 0) := by rw [hc]; simp
  have hc2 : (W.setCell ⟨w1.heap.size, 0, none⟩ (.int .i64 n)).cell? ⟨w1.heap.size, 0, none⟩ = some (.int .i64 n) := World.cell?_setCell_same _ _ _ hc'
  have HB : Hid (Below w.heap.size w (W.setCell ⟨w1.heap.size, 0, none⟩ (.int .i64 n))) := ((hb1.alloc hb1.size _).trans (hb.mono (by simp; have := hb1.size; omega))).setCell hb1.size _
  generalize W.setCell ⟨w1.heap.size, 0, none⟩ (.int .i64 n) = w3 at *
  clear hb hc hc'
  go_wp2_with fail
  go_quiet (fail)
  go_wp2_with fail
  go_ret2
  exact ⟨rfl, below_drewN HB.out _⟩
end Go.Proofs.YtopankjjlapfbaaGreatDoor
namespace Go.Proofs.YtopankjjlapfbaaGreatDoor
open Go.RowKit
set_option linter.unusedVariables false
set_option maxRecDepth 100000

theorem build_any (text : ByteArray) (base : Int) (h0 : 0 ≤ base) (w : World) (he : Errs w) (hl : Lies w) :
    Calls Tryz.prog 12 #[.string text, .int .u64 base] w fun e w' => BPost w (buildO text base) e w' := by
  by_cases hb : ¬ base % 4 = 0 ∨ 1099511627776 < base
  · have hB : buildO text base = .errno 2 := by unfold buildO; rw [if_pos hb]
    rw [hB]
    refine (build_arg text base h0 hb w).mono ?_
    rintro e w' ⟨rfl, rfl⟩
    exact ⟨Below.refl _ _, rfl⟩
  · by_cases hs : 65536 < text.size
    · have hB : buildO text base = .errno 3 := by unfold buildO; rw [if_neg hb, if_pos hs]
      rw [hB]
      refine (build_big text base h0 (by omega) (by omega) hs w).mono ?_
      rintro e w' ⟨rfl, rfl⟩
      exact ⟨Below.refl _ _, rfl⟩
    · exact build_main text base h0 (by omega) (by omega) (by omega) w he hl

theorem reads_inv : ∀ (ls : List ByteArray) (S S' : PSt) (n : Int) (k : Nat), InvP S k → k + ls.length ≤ 70000 → (∀ l ∈ ls, l.size ≤ 65536) → readsP (opM 48) n S ls = .ok S' → InvP S' (k + ls.length)
  | [], S, S', n, k, hI, hk, hz, h => by simp only [readsP] at h; cases h; exact hI
  | l :: r, S, S', n, k, hI, hk, hz, h => by
    simp only [readsP] at h
    cases hr : readP (opM 48) n S (wordsL l) with
    | none => rw [hr] at h; cases h
    | some T =>
      rw [hr] at h
      have hI2 := hI.step (by simp at hk; omega) n l (hz l (by simp)) hr
      have := reads_inv r T S' (n + 1) (k + 1) hI2 (by simp at hk; omega) (fun x hx => hz x (by simp [hx])) h
      rw [List.length_cons, show k + (r.length + 1) = k + 1 + r.length by omega]
      exact this
theorem build_marks (text : ByteArray) (base : Int) (out : List Int) (M : ByteArray → Option Int) (h : buildO text base = .ok out M) :
    (base % 4 = 0 ∧ base ≤ 1099511627776) ∧ ∀ t a, M t = some a → 0 ≤ a ∧ a ≤ 1000000000 := by
  unfold buildO at h
  split at h
  · cases h
  · rename_i hb
    split at h
    · cases h
    · rename_i hs
      refine ⟨by omega, ?_⟩
      have hcl := Lib.splitB_all ⟨#[10]⟩ (by decide) 0 _ text rfl
      have hcle := Lib.countB_le ⟨#[10]⟩ (by decide) text.size text (Nat.le_refl _)
      have hlz := split_size ⟨#[10]⟩ (Lib.countB text ⟨#[10]⟩) text
      rw [show Lib.splitB ⟨#[10]⟩ 0 (Lib.countB text ⟨#[10]⟩) text = linesL text from rfl] at hcl hlz
      cases hr : readsP (opM 48) 0 ⟨fun _ => none, [], 0⟩ (linesL text) with
      | error n => rw [hr] at h; cases h
      | ok S =>
        rw [hr] at h
        simp only at h
        have hI := reads_inv (linesL text) _ S 0 0 (⟨by simp, by simp, by simp, fun s hs => (by simp at hs), fun t a h => (by cases h)⟩ : InvP ⟨fun _ => none, [], 0⟩ 0) (by omega) (fun l hl => Nat.le_trans (hlz l hl) (by omega)) hr
        split at h
        · cases h
        · cases hw : wordsP S.M [] S.sts with
          | error n => rw [hw] at h; cases h
          | ok o =>
            rw [hw] at h
            cases h
            exact hI.mm

/-- what a call of Assemble comes to -/
def APost (w : World) (B : Bld) (e : Ending) (w' : World) : Prop := Below w.heap.size w w' ∧ match B with
  | .errno k => e = .returned (.tuple #[.slice none 0 0, .int .i64 0, .int .i64 k])
  | .fault n => e = .returned (.tuple #[.slice none 0 0, .int .i64 n, .int .i64 10])
  | .ok out M => ∃ v, e = .returned (.tuple #[v, .int .i64 0, .int .i64 0]) ∧ WR w w' v out

theorem assemble_any (text : ByteArray) (base : Int) (h0 : 0 ≤ base) (w : World) (he : Errs w) (hl : Lies w) (hg : ErT w) :
    Calls Tryz.prog 6 #[.string text, .int .u64 base] w fun e w' => APost w (buildO text base) e w' := by
  have CB := build_any text base h0 w he hl
  have hlt : 1 < w.heap.size := by have := he.big; omega
  cases hB : buildO text base with
  | errno k =>
    rw [hB] at CB
    go_enter Tryz.func6, Tryz.ntmps6
    go_wp2_with fail
    refine CB.mono ?_
    rintro e w1 ⟨hb1, hx⟩
    replace hx : e = .returned (.tuple #[.slice none 0 0, .map none, .iface 24 (.int .i64 k)]) := hx
    subst hx
    have hg1 : ErT w1 := by unfold ErT; rw [hb1.cell (p := ⟨1, 0, none⟩) hlt]; exact hg
    go_wp2_with fail
    refine (blame_errno k _ hg1).mono ?_
    rintro e w2 ⟨rfl, hb2⟩
    go_wp2_with fail
    exact bodyPost_ret (v := .tuple #[.slice none 0 0, .int .i64 0, .int .i64 k]) (by simp [results, Tryz.results6, go_sem]) rfl ⟨hb1.trans (hb2.mono hb1.size), rfl⟩
  | fault n =>
    rw [hB] at CB
    go_enter Tryz.func6, Tryz.ntmps6
    go_wp2_with fail
    refine CB.mono ?_
    rintro e w1 ⟨hb1, hx⟩
    replace hx : e = .returned (.tuple #[.slice none 0 0, .map none, .iface 77 (.agg #[.int .i64 n])]) := hx
    subst hx
    have hg1 : ErT w1 := by unfold ErT; rw [hb1.cell (p := ⟨1, 0, none⟩) hlt]; exact hg
    go_wp2_with fail
    refine (blame_fault n _ hg1).mono ?_
    rintro e w2 ⟨rfl, hb2⟩
    go_wp2_with fail
    exact bodyPost_ret (v := .tuple #[.slice none 0 0, .int .i64 n, .int .i64 10]) (by simp [results, Tryz.results6, go_sem]) rfl ⟨hb1.trans (hb2.mono hb1.size), rfl⟩
  | ok out M =>
    rw [hB] at CB
    go_enter Tryz.func6, Tryz.ntmps6
    go_wp2_with fail
    refine CB.mono ?_
    rintro e w1 ⟨hb1, hx⟩
    obtain ⟨v, mk, nm, rfl, hW, hMI⟩ := hx
    obtain ⟨va, vc, rfl⟩ := hW.form
    have HW := hid_mk hW
    clear hW hMI
    go_wp2_with fail
    refine (blame_nil _).mono ?_
    rintro e w2 ⟨rfl, hb2⟩
    go_wp2_with fail
    exact bodyPost_ret (v := .tuple #[.slice va out.length vc, .int .i64 0, .int .i64 0]) (by simp [results, Tryz.results6, go_sem]) rfl ⟨hb1.trans (hb2.mono hb1.size), _, rfl, HW.out.below hb2⟩

/-- the address of a mark; whether there is one -/
def markA (B : Bld) (base : Int) (name : ByteArray) : Int × Bool :=
  match B with
  | .ok out M => match M name with
    | some a => (base + 4 * a, true)
    | none => (0, false)
  | _ => (0, false)

theorem look_nil (name : ByteArray) (W : World) : (Instr.lookup 38 (.map none) (.string name) true).run Tryz.prog W = .ok (.tuple #[.int .i64 0, .bool false]) W := by kernel_rfl

theorem mark_of (text : ByteArray) (base : Int) (h0 : 0 ≤ base) (name : ByteArray) (hn : name.size ≤ 65536) (w : World) (he : Errs w) (hl : Lies w) :
    Calls Tryz.prog 8 #[.string text, .int .u64 base, .string name] w fun e w' => e = .returned (.tuple #[.int .u64 (markA (buildO text base) base name).1, .bool (markA (buildO text base) base name).2]) ∧ Below w.heap.size w w' := by
  have CB := build_any text base h0 w he hl
  have hm := build_marks text base
  cases hB : buildO text base with
  | errno k =>
    rw [hB] at CB
    unfold markA
    clear hm
    go_enter Tryz.func8, Tryz.ntmps8
    go_wp2_with fail
    refine CB.mono ?_
    rintro e w1 ⟨hb1, hx⟩
    replace hx : e = .returned (.tuple #[.slice none 0 0, .map none, .iface 24 (.int .i64 k)]) := hx
    subst hx
    have HB := hid_mk hb1
    have hlk := look_nil name
    clear hb1
    go_wp2_with fail
    go_ret2
    exact ⟨rfl, HB.out⟩
  | fault n =>
    rw [hB] at CB
    unfold markA
    clear hm
    go_enter Tryz.func8, Tryz.ntmps8
    go_wp2_with fail
    refine CB.mono ?_
    rintro e w1 ⟨hb1, hx⟩
    replace hx : e = .returned (.tuple #[.slice none 0 0, .map none, .iface 77 (.agg #[.int .i64 n])]) := hx
    subst hx
    have HB := hid_mk hb1
    have hlk := look_nil name
    clear hb1
    go_wp2_with fail
    go_ret2
    exact ⟨rfl, HB.out⟩
  | ok out M =>
    rw [hB] at CB
    obtain ⟨hb4, hmr⟩ := hm out M hB
    cases hMn : M name with
    | none =>
      unfold markA
      simp only [hMn]
      go_enter Tryz.func8, Tryz.ntmps8
      go_wp2_with fail
      refine CB.mono ?_
      rintro e w1 ⟨hb1, hx⟩
      obtain ⟨v, mk, nm, rfl, hW, hMI⟩ := hx
      have hlk := hMI.look name hn
      rw [hMn] at hlk
      simp only [Option.isSome_none, Option.getD_none] at hlk
      have HB := hid_mk hb1
      clear hb1 hW hMI
      go_wp2_with fail
      go_ret2
      exact ⟨rfl, HB.out⟩
    | some a =>
      have har := hmr name a hMn
      unfold markA
      simp only [hMn]
      clear hmr
      go_enter Tryz.func8, Tryz.ntmps8
      go_wp2_with fail
      refine CB.mono ?_
      rintro e w1 ⟨hb1, hx⟩
      obtain ⟨v, mk, nm, rfl, hW, hMI⟩ := hx
      have hlk := hMI.look name hn
      rw [hMn] at hlk
      simp only [Option.isSome_some, Option.getD_some] at hlk
      have HB := hid_mk hb1
      clear hb1 hW hMI
      go_wp2_with fail
      go_ret2
      exact ⟨by rfl, HB.out⟩
end Go.Proofs.YtopankjjlapfbaaGreatDoor
