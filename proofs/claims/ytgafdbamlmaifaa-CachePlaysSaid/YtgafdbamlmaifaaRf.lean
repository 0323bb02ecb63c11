/-
  The document's cache: what its DropGroup does.
-/
import Derived.Test.YtgafdbamlmaifaaRd
namespace Go.Proofs.Ytgafdbamlmaifaa.R
open Go.RowKit
set_option linter.unusedVariables false
set_option maxRecDepth 20000

/-- the items of other groups -/
def notG (g : Int) (is : List It) : List It := is.filter (fun i => !decide (i.g = g))
theorem notG_succ (g : Int) (is : List It) (j : Nat) (hj : j < is.length) : notG g (is.take (j + 1)) = notG g (is.take j) ++ (if (is.getD j i0).g = g then [] else [is.getD j i0]) := by
  unfold notG
  rw [List.take_add_one, List.filter_append]
  simp only [List.getD, List.getElem?_eq_getElem hj, Option.getD_some, Option.toList_some, List.filter_cons, List.filter_nil]
  by_cases e : is[j].g = g
  · simp [e]
  · simp [e]

/-- the state between the rounds -/
structure DS (B : Nat) (w wr : World) (r room : Nat) (v l : Value) (is : List It) (g : Int) (j : Nat) : Prop where
  rc : RC B wr r room v is
  bel : Below w.heap.size w wr
  its : Its w.heap.size wr l (notG g (is.take j))

set_option maxHeartbeats 1600000 in
theorem dropGroup_any (B r room : Nat) (v : Value) (is : List It) (g : Int) (w : World) (h : RC B w r room v is) (hBw : B ≤ w.heap.size) :
    Calls Try.prog 15 #[.pointer (some ⟨r, 0, none⟩), .int .i64 g] w fun e w' => e = .returned (.int .i64 ((is.length : Int) - ((notG g is).length : Int))) ∧ ∃ v', RC B w' r room v' (notG g is) ∧ Turn w w' r v v' := by
  have hlen := h.len
  have hr2 := h.room2
  obtain ⟨a, n, c, rfl, hnl⟩ := its_form h.its
  have hn : n ≤ 1024 := by omega
  have HNL : Hid (n = is.length) := hnl
  have E0 : Hid (DS B w w r room (.slice a n c) (.slice none 0 0) is g 0) := ⟨h, Below.refl _ _, .inl ⟨rfl, by simp [notG]⟩⟩
  clear h hnl hlen
  go_enter Try.func15, Try.ntmps15
  go_wp2_with fail
  go_loopw [5, 6] (fun l q wr => ∃ j : Nat, j ≤ n ∧ q = .int .i64 j ∧ (∃ a2 n2 c2, l = .slice a2 n2 c2 ∧ n2 ≤ 1024) ∧ Hid (DS B w wr r room (.slice a n c) l is g j)) (fun _ q _ => n - (intOf q).toNat)
  case atStart => exact ⟨0, by omega, rfl, ⟨_, _, _, rfl, by omega⟩, E0⟩
  case round =>
    obtain ⟨j, hj, rfl, ⟨a2, n2, c2, rfl, hn2⟩, HJ⟩ := hrel
    have c1 := HJ.out.rc.c1
    have hrl := HJ.out.rc.lt
    by_cases hjn : j < n
    · have hjn' : (j : Int) < (n : Int) := by omega
      obtain ⟨gg, o, cc, e, hB, hrow⟩ := row_of HJ.out.rc (i := j) (by have := HNL.out; omega)
      cases e
      have hgl := hrow.lt
      obtain ⟨d0, d1, d2⟩ := hrow.c j (by have := HNL.out; omega)
      clear hrow
      have hsucc := notG_succ g is j (by have := HNL.out; omega)
      have hlen0 : (notG g (is.take j)).length < 100000 := by
        have h1 : (notG g (is.take j)).length ≤ (is.take j).length := List.length_filter_le _ _
        have h2 : (is.take j).length ≤ j := by simp; omega
        have := HJ.out.rc.len
        omega
      obtain ⟨it, hit⟩ : ∃ it, Hid (it = is.getD j i0) := ⟨_, rfl⟩
      rw [← hit.out] at d0 d1 d2 hsucc
      by_cases hg : it.g = g
      · have HN : Hid (DS B w wr r room (.slice (some ⟨gg, o * 3, none⟩) is.length c) (.slice a2 n2 c2) is g (j + 1)) := ⟨HJ.out.rc, HJ.out.bel, by rw [hsucc, if_pos hg, List.append_nil]; exact HJ.out.its⟩
        clear hsucc
        clear E0
        go_wp2_with fail
        go_roundw
        case rel => exact ⟨j + 1, by omega, by go_num, ⟨_, _, _, rfl, hn2⟩, HN⟩
        case measure => simp [intOf]; omega
      · have hws := HJ.out.bel.size
        obtain ⟨v', w', hrun, hI', hg', hown'⟩ := HJ.out.its.push it hlen0 hws
        have hrw := E0.out.rc.lt
        have hgw : gg < w.heap.size := (E0.out.rc.its.lt gg rfl).2
        have old : ∀ k, k < w.heap.size → w'.heap[k]? = wr.heap[k]? := fun k hk => (hg'.block k (by simp; omega) (fun e => by have := (HJ.out.its.lt k e.symm).1; omega)).trans (heap_alloc_past wr _ (by omega))
        have hs' : wr.heap.size ≤ w'.heap.size := by have := hg'.size; simp at this; omega
        have HN : Hid (DS B w w' r room (.slice (some ⟨gg, o * 3, none⟩) is.length c) v' is g (j + 1)) :=
          ⟨HJ.out.rc.keep (old r hrw) (fun k hk => by cases hk; exact old gg hgw), ⟨hg'.os.trans HJ.out.bel.os, hg'.tape.trans HJ.out.bel.tape, hg'.output.trans HJ.out.bel.output, by omega, fun k hk => (old k hk).trans (HJ.out.bel.block k hk)⟩, by rw [hsucc, if_neg hg]; exact hI'⟩
        obtain ⟨a3, n3, c3, rfl, hn3⟩ := its_form hI'
        have hn3' : n3 ≤ 1024 := by
          have h1 : (notG g (is.take j)).length ≤ (is.take j).length := List.length_filter_le _ _
          have h2 : (is.take j).length ≤ j := by simp; omega
          simp only [List.length_append, List.length_singleton] at hn3
          omega
        unfold ic at hrun
        clear hI' hg' hown' old hsucc hn3 E0
        go_wp2_with (at_builtin; refine wpList_append_run rfl _ _ 41 rfl _ _ (.slice a3 n3 c3) w' rfl rfl hrun ?_)
        go_roundw
        case rel => exact ⟨j + 1, by omega, by go_num, ⟨_, _, _, rfl, hn3'⟩, HN⟩
        case measure => simp [intOf]; omega
    · obtain rfl : j = n := by omega
      have hfz := HJ.out.rc.f 1
      have hn2' : n2 = (notG g is).length := by
        obtain ⟨_, _, _, e, h'⟩ := its_form HJ.out.its
        cases e
        rw [h', HNL.out, List.take_length]
      have hI : Its w.heap.size wr (.slice a2 n2 c2) (notG g is) := by
        have := HJ.out.its
        rw [HNL.out, List.take_length] at this
        exact this
      have hrw := E0.out.rc.lt
      have gr2 : (Value.slice a2 n2 c2).ownBlock ≠ some r := fun e => by have := (hI.lt r e).1; omega
      have HF : Hid (RC B (wr.setCell ⟨r, 1, none⟩ (.slice a2 n2 c2)) r room (.slice a2 n2 c2) (notG g is) ∧ Turn w (wr.setCell ⟨r, 1, none⟩ (.slice a2 n2 c2)) r (.slice a j c) (.slice a2 n2 c2)) := by
        have o3 := HJ.out.rc.set (.slice a2 n2 c2)
        have hI3 : Its w.heap.size (wr.setCell ⟨r, 1, none⟩ (.slice a2 n2 c2)) (.slice a2 n2 c2) (notG g is) := hI.keep (fun k hk => gr_keep o3.2 (hI.lt k hk).2 (fun e => gr2 (by rw [← e]; exact hk)))
        have hI4 : Its B (wr.setCell ⟨r, 1, none⟩ (.slice a2 n2 c2)) (.slice a2 n2 c2) (notG g is) := by
          rcases hI3 with h' | ⟨g', o', c', e, hB', hr'⟩
          · exact .inl h'
          · exact .inr ⟨g', o', c', e, by omega, hr'⟩
        have hle : (notG g is).length ≤ room := Nat.le_trans (List.length_filter_le _ _) HJ.out.rc.len
        refine ⟨⟨o3.1, hI4, HJ.out.rc.rB, gr2, HJ.out.rc.room1, HJ.out.rc.room2, hle⟩, ⟨⟨o3.2.os.trans HJ.out.bel.os, o3.2.tape.trans HJ.out.bel.tape, o3.2.output.trans HJ.out.bel.output, Nat.le_trans HJ.out.bel.size o3.2.size, fun k hk hn => ?_⟩, fun k hk => .inr (hI.lt k hk).1⟩⟩
        exact (gr_keep o3.2 (Nat.lt_of_lt_of_le hk HJ.out.bel.size) (fun e => hn (.inl e))).trans (HJ.out.bel.block k hk)
      have HN2 : Hid (n2 = (notG g is).length) := hn2'
      have hle2 : n2 ≤ j := by rw [hn2', HNL.out]; exact List.length_filter_le _ _
      clear hI gr2 hn2' E0
      go_wp2_with fail
      go_ret
      exact ⟨ret_int (by rw [← HN2.out, ← HNL.out]), _, HF.out⟩
end Go.Proofs.Ytgafdbamlmaifaa.R
