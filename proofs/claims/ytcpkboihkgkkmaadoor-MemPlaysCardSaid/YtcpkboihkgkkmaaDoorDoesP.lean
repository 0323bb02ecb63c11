/-
  What a Put on both memories does: the contract of does for it.
-/
import Derived.Test.YtcpkboihkgkkmaaDoorDoes
namespace Go.Proofs.YtcpkboihkgkkmaaDoor
open Go.RowKit
set_option linter.unusedVariables false

theorem bytes_snoc {ys : List Int} (h : Bytes ys) : Bytes (ys ++ [90]) := by
  intro i
  have := h i
  simp only [List.getD, List.getElem?_append] at this ⊢
  split
  · exact this
  · rcases (i - ys.length) with _ | m <;> simp
theorem str_snoc (zs : List Int) : strOfNums zs ++ ⟨#[90]⟩ = strOfNums (zs ++ [90]) := by
  apply ByteArray.ext
  simp [strOfNums]
theorem SL.one (w : World) : SL (w.alloc (.cells #[.int .u8 90] 5)) (some ⟨w.heap.size, 0, none⟩) 1 [90] := by
  refine ⟨rfl, ?_, .inr ⟨w.heap.size, 0, rfl, by simp, ?_⟩⟩
  · intro i
    rcases i with _ | i <;> simp
  · intro i hi
    obtain rfl : i = 0 := by omega
    simp

set_option maxRecDepth 100000 in
set_option maxHeartbeats 3200000 in
theorem does_put (b g c h bo go : Nat) (os zs ys : List Int) (t n v : Int) (a : Option Addr) (m cap : Nat) (w0 w : World) (ht : 0 ≤ t) (ht' : t < 18446744073709551616) (hs : SL w0 a m ys) (hnil : a = none → m = 0 ∧ cap = 0) (hcap : m ≤ cap) (hm : m ≤ 140737488351232)
    (D : DW w0 (w.alloc (.cells #[.int .i64 3, .int .u64 t, .int .i64 n, .int .u64 v, .slice a m cap] 38)) b g c h bo go os w.heap.size zs zs 3 t n v (.slice a m cap)) :
    Calls Tryd.prog 14 #[.pointer (some ⟨b, 0, none⟩), .pointer (some ⟨c, 0, none⟩), .agg #[.int .i64 3, .int .u64 t, .int .i64 n, .int .u64 v, .slice a m cap]] w fun e w' => e = .returned (.bool true) ∧ ∃ zs' : List Int, zs'.length = zs.length ∧ Both w0 w' b g c h bo go os zs' := by
  have hyl := hs.1
  have hBy := hs.2.1
  obtain ⟨W, hW⟩ : ∃ W, W = w.alloc (.cells #[.int .i64 3, .int .u64 t, .int .i64 n, .int .u64 v, .slice a m cap] 38) := ⟨_, rfl⟩
  rw [← hW] at D
  have hbW : Below W.heap.size W (W.alloc (.cells #[] 5)) := (Below.refl _ _).alloc (Nat.le_refl _) _
  have hsA : SL (W.alloc (.cells #[] 5)) a m ys := SL.below (SL.below hs D.below) hbW
  have hownA : (W.alloc (.cells #[] 5)).ownsRow W.heap.size 5 1 (.slice (some ⟨W.heap.size, 0, none⟩) 0 0) 0 (([] : List Int).map (Value.int .u8)) := World.ownsRow_lit W #[] 0 (Nat.le_refl _) (by decide) rfl
  have HN : Hid (a = none → m = 0 ∧ cap = 0) := hnil
  have p4 := (D.next hbW).a4
  clear hnil
  subst hW
  rw [show (w.alloc (Obj.cells #[.int .i64 3, .int .u64 t, .int .i64 n, .int .u64 v, .slice a m cap] 38)).heap.size = w.heap.size + 1 by simp] at hownA
  go_enter Tryd.func14, Tryd.ntmps14
  go_wp2_with (first
    | (at_builtin; refine wpList_append_sl rfl (.tmp 113) (.tmp 115) rfl (w.heap.size + 1) (.slice (some ⟨w.heap.size + 1, 0, none⟩) 0 0) 0 [] rfl hownA _ m cap ys rfl HN.out hsA (by omega) (by simp) ?_; intro v1 w1 hown1 hgrow1)
    | (at_builtin; refine wpList_append_sl rfl (.tmp 116) (.tmp 117) rfl (w.heap.size + 1) v1 _ _ rfl (hown1.alloc _) _ 1 1 [90] rfl (fun h => by cases h) (SL.one _) (by omega) (by have := hgrow1.size; simp at this ⊢; omega) ?_; intro v2 w3 hown2 hgrow2))
  have lA := D.lt
  have lg := D.mm.glt
  have lh := D.rm.glt
  have lb := D.mm.blt
  have lc := D.rm.blt
  simp only [World.size_alloc] at lg lh lb lc hbW
  have bel1 : Below (w.heap.size + 1) (w.alloc (.cells #[.int .i64 3, .int .u64 t, .int .i64 n, .int .u64 v, .slice a m cap] 38)) w1 := hbW.grown hgrow1 (by simp) (fun k h => (hownA.lt k h).1)
  have bel3 : Below (w.heap.size + 1) (w.alloc (.cells #[.int .i64 3, .int .u64 t, .int .i64 n, .int .u64 v, .slice a m cap] 38)) w3 := (bel1.alloc (by have := bel1.size; simp at this; omega) _).grown hgrow2 (by have := bel1.size; simp at this ⊢; omega) (fun k h => (hown1.lt k h).1)
  have D3 := D.next (w' := w3) (by simpa using bel3)
  rw [Nat.zero_add, List.nil_append] at hown2
  obtain ⟨gi, capi, rfl⟩ := row_form hown2 (by omega)
  have hci : m + 1 ≤ capi := own_cap3 hown2
  have hgi := (hown2.lt gi rfl).1
  have slh : SL w3 (some ⟨gi, 0, none⟩) m ys := by have := SL.head capi hown2 hBy; rw [hyl] at this; exact this
  have HO : Hid (w3.drew.ownsRow (w.heap.size + 1) 5 1 (.slice (some ⟨gi, 0, none⟩) (m + 1) capi) (m + 1) ((ys ++ [90]).map (Value.int .u8))) := hown2
  have PT := mput_mm b g zs ys t (some ⟨gi, 0, none⟩) m capi w3.drew D3.drew.mm (SL.below slh (Below.refl _ _).drew) (by omega) ht ht'
  clear hown1 hgrow1 hgrow2 bel1 bel3 hownA hsA hbW hown2 slh D p4 HN
  have hrange : (0 : Int) ≤ (m : Int) ∧ (m : Int) ≤ (capi : Int) := by omega
  obtain ⟨err, HERR⟩ : ∃ err, Hid (plcE zs.length t ys.length = err) := ⟨_, rfl⟩
  rw [HERR.out] at PT
  go_region_held (fun w' => w'.cell? ⟨w.heap.size, 1, none⟩ = some (.int .u64 t) ∧ w'.cell? ⟨w.heap.size, 4, none⟩ = some (.slice a m cap)) (first | exact ⟨D3.drew.a1, D3.drew.a4⟩ | exact ⟨D4.a1, D4.a4⟩)
    (first | (go_at_call 18; refine PT.mono ?_; rintro e x1 ⟨rfl, hm1, hk1⟩; have D4 := D3.drew.wroteM hm1 hk1))
  have q1 := D4.a1
  have q4 := D4.a4
  have ql := D4.lt
  have o4 := World.ownsRow.kept HO.out hk1 (.inr (by simp [Value.ownBlock]; omega))
  have sl4 := SL.below hs D4.below
  have RP := rmput_any c h zs ys t a m cap x1 D4.rm sl4 (fun h0 b0 off e => by
    have hh := D4.lh
    rcases hs.2.2 with h00 | ⟨b1, off1, e1, hb1, _⟩
    · omega
    · rw [e] at e1; cases e1; omega) hcap (by omega) ht ht'
  rw [HERR.out] at RP
  have O4 : Hid (_) := o4
  clear o4 sl4 PT
  go_wp2_with fail
  refine RP.mono ?_
  rintro e x2 ⟨rfl, hm2, hk2⟩
  have D5 := D4.wroteR hm2 hk2
  have q4' := D5.a4
  have ql' := D5.lt
  have o5 := World.ownsRow.kept O4.out hk2 (.inr (by simp [Value.ownBlock]; omega))
  have hB9 : Bytes (ys ++ [90]) := bytes_snoc hBy
  have vi := conv_sl capi (SL.own o5 hB9)
  have vb := conv_sl cap (SL.below hs D5.below)
  have HR : Hid (strOfNums ys ++ ⟨#[90]⟩ = strOfNums (ys ++ [90])) := str_snoc ys
  have hsz : (strOfNums ys).size ≤ 140737488351232 := by rw [strOfNums_size, hyl]; exact hm
  have FB : ∃ zs' : List Int, zs'.length = zs.length ∧ Both w0 x2 b g c h bo go os zs' := ⟨_, put_len zs ys t ht, D5.both⟩
  have HFB : Hid (_) := FB
  clear FB o5 O4 RP q1 q4 ql hk1 hk2 hm1 hm2 D3 D4 D5 HO
  go_wp2_with fail
  go_ret
  exact ⟨ret_bool (by rw [HR.out]; simp), HFB.out⟩

/-- any call on both -/
theorem does_any (b g c h bo go : Nat) (os zs ys : List Int) (k t n v : Int) (a : Option Addr) (m cap : Nat) (w0 w : World) (ht : 0 ≤ t) (ht' : t < 18446744073709551616) (hn' : n < 9223372036854775808) (h0 : 0 ≤ v) (h1 : v < 18446744073709551616)
    (hs : SL w0 a m ys) (hnil : a = none → m = 0 ∧ cap = 0) (hcap : m ≤ cap) (hm : m ≤ 140737488351232)
    (D : DW w0 (w.alloc (.cells #[.int .i64 k, .int .u64 t, .int .i64 n, .int .u64 v, .slice a m cap] 38)) b g c h bo go os w.heap.size zs zs k t n v (.slice a m cap)) :
    Calls Tryd.prog 14 #[.pointer (some ⟨b, 0, none⟩), .pointer (some ⟨c, 0, none⟩), .agg #[.int .i64 k, .int .u64 t, .int .i64 n, .int .u64 v, .slice a m cap]] w fun e w' => e = .returned (.bool true) ∧ ∃ zs' : List Int, zs'.length = zs.length ∧ Both w0 w' b g c h bo go os zs' := by
  by_cases hk : 0 ≤ k ∧ k ≤ 4
  · obtain rfl | rfl | rfl | rfl | rfl : k = 0 ∨ k = 1 ∨ k = 2 ∨ k = 3 ∨ k = 4 := by omega
    · exact (does_load b g c h bo go os zs t n v a m cap w0 w ht ht' hn' D).mono fun _ _ ⟨he, hb⟩ => ⟨he, zs, rfl, hb⟩
    · exact does_store b g c h bo go os zs t n v a m cap w0 w ht ht' hn' h0 h1 D
    · exact (does_bytes b g c h bo go os zs t n v a m cap w0 w ht ht' hn' D).mono fun _ _ ⟨he, hb⟩ => ⟨he, zs, rfl, hb⟩
    · exact does_put b g c h bo go os zs ys t n v a m cap w0 w ht ht' hs hnil hcap hm D
    · exact does_clear b g c h bo go os zs t n v a m cap w0 w D
  · exact (does_other b g c h bo go os zs k t n v a m cap w0 w hk D).mono fun _ _ ⟨he, hb⟩ => ⟨he, zs, rfl, hb⟩
end Go.Proofs.YtcpkboihkgkkmaaDoor
