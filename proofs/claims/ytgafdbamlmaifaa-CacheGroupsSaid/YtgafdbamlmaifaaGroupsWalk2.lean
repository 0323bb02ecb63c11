/-
  What is kept of one group is not told of another, and stays when that one's is dropped: the walk of CacheGroups, of more than 200 keys.
-/
import Derived.Test.YtgafdbamlmaifaaGroupsWalk
namespace Go.Proofs.Ytgafdbamlmaifaa.G
open Go.RowKit
set_option linter.unusedVariables false
set_option maxRecDepth 20000

set_option maxHeartbeats 3200000 in
theorem walk_great (a : Option Addr) (n c : Nat) (zs : List Int) (ga gb : Int) (hga : (Lit.int .i64 ga).wf = true) (hgb : (Lit.int .i64 gb).wf = true) (hab : ga ≠ gb) (w : World) (hK : KeysIn w a n zs) (hn : n < 9223372036854775808) (hN : 200 < n) :
    Calls Try.prog 6 #[.slice a n c, .int .i64 ga, .int .i64 gb] w fun e w' => e = .returned (.bool true) ∧ Below w.heap.size w w' := by
  have C1 := new_yes 1024 (by omega) (by omega)
  have HK : Hid (KeysIn w a n zs) := hK
  have hNi : (200 : Int) < (n : Int) := by omega
  have hab' : (ga == gb) = false := beq_false_of_ne hab
  clear hK
  go_enter Try.func6, Try.ntmps6
  go_wp2_with fail
  refine (C1 _).mono ?_
  rintro e w1 ⟨b, rfl, ⟨m, hC⟩, hb1⟩
  have E0 : Hid (S1 w w1 b m ga gb zs 0) := ⟨_, _, _, _, hC, by rw [List.take_zero]; exact GI.nil ga gb _, hb1⟩
  clear C1 hC hb1
  go_wp2_with fail
  go_loopw [10] (fun q wr => ∃ j : Nat, j ≤ 200 ∧ q = .int .i64 j ∧ Hid (S1 w wr b m ga gb zs j)) (fun q _ => 200 - (intOf q).toNat)
  case atStart => exact ⟨0, by omega, rfl, E0⟩
  case round =>
    obtain ⟨j, hj, rfl, HS⟩ := hrel
    clear E0
    by_cases hjn : j < 200
    · have hjn' : (j : Int) < (200 : Int) := by omega
      have hjn2 : (j : Int) < (n : Int) := by omega
      obtain ⟨kb, off, rfl, hkb, hcs⟩ : ∃ kb off, a = some ⟨kb, off, none⟩ ∧ kb < w.heap.size ∧ _ := by
        rcases HK.out.2.2 with h' | h'
        · omega
        · exact h'
      have d0 := hcs j (by omega)
      obtain ⟨v, os, M, ks, hC, hG, hbel⟩ := HS.out
      have hzl : j < zs.length := by have := HK.out.1; omega
      have hkW : (Lit.int .u64 (zs.getD j 0)).wf = true := HK.out.2.1 _ (by simp [hzl])
      have htake : zs.take (j + 1) = zs.take j ++ [zs.getD j 0] := by rw [List.take_add_one]; simp [hzl]
      have hl0 := hG.length
      have hl1 := hG.len
      have hl2 : (zs.take j).length ≤ 200 := by simp; omega
      obtain ⟨k, hk⟩ : ∃ k, Hid (k = zs.getD j 0) := ⟨_, rfl⟩
      rw [← hk.out] at d0 hkW htake
      have k0 : wr.drew.cell? ⟨kb, off + j, none⟩ = some (.int .u64 k) := ((bel_cell hbel hkb).1 _).trans d0
      have hkbr : kb < wr.heap.size := by have := hbel.size; omega
      have hbd : Below wr.heap.size wr wr.drew := (Below.refl _ _).drew
      have CA := gput w.heap.size b 1024 m v os M ⟨ga, k⟩ (va k) ⟨hga, hkW⟩ wr.drew (hC.below hbd) hbel.size (by omega)
      have hxk : ∀ y v1, Turn wr.drew y b m v v1 → y.cell? ⟨kb, off + j, none⟩ = some (.int .u64 k) ∧ Below w.heap.size w y := fun y v1 hT => by
        have hb' := hT.below (hC.below hbd) hbel.size
        exact ⟨((bel_cell hb' hkb).1 _).trans k0, hbel.drew.trans hb'⟩
      have CB : ∀ y v1, CC w.heap.size y b 1024 m v1 (if (⟨ga, k⟩ : Pl) ∈ os then os else os ++ [⟨ga, k⟩]) (upd M ⟨ga, k⟩ (some (va k))) → Below w.heap.size w y → _ := fun y v1 hCy hby =>
        gput w.heap.size b 1024 m v1 _ _ ⟨gb, k⟩ (vb k) ⟨hgb, hkW⟩ y hCy hby.size (by have := ite_len os (⟨ga, k⟩ : Pl); omega)
      obtain ⟨ks', hG'⟩ := hG.step hab k
      have HG : Hid (GI ga gb (zs.take (j + 1)) ks' _ _) := htake ▸ hG'
      clear hG hG' hl0 hl1 hl2 d0 hcs htake HS
      unfold va at CA
      unfold va vb at CB
      go_wp2_with fail
      go_region_held (fun w' => w'.cell? ⟨kb, off + j, none⟩ = some (.int .u64 k)) (first | exact k0 | exact k1 | exact k2)
        (first
          | (go_at_call 25; refine (CB _ _ hC1 hb1).mono ?_; rintro e x2 ⟨rfl, v2, hC2, hT2⟩; have hb2 := hT2.below hC1 hb1.size; have k2 : x2.cell? ⟨kb, off + j, none⟩ = some (.int .u64 k) := ((bel_cell hb2 hkb).1 _).trans k1)
          | (go_at_call 25; refine CA.mono ?_; rintro e x1 ⟨rfl, v1, hC1, hT1⟩; obtain ⟨k1, hb1⟩ := hxk _ _ hT1))
      have HN : Hid (S1 w x2 b m ga gb zs (j + 1)) := ⟨_, _, _, _, hC2, HG.out, hb1.trans hb2⟩
      clear hC2 hC1 hT1 hT2 hb1 hb2 CA CB hxk hC HG k0 k1 k2
      go_wp2_with fail
      go_roundw
      case rel => exact ⟨j + 1, by omega, by go_num, HN⟩
      case measure => simp [intOf]; omega
    · obtain rfl : 200 = j := by omega
      obtain ⟨v, os, M, ks, hC, hG, hbel⟩ := HS.out
      have hl0 := hG.length
      have hl2 : ks.length ≤ 200 := by
        have h1 := hG.len
        have h2 : (zs.take 200).length ≤ 200 := by simp; omega
        omega
      obtain ⟨L, hL⟩ : ∃ L, Hid (L = ks.length) := ⟨_, rfl⟩
      have C26 := len_any w.heap.size b 1024 m v os M wr hC
      rw [show (os.length : Int) = 2 * (L : Int) by rw [hL.out]; omega] at C26
      have C27 := dropGroup_any w.heap.size b 1024 m v os M ga wr hC
      rw [hG.os, filter_pairs hab] at C27
      rw [show (((ks.flatMap (pr ga gb)).length : Nat) : Int) - ((ks.map (fun k => (⟨gb, k⟩ : Pl))).length : Int) = (L : Int) by rw [len_pairs, hL.out]; simp; omega] at C27
      have hLb : L ≤ 200 := by rw [hL.out]; exact hl2
      have HX : Hid (CC w.heap.size wr b 1024 m v os M ∧ GI ga gb (zs.take 200) ks os M ∧ Below w.heap.size w wr) := ⟨hC, hG, hbel⟩
      clear hC hG hbel hl0 hl2 HS
      go_wp2_with fail
      refine C26.mono ?_
      rintro e y1 ⟨rfl, rfl⟩
      go_wp2_with fail
      refine C26.mono ?_
      rintro e y2 ⟨rfl, rfl⟩
      clear C26
      go_wp2_with fail
      refine C27.mono ?_
      rintro e y3 ⟨rfl, v3, hC3, hT3⟩
      clear C27
      have E2 : Hid (S2 w y3 b m ga gb (zs.take 200) ks) := by
        obtain ⟨hC, hG, hbel⟩ := HX.out
        refine ⟨v3, _, hC3, fun k hk => (hG.mem k).2 hk, fun k hk => ?_, hbel.trans (hT3.below hC hbel.size)⟩
        have hne : ¬ gb = ga := fun e => hab e.symm
        simp only [Ml, hne, decide_false, Bool.false_eq_true, if_false]
        exact hG.mb k hk
      clear hC3 hT3 HX
      go_wp2_with fail
      go_loopw [12] (fun q wr => ∃ j : Nat, j ≤ 200 ∧ q = .int .i64 j ∧ Hid (S2 w wr b m ga gb (zs.take 200) ks)) (fun q _ => 200 - (intOf q).toNat)
      case atStart => exact ⟨0, by omega, rfl, E2⟩
      case round =>
        obtain ⟨j, hj, rfl, HS⟩ := hrel
        clear E2
        by_cases hjn : j < 200
        · have hjn' : (j : Int) < (200 : Int) := by omega
          have hjn2 : (j : Int) < (n : Int) := by omega
          obtain ⟨kb, off, rfl, hkb, hcs⟩ : ∃ kb off, a = some ⟨kb, off, none⟩ ∧ kb < w.heap.size ∧ _ := by
            rcases HK.out.2.2 with h' | h'
            · omega
            · exact h'
          have d0 := hcs j (by omega)
          obtain ⟨v, M, hC, hin, hM, hbel⟩ := HS.out
          have hzl : j < zs.length := by have := HK.out.1; omega
          have hkW : (Lit.int .u64 (zs.getD j 0)).wf = true := HK.out.2.1 _ (by simp [hzl])
          have hkm : zs.getD j 0 ∈ ks := hin _ (by
            have h1 : j < (zs.take 200).length := by simp; omega
            have h2 : (zs.take 200)[j] = zs.getD j 0 := by simp [hzl]
            rw [← h2]
            exact List.getElem_mem h1)
          obtain ⟨k, hk⟩ : ∃ k, Hid (k = zs.getD j 0) := ⟨_, rfl⟩
          rw [← hk.out] at d0 hkW hkm
          have k0 : wr.cell? ⟨kb, off + j, none⟩ = some (.int .u64 k) := ((bel_cell hbel hkb).1 _).trans d0
          have hkbr : kb < wr.heap.size := by have := hbel.size; omega
          have hMa : M ⟨ga, k⟩ = none := by
            cases e : M ⟨ga, k⟩ with
            | none => rfl
            | some x =>
              have := (hC.inn ⟨ga, k⟩ ⟨hga, hkW⟩).1 (by simp [e])
              simp at this
              exact absurd this.2.symm hab
          have CA := get_any w.heap.size b 1024 m v _ M ⟨ga, k⟩ ⟨hga, hkW⟩ wr hC
          rw [hMa] at CA
          have CB : ∀ y, Below wr.heap.size wr y → Calls Try.prog 28 #[.pointer (some ⟨b, 0, none⟩), .int .i64 gb, .int .u64 k] y fun e w' => e = .returned (.tuple #[vb k, .bool true]) ∧ Below y.heap.size y w' := fun y hy => by
            have := get_any w.heap.size b 1024 m v _ M ⟨gb, k⟩ ⟨hgb, hkW⟩ y (hC.below hy)
            rw [hM k hkm] at this
            exact this
          have HX : Hid (∀ y, Below wr.heap.size wr y → S2 w y b m ga gb (zs.take 200) ks) := fun y hy => ⟨v, M, hC.below hy, hin, hM, hbel.trans (hy.mono hbel.size)⟩
          clear hC hin hM hbel hMa d0 hcs hkm HS
          unfold vb at CB
          simp only [Option.getD_none, Option.isSome_none, zv, kv] at CA
          go_wp2_with fail
          refine CA.mono ?_
          rintro e y1 ⟨rfl, hb1⟩
          have k1 : y1.cell? ⟨kb, off + j, none⟩ = some (.int .u64 k) := ((bel_cell hb1 hkbr).1 _).trans k0
          have hl1 : kb < y1.heap.size := Nat.lt_of_lt_of_le hkbr hb1.size
          have C2 := CB _ hb1
          clear CA CB
          go_wp2_with fail
          refine C2.mono ?_
          rintro e y2 ⟨rfl, hb2⟩
          have k2 : y2.cell? ⟨kb, off + j, none⟩ = some (.int .u64 k) := ((bel_cell hb2 hl1).1 _).trans k1
          have hl2 : kb < y2.heap.size := Nat.lt_of_lt_of_le hl1 hb2.size
          have HN : Hid (S2 w y2 b m ga gb (zs.take 200) ks) := HX.out _ (hb1.trans (hb2.mono hb1.size))
          clear C2 hb1 hb2 HX
          go_wp2_with fail
          go_roundw
          case rel => exact ⟨j + 1, by omega, by go_num, HN⟩
          case measure => simp [intOf]; omega
        · obtain rfl : 200 = j := by omega
          obtain ⟨v, M, hC, hin, hM, hbel⟩ := HS.out
          have C27 := dropGroup_any w.heap.size b 1024 m v _ M ga wr hC
          rw [filter_b hab] at C27
          rw [show ((ks.map (fun k => (⟨gb, k⟩ : Pl))).length : Int) - ((ks.map (fun k => (⟨gb, k⟩ : Pl))).length : Int) = 0 by omega] at C27
          have hlk : ((ks.map (fun k => (⟨gb, k⟩ : Pl))).length : Int) = (L : Int) := by rw [hL.out]; simp
          have HX : Hid (CC w.heap.size wr b 1024 m v (ks.map (fun k => ⟨gb, k⟩)) M ∧ Below w.heap.size w wr) := ⟨hC, hbel⟩
          clear hC hin hM hbel HS
          go_wp2_with fail
          refine C27.mono ?_
          rintro e y1 ⟨rfl, v1, hC1, hT1⟩
          have C26 := len_any w.heap.size b 1024 m v1 _ _ y1 hC1
          rw [hlk] at C26
          have HF : Hid (Below w.heap.size w y1) := HX.out.2.trans (hT1.below HX.out.1 HX.out.2.size)
          clear C27 hC1 hT1 HX
          go_wp2_with fail
          refine C26.mono ?_
          rintro e y2 ⟨rfl, rfl⟩
          clear C26
          go_wp2_with fail
          go_ret
          exact ⟨rfl, HF.out⟩

end Go.Proofs.Ytgafdbamlmaifaa.G
