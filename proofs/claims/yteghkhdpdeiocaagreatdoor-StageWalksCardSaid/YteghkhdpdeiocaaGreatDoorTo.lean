/-
  What Map does: its contract.
-/
import Derived.Test.YteghkhdpdeiocaaGreatDoorTm
import Derived.Test.YteghkhdpdeiocaaGreatDoorGX
namespace Go.Proofs.YteghkhdpdeiocaaGreatDoor
open Go.RowKit Go.Maps
set_option linter.unusedVariables false
set_option maxRecDepth 100000

section
variable {B : Nat → Prop} {w w' : World} {b g D T L gu n : Nat} {O : Nat → Prop} {z : Zs}
theorem mapQ_ch (gu n : Nat) (z : Zs) (p f : Int) (a b c : Bool) (h : chE z p ≠ 0) : mapQ gu n z p f a b c = chE z p := by
  unfold mapQ chE at *
  by_cases h1 : z.x.rt < 0
  · rw [if_pos h1, if_pos h1]
  · rw [if_neg h1] at h ⊢
    rw [if_neg h1]
    by_cases h2 : 0 ≤ p ∧ p < 1024
    · rw [if_neg (not_not_intro h2)] at h
      exact absurd rfl h
    · rw [if_pos (fun e => h2 ⟨e.1, e.2.1⟩), if_pos h2]
theorem map_no {gu n : Nat} {z : Zs} {p f : Int} {a b c : Bool} {e : Int} (h : mapQ gu n z p f a b c = e) (he : e ≠ 0) : mapE gu n z p f a b c = e ∧ mapZ gu n z p f a b c = z := by
  unfold mapE mapZ
  rw [h, if_pos he, if_pos he]
  exact ⟨rfl, rfl⟩
set_option maxHeartbeats 3200000 in
theorem map_sx (h : SX B w b g D T L gu z) (hi : Iv n O z) (hg : 1 ≤ gu ∧ gu ≤ 16) (p f : Int) (a b' c : Bool) : Calls Tryz.prog 20 #[.pointer (some ⟨T, 0, none⟩), .int .i64 p, .int .i64 f, .agg #[.bool a, .bool b', .bool c]] w fun e w1 => e = .returned (.int .i64 (mapE gu n z p f a b' c)) ∧ SX B w1 b g D T L gu (mapZ gu n z p f a b' c) ∧ Tn (Pt g T L) B w w1 := by
  have HB : Hid (Below w.heap.size w (w.alloc (.cells #[.bool a, .bool b', .bool c] 29))) := (Below.refl _ _).alloc (Nat.le_refl _) _
  have HS : Hid (SX B (w.alloc (.cells #[.bool a, .bool b', .bool c] 29)) b g D T L gu z ∧ B3 (w.alloc (.cells #[.bool a, .bool b', .bool c] 29)) w.heap.size a b' c) := ⟨h.below HB.out, heap_alloc_at _ _⟩
  have C := check_sx HS.out.1 hi.rt.1 p
  by_cases h0 : chE z p = 0
  · rw [h0] at C
    obtain ⟨P, rfl, hP, hrt⟩ := ch_ok h0
    have M0 := mayBe_any a b' c (w.alloc (.cells #[.bool a, .bool b', .bool c] 29))
    cases hm : mayR a b' c
    · obtain ⟨e1, e2⟩ := map_no (gu := gu) (n := n) (z := z) (p := P) (f := f) (a := a) (b := b') (c := c) (e := 2) (by unfold mapQ; rw [if_neg hrt, if_pos (by simp [hm])]) (by decide)
      rw [e1, e2]
      rw [hm] at M0
      clear e1 e2 h hi h0 hm
      go_enter Tryz.func20, Tryz.ntmps20
      go_wp2_with fail
      refine C.mono ?_
      rintro e w1 ⟨rfl, rfl⟩
      go_wp2_with fail
      refine M0.mono ?_
      rintro e w1 ⟨rfl, hb1⟩
      have H1 : Hid (SX B w1 b g D T L gu z ∧ Below w.heap.size w w1 ∧ B3 w1 w.heap.size a b' c) := ⟨HS.out.1.below hb1, HB.out.trans (hb1.mono (by simp)), HS.out.2.below hb1⟩
      have c0 := H1.out.1.tb.c0
      have dz := H1.out.1.tb.lt
      clear hb1 M0 C
      go_wp2_with fail
      go_ret
      exact ⟨rfl, H1.out.1, Tn.of_below H1.out.2.1⟩
    rw [hm] at M0
    by_cases hf0 : f < 0
    · obtain ⟨e1, e2⟩ := map_no (gu := gu) (n := n) (z := z) (p := P) (f := f) (a := a) (b := b') (c := c) (e := 2) (by unfold mapQ; rw [if_neg hrt, if_pos (by omega)]) (by decide)
      rw [e1, e2]
      clear e1 e2 h hi h0 hm
      go_enter Tryz.func20, Tryz.ntmps20
      go_wp2_with fail
      refine C.mono ?_
      rintro e w1 ⟨rfl, rfl⟩
      go_wp2_with fail
      refine M0.mono ?_
      rintro e w1 ⟨rfl, hb1⟩
      have H1 : Hid (SX B w1 b g D T L gu z ∧ Below w.heap.size w w1 ∧ B3 w1 w.heap.size a b' c) := ⟨HS.out.1.below hb1, HB.out.trans (hb1.mono (by simp)), HS.out.2.below hb1⟩
      have c0 := H1.out.1.tb.c0
      have dz := H1.out.1.tb.lt
      clear hb1 M0 C
      go_wp2_with fail
      go_ret
      exact ⟨rfl, H1.out.1, Tn.of_below H1.out.2.1⟩
    obtain ⟨F, rfl⟩ := Int.eq_ofNat_of_zero_le (show 0 ≤ f by omega)
    have hlen := hi.len
    have hn2 := hi.n2
    have NF : ∀ W, SX B W b g D T L gu z → Calls Tryz.prog 52 #[.pointer (some ⟨b, 0, none⟩)] W fun e w' => e = .returned (.int .i64 (n : Int)) ∧ w' = W := fun W hW => by
      have := frames_any _ _ _ _ W hW.mm.len hW.mm.hv
      rwa [show (z.m.length : Int) / 256 = n by omega] at this
    by_cases hfn : F < n
    case neg =>
      obtain ⟨e1, e2⟩ := map_no (gu := gu) (n := n) (z := z) (p := P) (f := F) (a := a) (b := b') (c := c) (e := 2) (by unfold mapQ; rw [if_neg hrt, if_pos (by omega)]) (by decide)
      rw [e1, e2]
      have hfn' : ¬ (F : Int) < n := by omega
      clear e1 e2 h hi h0 hm hlen hn2 hfn
      go_enter Tryz.func20, Tryz.ntmps20
      go_wp2_with fail
      refine C.mono ?_
      rintro e w1 ⟨rfl, rfl⟩
      go_wp2_with fail
      refine M0.mono ?_
      rintro e w1 ⟨rfl, hb1⟩
      have H1 : Hid (SX B w1 b g D T L gu z ∧ Below w.heap.size w w1 ∧ B3 w1 w.heap.size a b' c) := ⟨HS.out.1.below hb1, HB.out.trans (hb1.mono (by simp)), HS.out.2.below hb1⟩
      have c0 := H1.out.1.tb.c0
      have dz := H1.out.1.tb.lt
      clear hb1 M0 C
      go_wp2_with fail
      refine (NF _ H1.out.1).mono ?_
      rintro e w2 ⟨rfl, rfl⟩
      go_wp2_with fail
      go_ret
      exact ⟨rfl, H1.out.1, Tn.of_below H1.out.2.1⟩
    have hfn' : (F : Int) < n := by omega
    have FD := fun (W : World) (hS : SX B W b g D T L gu z) => find_sx hS hi hP
    cases hx : z.x.pg P with
    | some y =>
      obtain ⟨e1, e2⟩ := map_no (gu := gu) (n := n) (z := z) (p := P) (f := F) (a := a) (b := b') (c := c) (e := 13) (by unfold mapQ; rw [if_neg hrt, if_neg (not_not_intro ⟨by omega, by omega, hm, by omega, hfn'⟩), Int.toNat_natCast, hx]; rfl) (by decide)
      rw [e1, e2]
      simp only [hx] at FD
      unfold fnV at FD
      simp only at FD
      clear e1 e2 h hi h0 hm hlen hn2 hfn hx
      go_enter Tryz.func20, Tryz.ntmps20
      go_wp2_with fail
      refine C.mono ?_
      rintro e w1 ⟨rfl, rfl⟩
      go_wp2_with fail
      refine M0.mono ?_
      rintro e w1 ⟨rfl, hb1⟩
      have H1 : Hid (SX B w1 b g D T L gu z ∧ Below w.heap.size w w1 ∧ B3 w1 w.heap.size a b' c) := ⟨HS.out.1.below hb1, HB.out.trans (hb1.mono (by simp)), HS.out.2.below hb1⟩
      have c0 := H1.out.1.tb.c0
      have dz := H1.out.1.tb.lt
      clear hb1 M0 C
      go_wp2_with fail
      refine (NF _ H1.out.1).mono ?_
      rintro e w2 ⟨rfl, rfl⟩
      go_wp2_with fail
      refine (FD _ H1.out.1).mono ?_
      rintro e w2 ⟨rfl, hb2⟩
      have H2 : Hid (SX B (w2.alloc (.cells #[.bool true, .bool y.r, .bool y.w, .bool y.x, .bool true, .bool false, .bool false, .int .i64 y.f] 93)) b g D T L gu z ∧ Below w.heap.size w (w2.alloc (.cells #[.bool true, .bool y.r, .bool y.w, .bool y.x, .bool true, .bool false, .bool false, .int .i64 y.f] 93)) ∧ B3 (w2.alloc (.cells #[.bool true, .bool y.r, .bool y.w, .bool y.x, .bool true, .bool false, .bool false, .int .i64 y.f] 93)) w.heap.size a b' c) := ⟨(H1.out.1.below hb2).below ((Below.refl _ _).alloc (Nat.le_refl _) _), (H1.out.2.1.trans (hb2.mono H1.out.2.1.size)).alloc (by have := H1.out.2.1.size; have := hb2.size; omega) _, (H1.out.2.2.below hb2).below ((Below.refl _ _).alloc (Nat.le_refl _) _)⟩
      clear hb2 FD c0 dz
      have c1 := H2.out.1.tb.c1
      have dz := H2.out.1.tb.lt
      go_wp2_with fail
      go_ret
      exact ⟨rfl, H2.out.1, Tn.of_below H2.out.2.1⟩
    | none =>
      simp only [hx] at FD
      unfold fnV at FD
      simp only at FD
      have OW := fun (W : World) (hS : SX B W b g D T L gu z) => owner_fx hS.fx (F : Int)
      by_cases hw : F < z.S.n ∧ z.S.cl F = gu
      case neg =>
        obtain ⟨e1, e2⟩ := map_no (gu := gu) (n := n) (z := z) (p := P) (f := F) (a := a) (b := b') (c := c) (e := 15) (by unfold mapQ; rw [if_neg hrt, if_neg (not_not_intro ⟨by omega, by omega, hm, by omega, hfn'⟩), Int.toNat_natCast, hx, if_neg (by simp), if_pos (by simpa using hw)]) (by decide)
        rw [e1, e2]
        have ho : ¬ owO z.S F = gu := by
          unfold owO owK
          rw [Int.toNat_natCast]
          by_cases h1 : F < z.S.n
          · by_cases h2 : z.S.cl F = 17
            · simp [h2]; omega
            · rw [decide_eq_true (show (0 : Int) ≤ F ∧ (F : Int) < z.S.n by omega), decide_eq_true h2]
              simp
              omega
          · rw [decide_eq_false (by omega)]
            simp
            omega
        clear e1 e2 h hi h0 hm hlen hn2 hfn hx hw
        generalize owO z.S F = o1 at *
        generalize owT z.S F = o2 at *
        generalize owK z.S F = o3 at *
        go_enter Tryz.func20, Tryz.ntmps20
        go_wp2_with fail
        refine C.mono ?_
        rintro e w1 ⟨rfl, rfl⟩
        go_wp2_with fail
        refine M0.mono ?_
        rintro e w1 ⟨rfl, hb1⟩
        have H1 : Hid (SX B w1 b g D T L gu z ∧ Below w.heap.size w w1 ∧ B3 w1 w.heap.size a b' c) := ⟨HS.out.1.below hb1, HB.out.trans (hb1.mono (by simp)), HS.out.2.below hb1⟩
        have c0 := H1.out.1.tb.c0
        have dz := H1.out.1.tb.lt
        clear hb1 M0 C
        go_wp2_with fail
        refine (NF _ H1.out.1).mono ?_
        rintro e w2 ⟨rfl, rfl⟩
        go_wp2_with fail
        refine (FD _ H1.out.1).mono ?_
        rintro e w2 ⟨rfl, hb2⟩
        have H2 : Hid (SX B (w2.alloc (.cells #[.bool false, .bool false, .bool false, .bool false, .bool false, .bool false, .bool false, .int .i64 0] 93)) b g D T L gu z ∧ Below w.heap.size w (w2.alloc (.cells #[.bool false, .bool false, .bool false, .bool false, .bool false, .bool false, .bool false, .int .i64 0] 93)) ∧ B3 (w2.alloc (.cells #[.bool false, .bool false, .bool false, .bool false, .bool false, .bool false, .bool false, .int .i64 0] 93)) w.heap.size a b' c) := ⟨(H1.out.1.below hb2).below ((Below.refl _ _).alloc (Nat.le_refl _) _), (H1.out.2.1.trans (hb2.mono H1.out.2.1.size)).alloc (by have := H1.out.2.1.size; have := hb2.size; omega) _, (H1.out.2.2.below hb2).below ((Below.refl _ _).alloc (Nat.le_refl _) _)⟩
        clear hb2 FD c0 dz
        have c1 := H2.out.1.tb.c1
        have dz := H2.out.1.tb.lt
        go_wp2_with fail
        refine (OW _ H2.out.1).mono ?_
        rintro e w3 ⟨rfl, hb3⟩
        have H3 : Hid (SX B w3 b g D T L gu z ∧ Below w.heap.size w w3 ∧ B3 w3 w.heap.size a b' c) := ⟨H2.out.1.below hb3, H2.out.2.1.trans (hb3.mono H2.out.2.1.size), H2.out.2.2.below hb3⟩
        clear hb3 OW c1 dz H2
        have c2 := H3.out.1.tb.c2
        have dz := H3.out.1.tb.lt
        go_wp2_with fail
        go_ret
        exact ⟨rfl, H3.out.1, Tn.of_below H3.out.2.1⟩
      obtain ⟨hFn, hcl⟩ := hw
      have ho : owO z.S F = gu := by
        unfold owO owK
        rw [Int.toNat_natCast, decide_eq_true (show (0 : Int) ≤ F ∧ (F : Int) < z.S.n by omega), decide_eq_true (show z.S.cl F ≠ 17 by omega), hcl]
        rfl
      rw [ho] at OW
      have eQ : mapQ gu n z P F a b' c = hoE z.S F gu := by unfold mapQ; rw [if_neg hrt, if_neg (not_not_intro ⟨by omega, by omega, hm, by omega, hfn'⟩), Int.toNat_natCast, hx, if_neg (by simp), if_neg (not_not_intro ⟨by omega, by simpa using hcl⟩)]
      have HO := fun (W : World) (hS : SX B W b g D T L gu z) => hold_fx hS.fx (F : Int) gu
      generalize owT z.S F = o2 at *
      generalize owK z.S F = o3 at *
      by_cases hh : hoE z.S F gu = 0
      case neg =>
        obtain ⟨e1, e2⟩ := map_no eQ hh
        rw [e1, e2]
        have hn := ho_no hh
        have HZ : Hid (∀ W, SX B W b g D T L gu ⟨z.m, hoS z.S F gu, z.x⟩ → SX B W b g D T L gu z) := fun W hW => by rw [hn] at hW; exact hW
        clear e1 e2 h hi h0 hm hlen hn2 hfn hx ho hcl hFn eQ hn
        generalize hoE z.S F gu = er at *
        go_enter Tryz.func20, Tryz.ntmps20
        go_wp2_with fail
        refine C.mono ?_
        rintro e w1 ⟨rfl, rfl⟩
        go_wp2_with fail
        refine M0.mono ?_
        rintro e w1 ⟨rfl, hb1⟩
        have H1 : Hid (SX B w1 b g D T L gu z ∧ Below w.heap.size w w1 ∧ B3 w1 w.heap.size a b' c) := ⟨HS.out.1.below hb1, HB.out.trans (hb1.mono (by simp)), HS.out.2.below hb1⟩
        have c0 := H1.out.1.tb.c0
        have dz := H1.out.1.tb.lt
        clear hb1 M0 C
        go_wp2_with fail
        refine (NF _ H1.out.1).mono ?_
        rintro e w2 ⟨rfl, rfl⟩
        go_wp2_with fail
        refine (FD _ H1.out.1).mono ?_
        rintro e w2 ⟨rfl, hb2⟩
        have H2 : Hid (SX B (w2.alloc (.cells #[.bool false, .bool false, .bool false, .bool false, .bool false, .bool false, .bool false, .int .i64 0] 93)) b g D T L gu z ∧ Below w.heap.size w (w2.alloc (.cells #[.bool false, .bool false, .bool false, .bool false, .bool false, .bool false, .bool false, .int .i64 0] 93)) ∧ B3 (w2.alloc (.cells #[.bool false, .bool false, .bool false, .bool false, .bool false, .bool false, .bool false, .int .i64 0] 93)) w.heap.size a b' c) := ⟨(H1.out.1.below hb2).below ((Below.refl _ _).alloc (Nat.le_refl _) _), (H1.out.2.1.trans (hb2.mono H1.out.2.1.size)).alloc (by have := H1.out.2.1.size; have := hb2.size; omega) _, (H1.out.2.2.below hb2).below ((Below.refl _ _).alloc (Nat.le_refl _) _)⟩
        clear hb2 FD c0 dz
        have c1 := H2.out.1.tb.c1
        have dz := H2.out.1.tb.lt
        go_wp2_with fail
        refine (OW _ H2.out.1).mono ?_
        rintro e w3 ⟨rfl, hb3⟩
        have H3 : Hid (SX B w3 b g D T L gu z ∧ Below w.heap.size w w3 ∧ B3 w3 w.heap.size a b' c) := ⟨H2.out.1.below hb3, H2.out.2.1.trans (hb3.mono H2.out.2.1.size), H2.out.2.2.below hb3⟩
        clear hb3 OW c1 dz H2
        have c2 := H3.out.1.tb.c2
        have dz := H3.out.1.tb.lt
        go_wp2_with fail
        have hc1 := And.intro H3.out.1.drew.tb.c1 H3.out.1.drew.tb.c2
        have G1 := HO _ H3.out.1.drew
        go_region_held2 (fun W => W.cell? ⟨T, 1, none⟩ = some (.pointer (some ⟨D, 0, none⟩)) ∧ W.cell? ⟨T, 2, none⟩ = some (.int .i64 gu))
          (first | exact hc1 | exact hc2)
          (first
            | (go_at_call 54; refine G1.mono ?_; rintro q y4 ⟨rfl, hf4, ht4⟩; (have H4 : Hid (SX B y4 b g D T L gu ⟨z.m, hoS z.S F gu, z.x⟩ ∧ Tn (Pt g T L) B w y4 ∧ B3 y4 w.heap.size a b' c) := ⟨H3.out.1.drew.frames hf4 ht4, (Tn.of_below H3.out.2.1).drew.trans (Tn.of_tu ht4), ht4.keep _ _ H3.out.2.2 (.inr (not_of (by decide)))⟩); (have hc2 := And.intro H4.out.1.tb.c1 H4.out.1.tb.c2)))
        clear hc1 hc2 G1 HO
        go_wp2_with fail
        go_ret
        exact ⟨rfl, HZ.out _ H4.out.1, H4.out.2.1⟩
      obtain ⟨ih, -⟩ := hi.hold (F : Int) hg.1
      have hw' : IntKind.i64.wrap ((P : Int) / 32) = ((P / 32 : Nat) : Int) := by rw [quo_w P hP]; omega
      have hk : P / 32 < 32 := by omega
      have hk' : ((P / 32 : Nat) : Int) < 32 := by omega
      have RS := fun (W : World) (hS : SX B W b g D T L gu ⟨z.m, hoS z.S F gu, z.x⟩) => raise_sx hS ih (by show 0 ≤ z.x.rt; omega) hk
      have eE : mapE gu n z P F a b' c = raiE n ⟨z.m, hoS z.S F gu, z.x⟩ (P / 32) := by unfold mapE; rw [eQ, hh, if_neg (by simp), Int.toNat_natCast]
      have eZ : mapZ gu n z P F a b' c = if raiE n ⟨z.m, hoS z.S F gu, z.x⟩ (P / 32) = 0 then mapD (raiZ n ⟨z.m, hoS z.S F gu, z.x⟩ (P / 32)) P ⟨F, a, b', c⟩ else ⟨z.m, frS (raiZ n ⟨z.m, hoS z.S F gu, z.x⟩ (P / 32)).S F gu, z.x⟩ := by unfold mapZ; rw [eQ, hh, if_neg (by simp), Int.toNat_natCast, Int.toNat_natCast]
      rw [eE, eZ]
      rw [hh] at HO
      by_cases hz : raiE n ⟨z.m, hoS z.S F gu, z.x⟩ (P / 32) = 0
      · rw [if_pos hz]
        rw [hz] at RS ⊢
        have irt : 0 ≤ z.x.rt := by omega
        obtain ⟨ir, -⟩ := ih.raise irt hk
        have hlo := rai_lo hz
        obtain ⟨Lf, hLf⟩ := Int.eq_ofNat_of_zero_le hlo
        have l2 := (ir.lo (P / 32) hk).2
        have rlen := ir.len
        have hpg : (raiZ n ⟨z.m, hoS z.S F gu, z.x⟩ (P / 32)).x.pg = z.x.pg := by
          unfold raiZ
          split
          · rfl
          · split <;> rfl
        have PG := fun W => pageOf_any (F : Int) a b' c W
        have ST := fun (W : World) (hS : SX B W b g D T L gu (raiZ n ⟨z.m, hoS z.S F gu, z.x⟩ (P / 32))) => set_sx hS hP hLf (by omega) true a b' c true false false (F : Int)
        have ep : E.packN true a b' c true false false (F : Int) = (Pg.mk F a b' c).num := pack_page ⟨F, a, b', c⟩ (by show F < 65536; omega) hm
        simp only [ep] at ST
        have ca := cnt_at (raiZ n ⟨z.m, hoS z.S F gu, z.x⟩ (P / 32)).x.pg P (some ⟨F, a, b', c⟩)
        rw [hpg, hx] at ca
        simp only [Option.isSome_some, if_true, Option.isSome_none, Bool.false_eq_true, if_false] at ca
        have cl := cnt_le z.x.pg (P / 32)
        have HD : Hid (∀ W, SX B W b g D T L gu ⟨set8 (raiZ n ⟨z.m, hoS z.S F gu, z.x⟩ (P / 32)).m Lf (P % 32) (Pg.mk F a b' c).num, (raiZ n ⟨z.m, hoS z.S F gu, z.x⟩ (P / 32)).S, { (raiZ n ⟨z.m, hoS z.S F gu, z.x⟩ (P / 32)).x with pg := upd (raiZ n ⟨z.m, hoS z.S F gu, z.x⟩ (P / 32)).x.pg P (some ⟨F, a, b', c⟩) }⟩ → SX B W b g D T L gu (mapD (raiZ n ⟨z.m, hoS z.S F gu, z.x⟩ (P / 32)) P ⟨F, a, b', c⟩)) := fun W hW => by
          unfold mapD
          rw [hLf, Int.toNat_natCast]
          exact hW
        have CT := fun (W : World) (hS : SX B W b g D T L gu ⟨set8 (raiZ n ⟨z.m, hoS z.S F gu, z.x⟩ (P / 32)).m Lf (P % 32) (Pg.mk F a b' c).num, (raiZ n ⟨z.m, hoS z.S F gu, z.x⟩ (P / 32)).S, (raiZ n ⟨z.m, hoS z.S F gu, z.x⟩ (P / 32)).x⟩) => hS.count hP (some ⟨F, a, b', c⟩) (cnt z.x.pg (P / 32) + 1) (by show _ = cnt (upd (raiZ n ⟨z.m, hoS z.S F gu, z.x⟩ (P / 32)).x.pg P (some ⟨F, a, b', c⟩)) (P / 32); rw [hpg]; omega)
        have hcc0 : cnt (raiZ n ⟨z.m, hoS z.S F gu, z.x⟩ (P / 32)).x.pg (P / 32) = cnt z.x.pg (P / 32) := by rw [hpg]
        clear h hi h0 hm hlen hn2 hfn hx ho hcl hFn eQ eE eZ hh ih hz irt ir hlo hLf l2 rlen hpg ep ca
        unfold E.ent at *
        generalize raiZ n ⟨z.m, hoS z.S F gu, z.x⟩ (P / 32) = zr at *
        generalize hkk : P / 32 = k at *
        have hd5 := hcc0
        generalize hcc : cnt z.x.pg k = cc at *
        have hci : IntKind.i64.wrap ((cc : Int) + 1) = ((cc + 1 : Nat) : Int) := by rw [IntKind.wrap_i64]; omega
        go_enter Tryz.func20, Tryz.ntmps20
        go_wp2_with fail
        refine C.mono ?_
        rintro e w1 ⟨rfl, rfl⟩
        go_wp2_with fail
        refine M0.mono ?_
        rintro e w1 ⟨rfl, hb1⟩
        have H1 : Hid (SX B w1 b g D T L gu z ∧ Below w.heap.size w w1 ∧ B3 w1 w.heap.size a b' c) := ⟨HS.out.1.below hb1, HB.out.trans (hb1.mono (by simp)), HS.out.2.below hb1⟩
        have c0 := H1.out.1.tb.c0
        have dz := H1.out.1.tb.lt
        clear hb1 M0 C
        go_wp2_with fail
        refine (NF _ H1.out.1).mono ?_
        rintro e w2 ⟨rfl, rfl⟩
        go_wp2_with fail
        refine (FD _ H1.out.1).mono ?_
        rintro e w2 ⟨rfl, hb2⟩
        have H2 : Hid (SX B (w2.alloc (.cells #[.bool false, .bool false, .bool false, .bool false, .bool false, .bool false, .bool false, .int .i64 0] 93)) b g D T L gu z ∧ Below w.heap.size w (w2.alloc (.cells #[.bool false, .bool false, .bool false, .bool false, .bool false, .bool false, .bool false, .int .i64 0] 93)) ∧ B3 (w2.alloc (.cells #[.bool false, .bool false, .bool false, .bool false, .bool false, .bool false, .bool false, .int .i64 0] 93)) w.heap.size a b' c) := ⟨(H1.out.1.below hb2).below ((Below.refl _ _).alloc (Nat.le_refl _) _), (H1.out.2.1.trans (hb2.mono H1.out.2.1.size)).alloc (by have := H1.out.2.1.size; have := hb2.size; omega) _, (H1.out.2.2.below hb2).below ((Below.refl _ _).alloc (Nat.le_refl _) _)⟩
        clear hb2 FD c0 dz
        have c1 := H2.out.1.tb.c1
        have dz := H2.out.1.tb.lt
        go_wp2_with fail
        refine (OW _ H2.out.1).mono ?_
        rintro e w3 ⟨rfl, hb3⟩
        have H3 : Hid (SX B w3 b g D T L gu z ∧ Below w.heap.size w w3 ∧ B3 w3 w.heap.size a b' c) := ⟨H2.out.1.below hb3, H2.out.2.1.trans (hb3.mono H2.out.2.1.size), H2.out.2.2.below hb3⟩
        clear hb3 OW c1 dz H2
        have c2 := H3.out.1.tb.c2
        have dz := H3.out.1.tb.lt
        go_wp2_with fail
        have hc1 := And.intro H3.out.1.drew.tb.c1 H3.out.1.drew.tb.c2
        have G1 := HO _ H3.out.1.drew
        go_region_held2 (fun W => W.cell? ⟨T, 1, none⟩ = some (.pointer (some ⟨D, 0, none⟩)) ∧ W.cell? ⟨T, 2, none⟩ = some (.int .i64 gu))
          (first | exact hc1 | exact hc2)
          (first
            | (go_at_call 54; refine G1.mono ?_; rintro q y4 ⟨rfl, hf4, ht4⟩; (have H4 : Hid (SX B y4 b g D T L gu ⟨z.m, hoS z.S F gu, z.x⟩ ∧ Tn (Pt g T L) B w y4 ∧ B3 y4 w.heap.size a b' c) := ⟨H3.out.1.drew.frames hf4 ht4, (Tn.of_below H3.out.2.1).drew.trans (Tn.of_tu ht4), ht4.keep _ _ H3.out.2.2 (.inr (not_of (by decide)))⟩); (have hc2 := And.intro H4.out.1.tb.c1 H4.out.1.tb.c2)))
        clear hc1 hc2 G1 HO
        go_wp2_with fail
        refine (RS _ H4.out.1).mono ?_
        rintro e w5 ⟨rfl, h5, tn5⟩
        have H5 : Hid (SX B w5 b g D T L gu zr ∧ Tn (Pt g T L) B w w5 ∧ B3 w5 w.heap.size a b' c) := ⟨h5, H4.out.2.1.trans tn5, tn5.keep _ _ H4.out.2.2 (H4.out.1.not3 H4.out.2.2) (.inr (not_of (by decide)))⟩
        clear h5 tn5 RS
        have q5 := H5.out.2.2.cs
        go_wp2_with fail
        refine (PG _).mono ?_
        rintro e w6 ⟨rfl, hb6⟩
        have H6 : Hid (SX B w6 b g D T L gu zr ∧ Tn (Pt g T L) B w w6) := ⟨H5.out.1.below hb6, H5.out.2.1.trans (Tn.of_below hb6)⟩
        clear hb6 q5 PG
        go_wp2_with fail
        refine (ST _ H6.out.1).mono ?_
        rintro e w7 ⟨rfl, h7, tn7⟩
        have H7 : Hid (SX B w7 b g D T L gu ⟨set8 zr.m Lf (P % 32) (Pg.mk F a b' c).num, zr.S, zr.x⟩ ∧ Tn (Pt g T L) B w w7) := ⟨h7, H6.out.2.trans tn7.pt⟩
        clear h7 tn7 ST
        have d5 := H7.out.1.tb.cc (k := k) hk
        have f5 := H7.out.1.tb.fz (5 + k)
        have d7 := H7.out.1.tb.lt
        rw [show (Zs.mk (set8 zr.m Lf (P % 32) (Pg.mk F a b' c).num) zr.S zr.x).x.pg = zr.x.pg from rfl, hd5] at d5
        obtain ⟨h8, tn8⟩ := CT w7 H7.out.1
        have H8 : Hid (SX B (w7.setCell ⟨T, 5 + k, none⟩ (.int .i64 ((cc + 1 : Nat) : Int))).drew b g D T L gu (mapD zr P ⟨F, a, b', c⟩) ∧ Tn (Pt g T L) B w (w7.setCell ⟨T, 5 + k, none⟩ (.int .i64 ((cc + 1 : Nat) : Int))).drew) := ⟨(HD.out _ h8).drew, (H7.out.2.trans tn8).drew⟩
        clear h8 tn8 CT
        go_wp2_with fail
        go_region
        go_wp2_with fail
        go_ret
        exact ⟨rfl, H8.out⟩
      · rw [if_neg hz]
        have FR := fun (W : World) (hS : SX B W b g D T L gu (raiZ n ⟨z.m, hoS z.S F gu, z.x⟩ (P / 32))) => free_fx hS.fx (F : Int) gu
        have HD : Hid (∀ W, SX B W b g D T L gu ⟨(raiZ n ⟨z.m, hoS z.S F gu, z.x⟩ (P / 32)).m, frS (raiZ n ⟨z.m, hoS z.S F gu, z.x⟩ (P / 32)).S F gu, (raiZ n ⟨z.m, hoS z.S F gu, z.x⟩ (P / 32)).x⟩ → SX B W b g D T L gu ⟨z.m, frS (raiZ n ⟨z.m, hoS z.S F gu, z.x⟩ (P / 32)).S F gu, z.x⟩) := fun W hW => by
          have hl : ¬ 0 ≤ z.x.lo (P / 32) := fun hl => hz (by unfold raiE; rw [if_pos hl])
          have ez : raiZ n ⟨z.m, hoS z.S F gu, z.x⟩ (P / 32) = ⟨z.m, takeS n (hoS z.S F gu), z.x⟩ := by
            unfold raiZ
            unfold raiE at hz
            rw [if_neg hl] at hz ⊢
            rw [if_neg hz]
          rw [ez] at hW ⊢
          exact hW
        clear h hi h0 hm hlen hn2 hfn hx ho hcl hFn eQ eE eZ hh ih
        generalize hoE z.S F gu = er0 at *
        generalize raiE n ⟨z.m, hoS z.S F gu, z.x⟩ (P / 32) = er at *
        go_enter Tryz.func20, Tryz.ntmps20
        go_wp2_with fail
        refine C.mono ?_
        rintro e w1 ⟨rfl, rfl⟩
        go_wp2_with fail
        refine M0.mono ?_
        rintro e w1 ⟨rfl, hb1⟩
        have H1 : Hid (SX B w1 b g D T L gu z ∧ Below w.heap.size w w1 ∧ B3 w1 w.heap.size a b' c) := ⟨HS.out.1.below hb1, HB.out.trans (hb1.mono (by simp)), HS.out.2.below hb1⟩
        have c0 := H1.out.1.tb.c0
        have dz := H1.out.1.tb.lt
        clear hb1 M0 C
        go_wp2_with fail
        refine (NF _ H1.out.1).mono ?_
        rintro e w2 ⟨rfl, rfl⟩
        go_wp2_with fail
        refine (FD _ H1.out.1).mono ?_
        rintro e w2 ⟨rfl, hb2⟩
        have H2 : Hid (SX B (w2.alloc (.cells #[.bool false, .bool false, .bool false, .bool false, .bool false, .bool false, .bool false, .int .i64 0] 93)) b g D T L gu z ∧ Below w.heap.size w (w2.alloc (.cells #[.bool false, .bool false, .bool false, .bool false, .bool false, .bool false, .bool false, .int .i64 0] 93)) ∧ B3 (w2.alloc (.cells #[.bool false, .bool false, .bool false, .bool false, .bool false, .bool false, .bool false, .int .i64 0] 93)) w.heap.size a b' c) := ⟨(H1.out.1.below hb2).below ((Below.refl _ _).alloc (Nat.le_refl _) _), (H1.out.2.1.trans (hb2.mono H1.out.2.1.size)).alloc (by have := H1.out.2.1.size; have := hb2.size; omega) _, (H1.out.2.2.below hb2).below ((Below.refl _ _).alloc (Nat.le_refl _) _)⟩
        clear hb2 FD c0 dz
        have c1 := H2.out.1.tb.c1
        have dz := H2.out.1.tb.lt
        go_wp2_with fail
        refine (OW _ H2.out.1).mono ?_
        rintro e w3 ⟨rfl, hb3⟩
        have H3 : Hid (SX B w3 b g D T L gu z ∧ Below w.heap.size w w3 ∧ B3 w3 w.heap.size a b' c) := ⟨H2.out.1.below hb3, H2.out.2.1.trans (hb3.mono H2.out.2.1.size), H2.out.2.2.below hb3⟩
        clear hb3 OW c1 dz H2
        have c2 := H3.out.1.tb.c2
        have dz := H3.out.1.tb.lt
        go_wp2_with fail
        have hc1 := And.intro H3.out.1.drew.tb.c1 H3.out.1.drew.tb.c2
        have G1 := HO _ H3.out.1.drew
        go_region_held2 (fun W => W.cell? ⟨T, 1, none⟩ = some (.pointer (some ⟨D, 0, none⟩)) ∧ W.cell? ⟨T, 2, none⟩ = some (.int .i64 gu))
          (first | exact hc1 | exact hc2)
          (first
            | (go_at_call 54; refine G1.mono ?_; rintro q y4 ⟨rfl, hf4, ht4⟩; (have H4 : Hid (SX B y4 b g D T L gu ⟨z.m, hoS z.S F gu, z.x⟩ ∧ Tn (Pt g T L) B w y4 ∧ B3 y4 w.heap.size a b' c) := ⟨H3.out.1.drew.frames hf4 ht4, (Tn.of_below H3.out.2.1).drew.trans (Tn.of_tu ht4), ht4.keep _ _ H3.out.2.2 (.inr (not_of (by decide)))⟩); (have hc2 := And.intro H4.out.1.tb.c1 H4.out.1.tb.c2)))
        clear hc1 hc2 G1 HO
        go_wp2_with fail
        refine (RS _ H4.out.1).mono ?_
        rintro e w5 ⟨rfl, h5, tn5⟩
        have H5 : Hid (SX B w5 b g D T L gu (raiZ n ⟨z.m, hoS z.S F gu, z.x⟩ (P / 32)) ∧ Tn (Pt g T L) B w w5 ∧ B3 w5 w.heap.size a b' c) := ⟨h5, H4.out.2.1.trans tn5, tn5.keep _ _ H4.out.2.2 (H4.out.1.not3 H4.out.2.2) (.inr (not_of (by decide)))⟩
        clear h5 tn5 RS
        go_wp2_with fail
        have hc1 := And.intro H5.out.1.drew.tb.c1 H5.out.1.drew.tb.c2
        have G1 := FR _ H5.out.1.drew
        have dz5 := H5.out.1.tb.lt
        go_region_held2 (fun W => W.cell? ⟨T, 1, none⟩ = some (.pointer (some ⟨D, 0, none⟩)) ∧ W.cell? ⟨T, 2, none⟩ = some (.int .i64 gu))
          (first | exact hc1 | exact hc2)
          (first
            | (go_at_call 56; refine G1.mono ?_; rintro q y6 ⟨rfl, hf6, ht6⟩; (have H6 : Hid (SX B y6 b g D T L gu ⟨(raiZ n ⟨z.m, hoS z.S F gu, z.x⟩ (P / 32)).m, frS (raiZ n ⟨z.m, hoS z.S F gu, z.x⟩ (P / 32)).S F gu, (raiZ n ⟨z.m, hoS z.S F gu, z.x⟩ (P / 32)).x⟩ ∧ Tn (Pt g T L) B w y6) := ⟨H5.out.1.drew.frames hf6 ht6, H5.out.2.1.drew.trans (Tn.of_tu ht6)⟩); (have hc2 := And.intro H6.out.1.tb.c1 H6.out.1.tb.c2)))
        go_wp2_with fail
        go_ret
        exact ⟨rfl, HD.out _ H6.out.1, H6.out.2⟩
  · have e1 := mapQ_ch gu n z p f a b' c h0
    obtain ⟨e1, e2⟩ := map_no e1 h0
    rw [e2, e1]
    clear e1 e2 h hi
    generalize chE z p = y at *
    go_enter Tryz.func20, Tryz.ntmps20
    go_wp2_with fail
    refine C.mono ?_
    rintro e w1 ⟨rfl, rfl⟩
    go_wp2_with fail
    go_ret
    exact ⟨rfl, HS.out.1, Tn.of_below HB.out⟩
end
end Go.Proofs.YteghkhdpdeiocaaGreatDoor
