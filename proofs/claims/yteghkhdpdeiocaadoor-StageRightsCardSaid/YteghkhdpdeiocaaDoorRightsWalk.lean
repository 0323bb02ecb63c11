/-
  A page's rights through any changes: the walk of StageRights.
-/
import Derived.Test.YteghkhdpdeiocaaDoorBi
import Derived.Test.YteghkhdpdeiocaaDoorSw
import Derived.Test.YteghkhdpdeiocaaDoorIns
import Derived.Deep.MidRow
import Derived.Deep.RegionHeld
namespace Go.Proofs.YteghkhdpdeiocaaDoor
open Go.RowKit Go.Maps
set_option linter.unusedVariables false
set_option maxRecDepth 100000

/-- one guest's tables in the law's world -/
structure RS (w0 w : World) (B : Nat → Prop) (Q b g D T L gu n : Nat) (O : Nat → Prop) (z : Zs) : Prop where
  sx : SX B w b g D T L gu z
  iv : Iv n O z
  wb : ∃ q : Array Value, w.heap[Q]? = some (.cells q 67 (0, 0)) ∧ q[0]? = some (.pointer (some ⟨b, 0, none⟩)) ∧ q[1]? = some (.pointer (some ⟨D, 0, none⟩)) ∧ q[2]? = some (.pointer (some ⟨T, 0, none⟩))
  bel : Below w0.heap.size w0 w
  lo : w0.heap.size ≤ g ∧ w0.heap.size ≤ T ∧ w0.heap.size ≤ L ∧ ∀ k, k < w0.heap.size → B k
section
variable {w0 w w' : World} {B : Nat → Prop} {Q b g D T L gu n : Nat} {O : Nat → Prop} {z z' : Zs}
theorem RS.cs (h : RS w0 w B Q b g D T L gu n O z) : w.cell? ⟨Q, 0, none⟩ = some (.pointer (some ⟨b, 0, none⟩)) ∧ w.cell? ⟨Q, 1, none⟩ = some (.pointer (some ⟨D, 0, none⟩)) ∧ w.cell? ⟨Q, 2, none⟩ = some (.pointer (some ⟨T, 0, none⟩)) ∧ Q < w.heap.size := by
  obtain ⟨q, h1, h2, h3, h4⟩ := h.wb
  exact ⟨by rw [cell_at h1, h2], by rw [cell_at h1, h3], by rw [cell_at h1, h4], lt_of_heap h1⟩
theorem RS.tn (h : RS w0 w B Q b g D T L gu n O z) (hx : SX B w' b g D T L gu z') (hi : Iv n O z') (t : Tn (Pt g T L) B w w') : RS w0 w' B Q b g D T L gu n O z' := by
  obtain ⟨q, h1, h2⟩ := h.wb
  obtain ⟨cs, k1, _⟩ := h.sx.tb.blk
  obtain ⟨es, cl, k2⟩ := h.sx.mp.typ
  refine ⟨hx, hi, ⟨q, t.keep _ _ h1 ?_ (.inr (not_of (by decide))), h2⟩, h.bel.trans (t.bel h.bel.size fun k hk => ⟨?_, h.lo.2.2.2 k hk⟩), h.lo⟩
  · rintro (e | e | e)
    · exact ne_typ h1 k1 (by decide) e
    · exact ne_map h1 k2 e
    · exact ne_typ h1 h.sx.mm.row (by decide) e
  · have := h.lo
    rintro (e | e | e) <;> omega
theorem RS.below (h : RS w0 w B Q b g D T L gu n O z) (hb : Below w.heap.size w w') : RS w0 w' B Q b g D T L gu n O z := h.tn (h.sx.below hb) h.iv (Tn.of_below hb)
theorem RS.box (h : RS w0 w B Q b g D T L gu n O z) {K : Nat} {r' w'' x' : Bool} (h3 : B3 w K r' w'' x') (hK : w0.heap.size ≤ K) (o : Nat) (v : Value) (h1 : 1 < w0.heap.size) : RS w0 (w.setCell ⟨K, o, none⟩ v) B Q b g D T L gu n O z := by
  have t := trn_setCell (fun k => k = K) h3 rfl o v
  obtain ⟨q, q1, q2⟩ := h.wb
  obtain ⟨cs, t1, _⟩ := h.sx.tb.blk
  obtain ⟨es, cl, t2⟩ := h.sx.mp.typ
  have p0 := h.sx.sz.pos
  have x := h.sx
  refine ⟨⟨x.sz.stay (t.block 1 (by omega) (by omega)) t.size, BT.stay x.bt (t.block 0 (by omega) (by omega)) t.size, x.mm.stay (t.block _ x.mm.blt (ne_typ x.mm.cell h3 (by decide))) (t.block _ x.mm.glt (ne_typ x.mm.row h3 (by decide))), x.fx.stay fun k o ho hr _ => (t.block k (lt_of_heap ho) (fun e => by
    rw [e, h3] at ho
    cases ho
    exact not_of (by decide) hr)).trans ho, x.tb.keep (t.block _ x.tb.lt (ne_typ t1 h3 (by decide))), x.mp.keep (t.block _ x.mp.lt (fun e => ne_map h3 t2 e.symm)), x.bl, x.b01, hB_of x.hB t.size, x.lo⟩, h.iv, ⟨q, (t.block _ (lt_of_heap q1) (ne_typ q1 h3 (by decide))).trans q1, q2⟩, h.bel.setCell hK _, h.lo⟩
theorem B3.set0 {w : World} {q : Nat} {a b c : Bool} (h : B3 w q a b c) (v : Bool) : B3 (w.setCell ⟨q, 0, none⟩ (.bool v)) q v b c := setCell_eq_setRow w q 0 _ 23 (0, 0) (.bool v) h ▸ setRow_heap w q _ _ 23 _ h
theorem B3.set1 {w : World} {q : Nat} {a b c : Bool} (h : B3 w q a b c) (v : Bool) : B3 (w.setCell ⟨q, 1, none⟩ (.bool v)) q a v c := setCell_eq_setRow w q 1 _ 23 (0, 0) (.bool v) h ▸ setRow_heap w q _ _ 23 _ h
theorem B3.set2 {w : World} {q : Nat} {a b c : Bool} (h : B3 w q a b c) (v : Bool) : B3 (w.setCell ⟨q, 2, none⟩ (.bool v)) q a b v := setCell_eq_setRow w q 2 _ 23 (0, 0) (.bool v) h ▸ setRow_heap w q _ _ 23 _ h
theorem RS.frames (h : RS w0 w B Q b g D T L gu n O z) {S' : Fs} (hf : FX B w' D S') (ht : Tu Of B w w') (hi : Iv n O ⟨z.m, S', z.x⟩) : RS w0 w' B Q b g D T L gu n O ⟨z.m, S', z.x⟩ := h.tn (h.sx.frames hf ht) hi (Tn.of_tu ht)
end
theorem map_done {gu n : Nat} {z : Zs} {P F : Nat} {a b c : Bool} (h0 : mapQ gu n z P F a b c = 0) (h1 : raiE n ⟨z.m, hoS z.S F gu, z.x⟩ (P / 32) = 0) : mapE gu n z P F a b c = 0 ∧ (mapZ gu n z P F a b c).x.pg P = some ⟨F, a, b, c⟩ ∧ (mapZ gu n z P F a b c).x.rt = z.x.rt := by
  have e : mapZ gu n z P F a b c = mapD (raiZ n ⟨z.m, hoS z.S F gu, z.x⟩ (P / 32)) P ⟨F, a, b, c⟩ := by
    unfold mapZ
    rw [if_neg (not_not_intro h0), Int.toNat_natCast, Int.toNat_natCast, if_pos h1]
  refine ⟨by unfold mapE; rw [if_neg (not_not_intro h0), Int.toNat_natCast]; exact h1, ?_, ?_⟩
  · rw [e]
    exact upd_self _ _ _
  · rw [e]
    show (raiZ n ⟨z.m, hoS z.S F gu, z.x⟩ (P / 32)).x.rt = z.x.rt
    unfold raiZ
    split
    · rfl
    · split <;> rfl
theorem nwS_ok (n f : Nat) (h1 : 1 ≤ n) (h2 : n ≤ 65536) (h3 : f ≤ n) : Ok (nwS n f f) ∧ Fst (nwS n f f) := by
  refine ⟨⟨h1, h2, h3, fun i => ?_, fun i hi => ?_, fun k => by simp only [nwS]; omega⟩, fun i hi => ?_⟩
  · simp only [nwS]
    split <;> omega
  · simp only [nwS]
    split <;> omega
  · have hi' : i < f := hi
    simp only [nwS]
    rw [if_pos hi']
/-- the frames as the law has them -/
def sA : Fs := takeS 24 (takeS 24 (nwS 24 1 1))
theorem sA1 : takeE 24 (nwS 24 1 1) = 0 ∧ takeE 24 (takeS 24 (nwS 24 1 1)) = 0 := by decide
theorem sA2 : alE sA 1 = 0 ∧ alR sA 1 = 3 := by decide
theorem sA3 : (alS sA 1).n = 24 ∧ (alS sA 1).cl 3 = 1 ∧ hoE (alS sA 1) 3 1 = 0 ∧ takeE 24 (hoS (alS sA 1) 3 1) = 0 := by decide
theorem and_page (p : Int) : ∃ P : Nat, P < 1024 ∧ bits .and .i64 p 1023 = (P : Int) := by
  obtain ⟨i, h1, h2⟩ := and_low p 1023 1023 (by decide) (by decide)
  exact ⟨i, by omega, h2⟩
theorem prot_val {z : Zs} {P : Nat} {y : Pg} {A B C : Bool} (hrt : z.x.rt = 1) (hP : P < 1024) (hx : z.x.pg P = some y) : (mayR A B C = true → prQ z P A B C = 0 ∧ (prZ z P A B C).x.pg P = some ⟨y.f, A, B, C⟩ ∧ (prZ z P A B C).x.rt = 1) ∧ (mayR A B C = false → prQ z P A B C = 2 ∧ prZ z P A B C = z) := by
  refine ⟨fun hm => ?_, fun hm => ?_⟩
  · have e1 : prQ z P A B C = 0 := by unfold prQ; rw [if_neg (by omega), if_neg (not_not_intro ⟨by omega, by omega, hm⟩), Int.toNat_natCast, hx]; rfl
    have e2 : prZ z P A B C = mapD z P ⟨y.f, A, B, C⟩ := by unfold prZ; rw [if_pos e1, Int.toNat_natCast, hx]; rfl
    rw [e2]
    exact ⟨e1, upd_self _ _ _, hrt⟩
  · have e1 : prQ z P A B C = 2 := by unfold prQ; rw [if_neg (by omega), if_pos (by simp [hm])]
    exact ⟨e1, by unfold prZ; rw [if_neg (by omega)]⟩
theorem B3.tn {B P : Nat → Prop} {w w' : World} {q : Nat} {a b c : Bool} (h : B3 w q a b c) (t : Tn P B w w') (hp : ¬ P q) : B3 w' q a b c := t.keep _ _ h hp (.inr (not_of (by decide)))
def F6 (w : World) (q : Nat) : Prop := w.heap[q]? = some (.cells #[.int .i64 0, .bool false, .bool false, .bool false, .bool false, .int .i64 0] 72 (0, 0))
theorem F6.cs {w : World} {q : Nat} (h : F6 w q) : w.cell? ⟨q, 0, none⟩ = some (.int .i64 0) ∧ w.cell? ⟨q, 1, none⟩ = some (.bool false) ∧ w.cell? ⟨q, 2, none⟩ = some (.bool false) ∧ w.cell? ⟨q, 3, none⟩ = some (.bool false) ∧ w.cell? ⟨q, 4, none⟩ = some (.bool false) ∧ w.cell? ⟨q, 5, none⟩ = some (.int .i64 0) := by
  unfold F6 at h
  refine ⟨?_, ?_, ?_, ?_, ?_, ?_⟩ <;> rw [cell_at h] <;> rfl
theorem F6.fs {w : World} {q : Nat} (h : F6 w q) : w.frozen? ⟨q, 0, none⟩ = false ∧ w.frozen? ⟨q, 1, none⟩ = false ∧ w.frozen? ⟨q, 2, none⟩ = false ∧ w.frozen? ⟨q, 3, none⟩ = false ∧ w.frozen? ⟨q, 4, none⟩ = false ∧ w.frozen? ⟨q, 5, none⟩ = false := ⟨froz_at h _, froz_at h _, froz_at h _, froz_at h _, froz_at h _, froz_at h _⟩
theorem lt_cell' {W : World} {b o : Nat} {v : Value} (h : W.cell? ⟨b, o, none⟩ = some v) : b < W.heap.size := World.block_lt_of_cell? W ⟨b, o, none⟩ h
theorem upon_eq {P : Program} {o : Oper} {a : Act} {K : Act → World → Prop} {Q : Exit → Act → World → Prop} {r r' : Result Next} (h : r = r') (k : Oper.upon P o a K Q r') : Oper.upon P o a K Q r := h ▸ k
theorem cell_al {W : World} {p : Addr} {v : Value} {o : Obj} (h : W.cell? p = some v) : (W.alloc o).cell? p = some v := (World.cell?_alloc_some W p o (by rw [h]; rfl)).trans h
theorem oneV_eq (o : Option E.En) : ∃ (f : Int) (r w x u : Bool) (l : Int), E.oneV o = .tuple #[.agg #[.int .i64 f, .bool r, .bool w, .bool x, .bool u, .int .i64 l], .bool o.isSome] := by
  cases o with
  | none => exact ⟨0, false, false, false, false, 0, rfl⟩
  | some e => exact ⟨e.f, e.r, e.w, e.x, e.u, 2, rfl⟩
theorem unm_val {z : Zs} {P : Nat} {y : Pg} (hrt : z.x.rt = 1) (hP : P < 1024) (hx : z.x.pg P = some y) : unR z P = y.f ∧ unQ z P = 0 ∧ (unZ 1 z P).x.rt = 1 ∧ (unZ 1 z P).x.pg P = none := by
  have e1 : unQ z P = 0 := by unfold unQ; rw [hrt, if_neg (by decide), if_neg (not_not_intro ⟨by omega, by omega⟩), Int.toNat_natCast, hx]; rfl
  refine ⟨by unfold unR; rw [if_pos e1, Int.toNat_natCast, hx]; rfl, e1, ?_, ?_⟩
  · unfold unZ unD
    rw [if_pos e1]
    split <;> exact hrt
  · unfold unZ unD
    rw [if_pos e1, Int.toNat_natCast]
    split <;> exact upd_self _ _ _
namespace stageRights
set_option maxHeartbeats 3200000 in
theorem walk (p : Int) (a : Option Addr) (n c : Nat) (zs : List Int) (w : World) (hL : SZ w ∧ E.BT w) (hN : NumsIn .i64 w a n zs) (hn : n ≤ maxLen) :
    Calls Tryd.prog 5 #[.int .i64 p, .slice a n c] w fun e w' => e = .returned (.bool true) ∧ Below w.heap.size w w' := by
  obtain ⟨P, hP, eP⟩ := and_page p
  obtain ⟨tt, htt⟩ : ∃ tt : Int, ((256 * P : Nat) : Int) = tt := ⟨_, rfl⟩
  have hmul : IntKind.i64.wrap (256 * (P : Int)) = tt := by rw [← htt, IntKind.wrap_i64]; omega
  have hcv : IntKind.u64.wrap tt = tt := by rw [← htt, IntKind.wrap_u64]; omega
  have HT : Hid (((256 * P : Nat) : Int) = tt ∧ 0 ≤ tt ∧ tt < 18446744073709551616) := ⟨htt, by omega, by omega⟩
  clear htt
  have p1 : 1 < w.heap.size := hL.1.pos
  have BG := begin_ok 24 24 1 w hL.1 hL.2 (by decide) (by decide) (by decide) sA1.1 sA1.2
  have hlen : (List.replicate (24 * 256) (0 : Int)).length = 24 * 256 := List.length_replicate
  have ok0 := nwS_ok 24 1 (by decide) (by decide) (by decide)
  go_enter Tryd.func5, Tryd.ntmps5
  go_wp2_with fail
  refine BG.mono ?_
  rintro e w1 ⟨N1, N2, Q, b, g, D, c', h, R, r, rfl, T0, L0, U0, T1, L1, U1, p2, hlo, bj⟩
  have i0 := (Iv.fresh (O := fun _ => False) (by decide) hlen ok0.1 ok0.2 (fun _ e => e.elim) sA1.1).next sA1.2
  have H1 : Hid (RS w w1 (Bl (Bl (Lw N2) L0) L1) Q b g D T0 L0 1 24 (fun f => False ∨ TF (xr (alR (takeS 24 (nwS 24 1 1)) 0)) f) ⟨takeM 24 (takeM 24 (List.replicate (24 * 256) 0) (nwS 24 1 1)) (takeS 24 (nwS 24 1 1)), sA, xr (alR (nwS 24 1 1) 0)⟩) :=
    ⟨p2.s0, i0, ⟨_, bj.wb, rfl, rfl, rfl⟩, bj.bel, bj.lo.1, hlo.1, hlo.2.1, fun k hk => .inl (.inl (by have := bj.lo; show k < N2; omega))⟩
  clear BG p2 hlo bj i0 hL ok0 hlen
  generalize (fun f => False ∨ TF (xr (alR (takeS 24 (nwS 24 1 1)) 0)) f) = O at *
  generalize takeM 24 (takeM 24 (List.replicate (24 * 256) 0) (nwS 24 1 1)) (takeS 24 (nwS 24 1 1)) = m at *
  have hrt : alR (nwS 24 1 1) 0 = 1 := by decide
  rw [hrt] at H1
  generalize Bl (Bl (Lw N2) L0) L1 = B at *
  obtain ⟨q0, q1, q2, lQ⟩ := H1.out.cs
  have C1 := alloc_fx H1.out.sx.fx H1.out.sx.hB 1
  rw [show (Zs.mk m sA (xr 1)).S = sA from rfl, sA2.1, sA2.2] at C1
  go_wp2_with fail
  refine C1.mono ?_
  rintro e w2 ⟨rfl, hf, ht⟩
  have H2 : Hid (RS w w2 B Q b g D T0 L0 1 24 O ⟨m, alS sA 1, xr 1⟩) := H1.out.frames hf ht (H1.out.iv.alloc 1).1
  clear hf ht H1 C1 q0 q1 q2 lQ
  obtain ⟨q0, q1, q2, lQ⟩ := H2.out.cs
  have mQ : mapQ 1 24 ⟨m, alS sA 1, xr 1⟩ P 3 true false false = 0 := by
    unfold mapQ
    rw [if_neg (by show ¬ (1 : Int) < 0; omega), if_neg (not_not_intro ⟨by omega, by omega, rfl, by omega, by omega⟩), if_neg (by show ¬ Option.isSome (none : Option Pg) = true; simp), if_neg (not_not_intro ⟨by show (3 : Int) < (alS sA 1).n; rw [sA3.1]; decide, sA3.2.1⟩)]
    exact sA3.2.2.1
  have mR : raiE 24 ⟨m, hoS (alS sA 1) 3 1, xr 1⟩ (P / 32) = 0 := by
    unfold raiE
    rw [if_neg (by show ¬ (0 : Int) ≤ -1; omega)]
    exact sA3.2.2.2
  have mE : mapE 1 24 ⟨m, alS sA 1, xr 1⟩ (P : Int) 3 true false false = 0 := (map_done (P := P) (F := 3) mQ mR).1
  have mP : (mapZ 1 24 ⟨m, alS sA 1, xr 1⟩ (P : Int) 3 true false false).x.pg P = some ⟨3, true, false, false⟩ := (map_done (P := P) (F := 3) mQ mR).2.1
  have mT : (mapZ 1 24 ⟨m, alS sA 1, xr 1⟩ (P : Int) 3 true false false).x.rt = 1 := (map_done (P := P) (F := 3) mQ mR).2.2
  have C2 := map_sx H2.out.sx H2.out.iv (by decide) (P : Int) 3 true false false
  have iM := (H2.out.iv.map (gu := 1) (by decide) (P : Int) 3 true false false).1
  rw [mE] at C2
  generalize mapZ 1 24 ⟨m, alS sA 1, xr 1⟩ (P : Int) 3 true false false = z1 at *
  have HI : Hid (Iv 24 O z1) := iM
  clear mE mQ mR iM
  go_wp2_with fail
  refine C2.mono ?_
  rintro e w3 ⟨rfl, h3, t3⟩
  have H3 : Hid (RS w w3 B Q b g D T0 L0 1 24 O z1) := H2.out.tn h3 HI.out t3
  clear h3 t3 C2 H2 HI q0 q1 q2 lQ
  go_wp2_with fail
  have HJ0 : Hid (∃ (z : Zs) (r' w' x' : Bool), RS w (w3.alloc (.cells #[.bool true, .bool false, .bool false] 23)) B Q b g D T0 L0 1 24 O z ∧ z.x.rt = 1 ∧ z.x.pg P = some ⟨3, r', w', x'⟩ ∧ B3 (w3.alloc (.cells #[.bool true, .bool false, .bool false] 23)) w3.heap.size r' w' x') := ⟨z1, true, false, false, H3.out.below ((Below.refl _ _).alloc (Nat.le_refl _) _), mT, mP, heap_alloc_at _ _⟩
  have HA : Hid (NumsIn .i64 w a n zs) := hN
  have hw3 : w.heap.size ≤ w3.heap.size := H3.out.bel.size
  have hn' : (n : Int) ≤ 9223372036854775807 := by have : maxLen ≤ 9223372036854775807 := by decide
                                                   omega
  clear H3 mT mP hN hn
  generalize w3.heap.size = K at *
  go_loopw [10] (fun i wr => ∃ j : Nat, j ≤ n ∧ i = .int .i64 j ∧ Hid (∃ (z : Zs) (r' w' x' : Bool), RS w wr B Q b g D T0 L0 1 24 O z ∧ z.x.rt = 1 ∧ z.x.pg P = some ⟨3, r', w', x'⟩ ∧ B3 wr K r' w' x')) (fun i _ => n - (intOf i).toNat)
  case atStart => exact ⟨0, by omega, rfl, HJ0.out⟩
  case round =>
    obtain ⟨j, hj, rfl, HJ⟩ := hrel
    clear HJ0
    obtain ⟨z, r', w', x', HR⟩ : ∃ (z : Zs) (r' w' x' : Bool), Hid (RS w wr B Q b g D T0 L0 1 24 O z ∧ z.x.rt = 1 ∧ z.x.pg P = some ⟨3, r', w', x'⟩ ∧ B3 wr K r' w' x') := HJ.out
    clear HJ
    obtain ⟨q0, q1, q2, lQ⟩ := HR.out.1.cs
    obtain ⟨k0, k1, k2, lK⟩ := HR.out.2.2.2.cs
    by_cases hjn : j < n
    · have hjn' : (j : Int) < n := by omega
      obtain ⟨sb, off, rfl, lsb, cj0⟩ := HA.out.at hjn
      have cj : wr.cell? ⟨sb, off + j, none⟩ = some (.int .i64 (zs.getD j 0)) := (HR.out.1.bel.cell (p := ⟨sb, off + j, none⟩) lsb).trans cj0
      have lsb' : sb < wr.heap.size := by have := HR.out.1.bel.size; omega
      clear cj0
      generalize zs.getD j 0 = v at *
      go_wp2_with fail
      go_region
      have H4 : Hid (RS w (wr.alloc (.cells #[.bool (bits .and .i64 v 1 == 1), .bool (bits .and .i64 v 2 == 2), .bool (bits .and .i64 v 4 == 4)] 23)).drew B Q b g D T0 L0 1 24 O z ∧ B3 (wr.alloc (.cells #[.bool (bits .and .i64 v 1 == 1), .bool (bits .and .i64 v 2 == 2), .bool (bits .and .i64 v 4 == 4)] 23)).drew K r' w' x' ∧ B3 (wr.alloc (.cells #[.bool (bits .and .i64 v 1 == 1), .bool (bits .and .i64 v 2 == 2), .bool (bits .and .i64 v 4 == 4)] 23)).drew wr.heap.size (bits .and .i64 v 1 == 1) (bits .and .i64 v 2 == 2) (bits .and .i64 v 4 == 4)) := by
        have hb : Below wr.heap.size wr (wr.alloc (.cells #[.bool (bits .and .i64 v 1 == 1), .bool (bits .and .i64 v 2 == 2), .bool (bits .and .i64 v 4 == 4)] 23)).drew := ((Below.refl _ _).alloc (Nat.le_refl _) _).drew
        exact ⟨HR.out.1.below hb, HR.out.2.2.2.below hb, heap_alloc_at _ _⟩
      have HX : Hid (z.x.rt = 1 ∧ z.x.pg P = some ⟨3, r', w', x'⟩) := ⟨HR.out.2.1, HR.out.2.2.1⟩
      have hKK : K < wr.heap.size := lK
      clear HR q0 q1 q2 lQ k0 k1 k2 lK cj lsb'
      generalize hK2 : wr.heap.size = K2 at *
      generalize (bits .and .i64 v 1 == 1) = A at *
      generalize (bits .and .i64 v 2 == 2) = Bb at *
      generalize (bits .and .i64 v 4 == 4) = C at *
      generalize (wr.alloc (.cells #[.bool A, .bool Bb, .bool C] 23)).drew = y4 at *
      obtain ⟨q0, q1, q2, lQ⟩ := H4.out.1.cs
      obtain ⟨k0, k1, k2, lK⟩ := H4.out.2.1.cs
      obtain ⟨j0, j1, j2, lJ⟩ := H4.out.2.2.cs
      go_upto_region 13 with fail
      go_cut [12] from 59 to 112 (fun u wx => u = .bool (mayR A Bb C) ∧ wx = y4)
      case first =>
        cases A <;> cases Bb <;> cases C
        all_goals
          go_wp2_with fail
          go_meet
          case rel => exact ⟨rfl, rfl⟩
      case rest =>
        obtain ⟨rfl, hwc⟩ := hcut
        rw [hwc]
        clear hwc
        obtain ⟨pt, pf⟩ := prot_val (A := A) (B := Bb) (C := C) HX.out.1 hP HX.out.2
        have C5 := protect_sx H4.out.1.sx.drew H4.out.1.iv (P : Int) A Bb C
        have iP := (H4.out.1.iv.protect (P : Int) A Bb C).1
        cases hm : mayR A Bb C
        · obtain ⟨e1, e2⟩ := pf hm
          rw [e1, e2] at C5
          clear pt pf iP e1 e2
          go_wp2_with fail
          go_region_held2 (fun W => W.cell? ⟨Q, 2, none⟩ = some (.pointer (some ⟨T0, 0, none⟩)) ∧ W.cell? ⟨K2, 0, none⟩ = some (.bool A) ∧ W.cell? ⟨K2, 1, none⟩ = some (.bool Bb) ∧ W.cell? ⟨K2, 2, none⟩ = some (.bool C))
            (first | exact ⟨q2, j0, j1, j2⟩ | exact hc2)
            (first
              | (go_at_call 11; refine C5.mono ?_; rintro q y5 ⟨rfl, h5, t5⟩; (have H5 : Hid (RS w y5 B Q b g D T0 L0 1 24 O z ∧ z.x.rt = 1 ∧ z.x.pg P = some ⟨3, r', w', x'⟩ ∧ B3 y5 K r' w' x') := ⟨(H4.out.1.below (Below.refl _ _).drew).tn h5 H4.out.1.iv t5, HX.out.1, HX.out.2, (H4.out.2.1.below (Below.refl _ _).drew).tn t5 (H4.out.1.sx.not3 H4.out.2.1)⟩); (have c5 := (H4.out.2.2.below (Below.refl _ _).drew).tn t5 (H4.out.1.sx.not3 H4.out.2.2)); (have hc2 := And.intro H5.out.1.cs.2.2.1 (And.intro c5.cs.1 (And.intro c5.cs.2.1 c5.cs.2.2.1)))))
          clear h5 t5 c5 hc2 C5 H4 q0 q1 q2 lQ k0 k1 k2 lK j0 j1 j2 lJ
          have lk : lkV z P = .tuple #[.int .i64 3, .agg #[.bool r', .bool w', .bool x'], .bool true] := by
            unfold lkV
            rw [if_pos (by unfold unQ; rw [if_neg (by have := H5.out.2.1; omega), if_neg (not_not_intro ⟨by omega, by omega⟩), Int.toNat_natCast, H5.out.2.2.1]; rfl), Int.toNat_natCast, H5.out.2.2.1]
            rfl
          have CL := look_sx H5.out.1.sx H5.out.1.iv (P : Int)
          rw [lk] at CL
          clear lk
          obtain ⟨q0, q1, q2, lQ⟩ := H5.out.1.cs
          go_wp2_with fail
          refine CL.mono ?_
          rintro e w7 ⟨rfl, hb7⟩
          have H7 : Hid (RS w (w7.alloc (.cells #[.bool r', .bool w', .bool x'] 23)) B Q b g D T0 L0 1 24 O z ∧ B3 (w7.alloc (.cells #[.bool r', .bool w', .bool x'] 23)) K r' w' x') := by
            have hb := hb7.alloc hb7.size (.cells #[.bool r', .bool w', .bool x'] 23)
            exact ⟨H5.out.1.below hb, H5.out.2.2.2.below hb⟩
          have HY : Hid (z.x.rt = 1 ∧ z.x.pg P = some ⟨3, r', w', x'⟩) := ⟨H5.out.2.1, H5.out.2.2.1⟩
          have lK7 : K < w7.heap.size := by have := H5.out.2.2.2.below hb7; exact lt_of_heap this
          clear hb7 CL q0 q1 q2 lQ H5
          obtain ⟨k0, k1, k2, lK⟩ := H7.out.2.cs
          obtain ⟨q0, q1, q2, lQ⟩ := H7.out.1.cs
          obtain ⟨f1, d11, d12, d13, d14, l1, ON1⟩ : ∃ (f1 : Int) (d11 d12 d13 d14 : Bool) (l1 : Int), Hid (∀ W, SX B W b g D T0 L0 1 z → Calls Tryd.prog 21 #[.iface 27 (.pointer (some ⟨b, 0, none⟩)), .int .i64 1, .int .u64 tt, .int .i64 1, .bool true] W fun e W' => e = .returned (.tuple #[.agg #[.int .i64 f1, .bool d11, .bool d12, .bool d13, .bool d14, .int .i64 l1], .bool r']) ∧ Below W.heap.size W W') := by
            obtain ⟨f1, d1, d2, d3, d4, l1, he⟩ := oneV_eq (E.oneP z.m 1 tt 1 true)
            have hs := (one_some H7.out.1.iv (by rw [HY.out.1]; decide) hP HY.out.2).1
            rw [HY.out.1, HT.out.1] at hs
            refine ⟨f1, d1, d2, d3, d4, l1, fun W hW => ?_⟩
            have := E.one_any tt 1 true 1 b g z.m HT.out.2.1 HT.out.2.2 (by decide) W ⟨hW.sz, hW.bt, hW.mm⟩
            rw [he, hs] at this
            exact this
          obtain ⟨f2, d21, d22, d23, d24, l2, ON2⟩ : ∃ (f1 : Int) (d11 d12 d13 d14 : Bool) (l1 : Int), Hid (∀ W, SX B W b g D T0 L0 1 z → Calls Tryd.prog 21 #[.iface 27 (.pointer (some ⟨b, 0, none⟩)), .int .i64 1, .int .u64 tt, .int .i64 2, .bool true] W fun e W' => e = .returned (.tuple #[.agg #[.int .i64 f1, .bool d11, .bool d12, .bool d13, .bool d14, .int .i64 l1], .bool w']) ∧ Below W.heap.size W W') := by
            obtain ⟨f1, d1, d2, d3, d4, l1, he⟩ := oneV_eq (E.oneP z.m 1 tt 2 true)
            have hs := (one_some H7.out.1.iv (by rw [HY.out.1]; decide) hP HY.out.2).2
            rw [HY.out.1, HT.out.1] at hs
            refine ⟨f1, d1, d2, d3, d4, l1, fun W hW => ?_⟩
            have := E.one_any tt 2 true 1 b g z.m HT.out.2.1 HT.out.2.2 (by decide) W ⟨hW.sz, hW.bt, hW.mm⟩
            rw [he, hs] at this
            exact this
          have RT : Hid (∀ W, SX B W b g D T0 L0 1 z → Calls Tryd.prog 9 #[.pointer (some ⟨T0, 0, none⟩)] W fun e w' => e = .returned (.int .i64 1) ∧ w' = W) := fun W hW => by
            have := root_sx hW (by rw [HY.out.1]; decide)
            rwa [HY.out.1] at this
          go_upto_region 22 with fail
          generalize (w7.alloc (.cells #[.bool r', .bool w', .bool x'] 23)) = y7 at *
          have HKS1 : Hid (∀ W, Below y7.heap.size y7 W → RS w W B Q b g D T0 L0 1 24 O z ∧ B3 W K r' w' x') := fun W hb => ⟨H7.out.1.below hb, H7.out.2.below hb⟩
          go_cut [17, 18] from 138 to 155 (fun u v wx => v = .bool r' ∧ Below y7.heap.size y7 wx)
          case first =>
            have hS0 : Below y7.heap.size y7 y7.drew := (Below.refl _ _).drew
            have hi72 : (Tryd.prog.info? 72).map (·.size) = some 6 := by kernel_rfl
            refine wp_region_held_drew (S := fun W : World => Below y7.heap.size y7 W) (by kernel_rfl) hS0 (fun _ => ?_)
            refine wpAnyH_take (i := 0) (v := .pointer (some ⟨Q, 0, none⟩)) rfl (by kernel_rfl) (by kernel_rfl) (by kernel_rfl) (fun _ _ _ h => h) (Or.inl ⟨by rfl, ?_⟩) hS0 ?_
            · intro wq hw
              go_simp
            try simp only [Act.put, List.getElem_toArray, List.getElem_cons_zero, List.setIfInBounds_toArray, List.set_cons_zero, List.set_cons_succ]
            refine wpAnyH_take (i := 1) (v := .pointer (some ⟨Q, 0, none⟩)) rfl (by kernel_rfl) (by kernel_rfl) (by kernel_rfl) (fun _ _ _ h => h) (Or.inl ⟨by rfl, ?_⟩) hS0 ?_
            · intro wq hw
              go_simp
            try simp only [Act.put, List.getElem_toArray, List.getElem_cons_succ, List.getElem_cons_zero, List.setIfInBounds_toArray, List.set_cons_zero, List.set_cons_succ]
            refine wpAnyH_take (i := 2) (v := .pointer (some ⟨Q, 0, none⟩)) rfl (by kernel_rfl) (by kernel_rfl) (by kernel_rfl) (fun _ _ _ h => h) (Or.inl ⟨by rfl, ?_⟩) hS0 ?_
            · intro wq hw
              go_simp
            try simp only [Act.put, List.getElem_toArray, List.getElem_cons_succ, List.getElem_cons_zero, List.setIfInBounds_toArray, List.set_cons_zero, List.set_cons_succ]
            refine wpAnyH_take (i := 3) (v := .pointer (some ⟨b, 0, none⟩)) rfl (by kernel_rfl) (by kernel_rfl) (by kernel_rfl) (fun _ _ _ h => h) (Or.inl ⟨by rfl, ?_⟩) hS0 ?_
            · intro wq hw
              have hc := ((hw : Below y7.heap.size y7 wq).cell (p := ⟨Q, 0, none⟩) lQ).trans q0
              have hl := lt_cell' hc
              go_simp
            try simp only [Act.put, List.getElem_toArray, List.getElem_cons_succ, List.getElem_cons_zero, List.setIfInBounds_toArray, List.set_cons_zero, List.set_cons_succ]
            refine wpAnyH_take (i := 4) (v := .iface 27 (.pointer (some ⟨b, 0, none⟩))) rfl (by kernel_rfl) (by kernel_rfl) (by kernel_rfl) (fun _ _ _ h => h) (Or.inl ⟨by rfl, ?_⟩) hS0 ?_
            · intro wq hw
              go_simp
            try simp only [Act.put, List.getElem_toArray, List.getElem_cons_succ, List.getElem_cons_zero, List.setIfInBounds_toArray, List.set_cons_zero, List.set_cons_succ]
            refine wpAnyH_take (i := 5) (v := .pointer (some ⟨Q, 0, none⟩)) rfl (by kernel_rfl) (by kernel_rfl) (by kernel_rfl) (fun _ _ _ h => h) (Or.inl ⟨by rfl, ?_⟩) hS0 ?_
            · intro wq hw
              go_simp
            try simp only [Act.put, List.getElem_toArray, List.getElem_cons_succ, List.getElem_cons_zero, List.setIfInBounds_toArray, List.set_cons_zero, List.set_cons_succ]
            refine wpAnyH_take (i := 6) (v := .pointer (some ⟨Q, 0, none⟩)) rfl (by kernel_rfl) (by kernel_rfl) (by kernel_rfl) (fun _ _ _ h => h) (Or.inl ⟨by rfl, ?_⟩) hS0 ?_
            · intro wq hw
              go_simp
            try simp only [Act.put, List.getElem_toArray, List.getElem_cons_succ, List.getElem_cons_zero, List.setIfInBounds_toArray, List.set_cons_zero, List.set_cons_succ]
            refine wpAnyH_take (i := 7) (v := .pointer (some ⟨Q, 2, none⟩)) rfl (by kernel_rfl) (by kernel_rfl) (by kernel_rfl) (fun _ _ _ h => h) (Or.inl ⟨by rfl, ?_⟩) hS0 ?_
            · intro wq hw
              go_simp
            try simp only [Act.put, List.getElem_toArray, List.getElem_cons_succ, List.getElem_cons_zero, List.setIfInBounds_toArray, List.set_cons_zero, List.set_cons_succ]
            refine wpAnyH_take (i := 8) (v := .pointer (some ⟨Q, 2, none⟩)) rfl (by kernel_rfl) (by kernel_rfl) (by kernel_rfl) (fun _ _ _ h => h) (Or.inl ⟨by rfl, ?_⟩) hS0 ?_
            · intro wq hw
              go_simp
            try simp only [Act.put, List.getElem_toArray, List.getElem_cons_succ, List.getElem_cons_zero, List.setIfInBounds_toArray, List.set_cons_zero, List.set_cons_succ]
            refine wpAnyH_take (i := 9) (v := .pointer (some ⟨T0, 0, none⟩)) rfl (by kernel_rfl) (by kernel_rfl) (by kernel_rfl) (fun _ _ _ h => h) (Or.inl ⟨by rfl, ?_⟩) hS0 ?_
            · intro wq hw
              have hc := ((hw : Below y7.heap.size y7 wq).cell (p := ⟨Q, 2, none⟩) lQ).trans q2
              have hl := lt_cell' hc
              go_simp
            try simp only [Act.put, List.getElem_toArray, List.getElem_cons_succ, List.getElem_cons_zero, List.setIfInBounds_toArray, List.set_cons_zero, List.set_cons_succ]
            refine wpAnyH_take (i := 11) (v := .int .i64 P) rfl (by kernel_rfl) (by kernel_rfl) (by kernel_rfl) (fun _ _ _ h => h) (Or.inl ⟨by rfl, ?_⟩) hS0 ?_
            · intro wq hw
              go_simp
            try simp only [Act.put, List.getElem_toArray, List.getElem_cons_succ, List.getElem_cons_zero, List.setIfInBounds_toArray, List.set_cons_zero, List.set_cons_succ]
            refine wpAnyH_take (i := 12) (v := .int .i64 tt) rfl (by kernel_rfl) (by kernel_rfl) (by kernel_rfl) (fun _ _ _ h => h) (Or.inl ⟨by rfl, ?_⟩) hS0 ?_
            · intro wq hw
              go_simp
            try simp only [Act.put, List.getElem_toArray, List.getElem_cons_succ, List.getElem_cons_zero, List.setIfInBounds_toArray, List.set_cons_zero, List.set_cons_succ]
            refine wpAnyH_take (i := 13) (v := .int .u64 tt) rfl (by kernel_rfl) (by kernel_rfl) (by kernel_rfl) (fun _ _ _ h => h) (Or.inl ⟨by rfl, ?_⟩) hS0 ?_
            · intro wq hw
              go_simp
            try simp only [Act.put, List.getElem_toArray, List.getElem_cons_succ, List.getElem_cons_zero, List.setIfInBounds_toArray, List.set_cons_zero, List.set_cons_succ]
            refine wpAnyH_ready (rs := [10, 18]) (by kernel_rfl) (by simp) ?_
            refine AllReadyH.cons rfl (fun K hK => ?_) (AllReadyH.cons rfl (fun K hK => ?_) AllReadyH.nil)
            · have CC := RT.out _ (HKS1.out _ hS0).1.sx
              go_simp
              go_wp2_with (go_at_call 9; refine CC.mono ?_; rintro e y1 ⟨rfl, rfl⟩)
              refine hK.out _ _ hS0 (fun hS1 => ?_)
              clear hK K CC
              try simp only [Act.put, List.getElem_toArray, List.getElem_cons_succ, List.getElem_cons_zero, List.setIfInBounds_toArray, List.set_cons_zero, List.set_cons_succ]
              refine wpAnyH_ready (rs := [14, 18]) (by kernel_rfl) (by simp) ?_
              refine AllReadyH.cons rfl (fun K hK => ?_) (AllReadyH.cons rfl (fun K hK => ?_) AllReadyH.nil)
              · have CC := ON1.out _ (HKS1.out _ hS1).1.sx
                go_simp
                go_wp2_with (go_at_call 21; refine CC.mono ?_; rintro e y8 ⟨rfl, hbo⟩)
                refine hK.out _ _ (Below.trans hS1 (hbo.mono hS1.size)) (fun hS2 => ?_)
                clear hK K CC
                try simp only [Act.put, List.getElem_toArray, List.getElem_cons_succ, List.getElem_cons_zero, List.setIfInBounds_toArray, List.set_cons_zero, List.set_cons_succ]
                refine wpAnyH_take (i := 15) (v := .tuple #[.agg #[.int .i64 f1, .bool d11, .bool d12, .bool d13, .bool d14, .int .i64 l1], .bool r']) rfl (by kernel_rfl) (by kernel_rfl) (by kernel_rfl) (fun _ _ _ h => h) (Or.inl ⟨by rfl, ?_⟩) hS2 ?_
                · intro wq hw
                  go_simp
                try simp only [Act.put, List.getElem_toArray, List.getElem_cons_succ, List.getElem_cons_zero, List.setIfInBounds_toArray, List.set_cons_zero, List.set_cons_succ]
                refine wpAnyH_take (i := 16) (v := .agg #[.int .i64 f1, .bool d11, .bool d12, .bool d13, .bool d14, .int .i64 l1]) rfl (by kernel_rfl) (by kernel_rfl) (by kernel_rfl) (fun _ _ _ h => h) (Or.inl ⟨by rfl, ?_⟩) hS2 ?_
                · intro wq hw
                  go_simp
                try simp only [Act.put, List.getElem_toArray, List.getElem_cons_succ, List.getElem_cons_zero, List.setIfInBounds_toArray, List.set_cons_zero, List.set_cons_succ]
                refine wpAnyH_take (i := 17) (v := .bool r') rfl (by kernel_rfl) (by kernel_rfl) (by kernel_rfl) (fun _ _ _ h => h) (Or.inl ⟨by rfl, ?_⟩) hS2 ?_
                · intro wq hw
                  go_simp
                try simp only [Act.put, List.getElem_toArray, List.getElem_cons_succ, List.getElem_cons_zero, List.setIfInBounds_toArray, List.set_cons_zero, List.set_cons_succ]
                refine wpAnyH_ready (rs := [18]) (by kernel_rfl) (by simp) ?_
                refine AllReadyH.cons rfl (fun K hK => ?_) AllReadyH.nil
                go_simp
                refine hK.out _ _ (Below.alloc hS2 hS2.size _) (fun hS3 => ?_)
                clear hK K
                try simp only [Act.put, List.getElem_toArray, List.getElem_cons_succ, List.getElem_cons_zero, List.setIfInBounds_toArray, List.set_cons_zero, List.set_cons_succ]
                refine wpAnyH_ready (rs := [19]) (by kernel_rfl) (by simp) ?_
                refine AllReadyH.cons rfl (fun K hK => ?_) AllReadyH.nil
                rw [if_pos (by rfl)]
                have hX : (y8.alloc (.cells #[.int .i64 0, .bool false, .bool false, .bool false, .bool false, .int .i64 0] 72)).heap[y8.heap.size]? = some (.cells #[.int .i64 0, .bool false, .bool false, .bool false, .bool false, .int .i64 0] 72 (0, 0)) := heap_alloc_at _ _
                have hge : y7.heap.size ≤ y8.heap.size := hS2.size
                refine wp_store_row 72 _ _ rfl (y8.heap.size) #[.int .i64 f1, .bool d11, .bool d12, .bool d13, .bool d14, .int .i64 l1] rfl rfl 72 _ hX hi72 rfl (by simp [Value.oneCell']) ?_
                have hbs : Below y7.heap.size y7 ((y8.alloc (.cells #[.int .i64 0, .bool false, .bool false, .bool false, .bool false, .int .i64 0] 72)).setRow (y8.heap.size) #[.int .i64 f1, .bool d11, .bool d12, .bool d13, .bool d14, .int .i64 l1]) := Below.trans hS3 ⟨rfl, rfl, rfl, by simp [World.setRow], fun k hk => setRow_other _ _ k _ (by omega)⟩
                refine hK.out _ _ hbs (fun hS4 => ?_)
                clear hK K hX hge
                try simp only [Act.put, List.getElem_toArray, List.getElem_cons_succ, List.getElem_cons_zero]
                refine wpAnyH_take (i := 20) (v := .bool r') rfl (by kernel_rfl) (by kernel_rfl) (by kernel_rfl) (fun _ _ _ h => h) (Or.inl ⟨by rfl, ?_⟩) hS4 ?_
                · intro wq hw
                  go_simp
                try simp only [Act.put, List.getElem_toArray, List.getElem_cons_succ, List.getElem_cons_zero, List.setIfInBounds_toArray, List.set_cons_zero, List.set_cons_succ]
                refine wpAnyH_done (by kernel_rfl) ?_ _
                go_wp2_with fail
                go_meet
                case rel => exact ⟨rfl, hS4⟩
              · go_simp
                refine hK.out _ _ (Below.alloc hS1 hS1.size _) (fun hS2 => ?_)
                clear hK K
                try simp only [Act.put, List.getElem_toArray, List.getElem_cons_succ, List.getElem_cons_zero, List.setIfInBounds_toArray, List.set_cons_zero, List.set_cons_succ]
                refine wpAnyH_ready (rs := [14]) (by kernel_rfl) (by simp) ?_
                refine AllReadyH.cons rfl (fun K hK => ?_) AllReadyH.nil
                have CC := ON1.out _ (HKS1.out _ hS2).1.sx
                go_simp
                go_wp2_with (go_at_call 21; refine CC.mono ?_; rintro e y8 ⟨rfl, hbo⟩)
                refine hK.out _ _ (Below.trans hS2 (hbo.mono hS2.size)) (fun hS3 => ?_)
                clear hK K CC
                try simp only [Act.put, List.getElem_toArray, List.getElem_cons_succ, List.getElem_cons_zero, List.setIfInBounds_toArray, List.set_cons_zero, List.set_cons_succ]
                refine wpAnyH_take (i := 15) (v := .tuple #[.agg #[.int .i64 f1, .bool d11, .bool d12, .bool d13, .bool d14, .int .i64 l1], .bool r']) rfl (by kernel_rfl) (by kernel_rfl) (by kernel_rfl) (fun _ _ _ h => h) (Or.inl ⟨by rfl, ?_⟩) hS3 ?_
                · intro wq hw
                  go_simp
                try simp only [Act.put, List.getElem_toArray, List.getElem_cons_succ, List.getElem_cons_zero, List.setIfInBounds_toArray, List.set_cons_zero, List.set_cons_succ]
                refine wpAnyH_take (i := 16) (v := .agg #[.int .i64 f1, .bool d11, .bool d12, .bool d13, .bool d14, .int .i64 l1]) rfl (by kernel_rfl) (by kernel_rfl) (by kernel_rfl) (fun _ _ _ h => h) (Or.inl ⟨by rfl, ?_⟩) hS3 ?_
                · intro wq hw
                  go_simp
                try simp only [Act.put, List.getElem_toArray, List.getElem_cons_succ, List.getElem_cons_zero, List.setIfInBounds_toArray, List.set_cons_zero, List.set_cons_succ]
                refine wpAnyH_take (i := 17) (v := .bool r') rfl (by kernel_rfl) (by kernel_rfl) (by kernel_rfl) (fun _ _ _ h => h) (Or.inl ⟨by rfl, ?_⟩) hS3 ?_
                · intro wq hw
                  go_simp
                try simp only [Act.put, List.getElem_toArray, List.getElem_cons_succ, List.getElem_cons_zero, List.setIfInBounds_toArray, List.set_cons_zero, List.set_cons_succ]
                refine wpAnyH_ready (rs := [19]) (by kernel_rfl) (by simp) ?_
                refine AllReadyH.cons rfl (fun K hK => ?_) AllReadyH.nil
                rw [if_pos (by rfl)]
                have hX : (y8).heap[y7.heap.size]? = some (.cells #[.int .i64 0, .bool false, .bool false, .bool false, .bool false, .int .i64 0] 72 (0, 0)) := (hbo.block _ (by simp)).trans (heap_alloc_at y7.drew _)
                have hge : y7.heap.size ≤ y7.heap.size := Nat.le_refl _
                refine wp_store_row 72 _ _ rfl (y7.heap.size) #[.int .i64 f1, .bool d11, .bool d12, .bool d13, .bool d14, .int .i64 l1] rfl rfl 72 _ hX hi72 rfl (by simp [Value.oneCell']) ?_
                have hbs : Below y7.heap.size y7 ((y8).setRow (y7.heap.size) #[.int .i64 f1, .bool d11, .bool d12, .bool d13, .bool d14, .int .i64 l1]) := Below.trans hS3 ⟨rfl, rfl, rfl, by simp [World.setRow], fun k hk => setRow_other _ _ k _ (by omega)⟩
                refine hK.out _ _ hbs (fun hS4 => ?_)
                clear hK K hX hge
                try simp only [Act.put, List.getElem_toArray, List.getElem_cons_succ, List.getElem_cons_zero]
                refine wpAnyH_take (i := 20) (v := .bool r') rfl (by kernel_rfl) (by kernel_rfl) (by kernel_rfl) (fun _ _ _ h => h) (Or.inl ⟨by rfl, ?_⟩) hS4 ?_
                · intro wq hw
                  go_simp
                try simp only [Act.put, List.getElem_toArray, List.getElem_cons_succ, List.getElem_cons_zero, List.setIfInBounds_toArray, List.set_cons_zero, List.set_cons_succ]
                refine wpAnyH_done (by kernel_rfl) ?_ _
                go_wp2_with fail
                go_meet
                case rel => exact ⟨rfl, hS4⟩
            · go_simp
              refine hK.out _ _ (Below.alloc hS0 hS0.size _) (fun hS1 => ?_)
              clear hK K
              try simp only [Act.put, List.getElem_toArray, List.getElem_cons_succ, List.getElem_cons_zero, List.setIfInBounds_toArray, List.set_cons_zero, List.set_cons_succ]
              refine wpAnyH_ready (rs := [10]) (by kernel_rfl) (by simp) ?_
              refine AllReadyH.cons rfl (fun K hK => ?_) AllReadyH.nil
              have CC := RT.out _ (HKS1.out _ hS1).1.sx
              go_simp
              go_wp2_with (go_at_call 9; refine CC.mono ?_; rintro e y1 ⟨rfl, rfl⟩)
              refine hK.out _ _ hS1 (fun hS2 => ?_)
              clear hK K CC
              try simp only [Act.put, List.getElem_toArray, List.getElem_cons_succ, List.getElem_cons_zero, List.setIfInBounds_toArray, List.set_cons_zero, List.set_cons_succ]
              refine wpAnyH_ready (rs := [14]) (by kernel_rfl) (by simp) ?_
              refine AllReadyH.cons rfl (fun K hK => ?_) AllReadyH.nil
              have CC := ON1.out _ (HKS1.out _ hS2).1.sx
              go_simp
              go_wp2_with (go_at_call 21; refine CC.mono ?_; rintro e y8 ⟨rfl, hbo⟩)
              refine hK.out _ _ (Below.trans hS2 (hbo.mono hS2.size)) (fun hS3 => ?_)
              clear hK K CC
              try simp only [Act.put, List.getElem_toArray, List.getElem_cons_succ, List.getElem_cons_zero, List.setIfInBounds_toArray, List.set_cons_zero, List.set_cons_succ]
              refine wpAnyH_take (i := 15) (v := .tuple #[.agg #[.int .i64 f1, .bool d11, .bool d12, .bool d13, .bool d14, .int .i64 l1], .bool r']) rfl (by kernel_rfl) (by kernel_rfl) (by kernel_rfl) (fun _ _ _ h => h) (Or.inl ⟨by rfl, ?_⟩) hS3 ?_
              · intro wq hw
                go_simp
              try simp only [Act.put, List.getElem_toArray, List.getElem_cons_succ, List.getElem_cons_zero, List.setIfInBounds_toArray, List.set_cons_zero, List.set_cons_succ]
              refine wpAnyH_take (i := 16) (v := .agg #[.int .i64 f1, .bool d11, .bool d12, .bool d13, .bool d14, .int .i64 l1]) rfl (by kernel_rfl) (by kernel_rfl) (by kernel_rfl) (fun _ _ _ h => h) (Or.inl ⟨by rfl, ?_⟩) hS3 ?_
              · intro wq hw
                go_simp
              try simp only [Act.put, List.getElem_toArray, List.getElem_cons_succ, List.getElem_cons_zero, List.setIfInBounds_toArray, List.set_cons_zero, List.set_cons_succ]
              refine wpAnyH_take (i := 17) (v := .bool r') rfl (by kernel_rfl) (by kernel_rfl) (by kernel_rfl) (fun _ _ _ h => h) (Or.inl ⟨by rfl, ?_⟩) hS3 ?_
              · intro wq hw
                go_simp
              try simp only [Act.put, List.getElem_toArray, List.getElem_cons_succ, List.getElem_cons_zero, List.setIfInBounds_toArray, List.set_cons_zero, List.set_cons_succ]
              refine wpAnyH_ready (rs := [19]) (by kernel_rfl) (by simp) ?_
              refine AllReadyH.cons rfl (fun K hK => ?_) AllReadyH.nil
              rw [if_pos (by rfl)]
              have hX : (y8).heap[y7.heap.size]? = some (.cells #[.int .i64 0, .bool false, .bool false, .bool false, .bool false, .int .i64 0] 72 (0, 0)) := (hbo.block _ (by simp)).trans (heap_alloc_at y7.drew _)
              have hge : y7.heap.size ≤ y7.heap.size := Nat.le_refl _
              refine wp_store_row 72 _ _ rfl (y7.heap.size) #[.int .i64 f1, .bool d11, .bool d12, .bool d13, .bool d14, .int .i64 l1] rfl rfl 72 _ hX hi72 rfl (by simp [Value.oneCell']) ?_
              have hbs : Below y7.heap.size y7 ((y8).setRow (y7.heap.size) #[.int .i64 f1, .bool d11, .bool d12, .bool d13, .bool d14, .int .i64 l1]) := Below.trans hS3 ⟨rfl, rfl, rfl, by simp [World.setRow], fun k hk => setRow_other _ _ k _ (by omega)⟩
              refine hK.out _ _ hbs (fun hS4 => ?_)
              clear hK K hX hge
              try simp only [Act.put, List.getElem_toArray, List.getElem_cons_succ, List.getElem_cons_zero]
              refine wpAnyH_take (i := 20) (v := .bool r') rfl (by kernel_rfl) (by kernel_rfl) (by kernel_rfl) (fun _ _ _ h => h) (Or.inl ⟨by rfl, ?_⟩) hS4 ?_
              · intro wq hw
                go_simp
              try simp only [Act.put, List.getElem_toArray, List.getElem_cons_succ, List.getElem_cons_zero, List.setIfInBounds_toArray, List.set_cons_zero, List.set_cons_succ]
              refine wpAnyH_done (by kernel_rfl) ?_ _
              go_wp2_with fail
              go_meet
              case rel => exact ⟨rfl, hS4⟩
          case rest =>
            obtain ⟨rfl, hwc⟩ := hcut
            have HKS2 : Hid (∀ W, Below wc.heap.size wc W → RS w W B Q b g D T0 L0 1 24 O z ∧ B3 W K r' w' x') := fun W hb => HKS1.out W (hwc.trans (hb.mono hwc.size))
            have H8 := (HKS2.out _ (Below.refl _ _)).1.cs
            clear q0 q1 q2 lQ k0 k1 k2 lK H7 HKS1 hwc lK7
            obtain ⟨q0, q1, q2, lQ⟩ := H8
            go_upto_region 23 with fail
            go_cut [19, 20] from 156 to 173 (fun u v wx => v = .bool w' ∧ Below wc.heap.size wc wx)
            case first =>
              have hS0 : Below wc.heap.size wc wc.drew := (Below.refl _ _).drew
              have hi72 : (Tryd.prog.info? 72).map (·.size) = some 6 := by kernel_rfl
              refine wp_region_held_drew (S := fun W : World => Below wc.heap.size wc W) (by kernel_rfl) hS0 (fun _ => ?_)
              refine wpAnyH_take (i := 0) (v := .pointer (some ⟨Q, 0, none⟩)) rfl (by kernel_rfl) (by kernel_rfl) (by kernel_rfl) (fun _ _ _ h => h) (Or.inl ⟨by rfl, ?_⟩) hS0 ?_
              · intro wq hw
                go_simp
              try simp only [Act.put, List.getElem_toArray, List.getElem_cons_zero, List.setIfInBounds_toArray, List.set_cons_zero, List.set_cons_succ]
              refine wpAnyH_take (i := 1) (v := .pointer (some ⟨Q, 0, none⟩)) rfl (by kernel_rfl) (by kernel_rfl) (by kernel_rfl) (fun _ _ _ h => h) (Or.inl ⟨by rfl, ?_⟩) hS0 ?_
              · intro wq hw
                go_simp
              try simp only [Act.put, List.getElem_toArray, List.getElem_cons_succ, List.getElem_cons_zero, List.setIfInBounds_toArray, List.set_cons_zero, List.set_cons_succ]
              refine wpAnyH_take (i := 2) (v := .pointer (some ⟨Q, 0, none⟩)) rfl (by kernel_rfl) (by kernel_rfl) (by kernel_rfl) (fun _ _ _ h => h) (Or.inl ⟨by rfl, ?_⟩) hS0 ?_
              · intro wq hw
                go_simp
              try simp only [Act.put, List.getElem_toArray, List.getElem_cons_succ, List.getElem_cons_zero, List.setIfInBounds_toArray, List.set_cons_zero, List.set_cons_succ]
              refine wpAnyH_take (i := 3) (v := .pointer (some ⟨b, 0, none⟩)) rfl (by kernel_rfl) (by kernel_rfl) (by kernel_rfl) (fun _ _ _ h => h) (Or.inl ⟨by rfl, ?_⟩) hS0 ?_
              · intro wq hw
                have hc := ((hw : Below wc.heap.size wc wq).cell (p := ⟨Q, 0, none⟩) lQ).trans q0
                have hl := lt_cell' hc
                go_simp
              try simp only [Act.put, List.getElem_toArray, List.getElem_cons_succ, List.getElem_cons_zero, List.setIfInBounds_toArray, List.set_cons_zero, List.set_cons_succ]
              refine wpAnyH_take (i := 4) (v := .iface 27 (.pointer (some ⟨b, 0, none⟩))) rfl (by kernel_rfl) (by kernel_rfl) (by kernel_rfl) (fun _ _ _ h => h) (Or.inl ⟨by rfl, ?_⟩) hS0 ?_
              · intro wq hw
                go_simp
              try simp only [Act.put, List.getElem_toArray, List.getElem_cons_succ, List.getElem_cons_zero, List.setIfInBounds_toArray, List.set_cons_zero, List.set_cons_succ]
              refine wpAnyH_take (i := 5) (v := .pointer (some ⟨Q, 0, none⟩)) rfl (by kernel_rfl) (by kernel_rfl) (by kernel_rfl) (fun _ _ _ h => h) (Or.inl ⟨by rfl, ?_⟩) hS0 ?_
              · intro wq hw
                go_simp
              try simp only [Act.put, List.getElem_toArray, List.getElem_cons_succ, List.getElem_cons_zero, List.setIfInBounds_toArray, List.set_cons_zero, List.set_cons_succ]
              refine wpAnyH_take (i := 6) (v := .pointer (some ⟨Q, 0, none⟩)) rfl (by kernel_rfl) (by kernel_rfl) (by kernel_rfl) (fun _ _ _ h => h) (Or.inl ⟨by rfl, ?_⟩) hS0 ?_
              · intro wq hw
                go_simp
              try simp only [Act.put, List.getElem_toArray, List.getElem_cons_succ, List.getElem_cons_zero, List.setIfInBounds_toArray, List.set_cons_zero, List.set_cons_succ]
              refine wpAnyH_take (i := 7) (v := .pointer (some ⟨Q, 2, none⟩)) rfl (by kernel_rfl) (by kernel_rfl) (by kernel_rfl) (fun _ _ _ h => h) (Or.inl ⟨by rfl, ?_⟩) hS0 ?_
              · intro wq hw
                go_simp
              try simp only [Act.put, List.getElem_toArray, List.getElem_cons_succ, List.getElem_cons_zero, List.setIfInBounds_toArray, List.set_cons_zero, List.set_cons_succ]
              refine wpAnyH_take (i := 8) (v := .pointer (some ⟨Q, 2, none⟩)) rfl (by kernel_rfl) (by kernel_rfl) (by kernel_rfl) (fun _ _ _ h => h) (Or.inl ⟨by rfl, ?_⟩) hS0 ?_
              · intro wq hw
                go_simp
              try simp only [Act.put, List.getElem_toArray, List.getElem_cons_succ, List.getElem_cons_zero, List.setIfInBounds_toArray, List.set_cons_zero, List.set_cons_succ]
              refine wpAnyH_take (i := 9) (v := .pointer (some ⟨T0, 0, none⟩)) rfl (by kernel_rfl) (by kernel_rfl) (by kernel_rfl) (fun _ _ _ h => h) (Or.inl ⟨by rfl, ?_⟩) hS0 ?_
              · intro wq hw
                have hc := ((hw : Below wc.heap.size wc wq).cell (p := ⟨Q, 2, none⟩) lQ).trans q2
                have hl := lt_cell' hc
                go_simp
              try simp only [Act.put, List.getElem_toArray, List.getElem_cons_succ, List.getElem_cons_zero, List.setIfInBounds_toArray, List.set_cons_zero, List.set_cons_succ]
              refine wpAnyH_take (i := 11) (v := .int .i64 P) rfl (by kernel_rfl) (by kernel_rfl) (by kernel_rfl) (fun _ _ _ h => h) (Or.inl ⟨by rfl, ?_⟩) hS0 ?_
              · intro wq hw
                go_simp
              try simp only [Act.put, List.getElem_toArray, List.getElem_cons_succ, List.getElem_cons_zero, List.setIfInBounds_toArray, List.set_cons_zero, List.set_cons_succ]
              refine wpAnyH_take (i := 12) (v := .int .i64 tt) rfl (by kernel_rfl) (by kernel_rfl) (by kernel_rfl) (fun _ _ _ h => h) (Or.inl ⟨by rfl, ?_⟩) hS0 ?_
              · intro wq hw
                go_simp
              try simp only [Act.put, List.getElem_toArray, List.getElem_cons_succ, List.getElem_cons_zero, List.setIfInBounds_toArray, List.set_cons_zero, List.set_cons_succ]
              refine wpAnyH_take (i := 13) (v := .int .u64 tt) rfl (by kernel_rfl) (by kernel_rfl) (by kernel_rfl) (fun _ _ _ h => h) (Or.inl ⟨by rfl, ?_⟩) hS0 ?_
              · intro wq hw
                go_simp
              try simp only [Act.put, List.getElem_toArray, List.getElem_cons_succ, List.getElem_cons_zero, List.setIfInBounds_toArray, List.set_cons_zero, List.set_cons_succ]
              refine wpAnyH_ready (rs := [10, 18]) (by kernel_rfl) (by simp) ?_
              refine AllReadyH.cons rfl (fun K hK => ?_) (AllReadyH.cons rfl (fun K hK => ?_) AllReadyH.nil)
              · have CC := RT.out _ (HKS2.out _ hS0).1.sx
                go_simp
                go_wp2_with (go_at_call 9; refine CC.mono ?_; rintro e y1 ⟨rfl, rfl⟩)
                refine hK.out _ _ hS0 (fun hS1 => ?_)
                clear hK K CC
                try simp only [Act.put, List.getElem_toArray, List.getElem_cons_succ, List.getElem_cons_zero, List.setIfInBounds_toArray, List.set_cons_zero, List.set_cons_succ]
                refine wpAnyH_ready (rs := [14, 18]) (by kernel_rfl) (by simp) ?_
                refine AllReadyH.cons rfl (fun K hK => ?_) (AllReadyH.cons rfl (fun K hK => ?_) AllReadyH.nil)
                · have CC := ON2.out _ (HKS2.out _ hS1).1.sx
                  go_simp
                  go_wp2_with (go_at_call 21; refine CC.mono ?_; rintro e y8 ⟨rfl, hbo⟩)
                  refine hK.out _ _ (Below.trans hS1 (hbo.mono hS1.size)) (fun hS2 => ?_)
                  clear hK K CC
                  try simp only [Act.put, List.getElem_toArray, List.getElem_cons_succ, List.getElem_cons_zero, List.setIfInBounds_toArray, List.set_cons_zero, List.set_cons_succ]
                  refine wpAnyH_take (i := 15) (v := .tuple #[.agg #[.int .i64 f2, .bool d21, .bool d22, .bool d23, .bool d24, .int .i64 l2], .bool w']) rfl (by kernel_rfl) (by kernel_rfl) (by kernel_rfl) (fun _ _ _ h => h) (Or.inl ⟨by rfl, ?_⟩) hS2 ?_
                  · intro wq hw
                    go_simp
                  try simp only [Act.put, List.getElem_toArray, List.getElem_cons_succ, List.getElem_cons_zero, List.setIfInBounds_toArray, List.set_cons_zero, List.set_cons_succ]
                  refine wpAnyH_take (i := 16) (v := .agg #[.int .i64 f2, .bool d21, .bool d22, .bool d23, .bool d24, .int .i64 l2]) rfl (by kernel_rfl) (by kernel_rfl) (by kernel_rfl) (fun _ _ _ h => h) (Or.inl ⟨by rfl, ?_⟩) hS2 ?_
                  · intro wq hw
                    go_simp
                  try simp only [Act.put, List.getElem_toArray, List.getElem_cons_succ, List.getElem_cons_zero, List.setIfInBounds_toArray, List.set_cons_zero, List.set_cons_succ]
                  refine wpAnyH_take (i := 17) (v := .bool w') rfl (by kernel_rfl) (by kernel_rfl) (by kernel_rfl) (fun _ _ _ h => h) (Or.inl ⟨by rfl, ?_⟩) hS2 ?_
                  · intro wq hw
                    go_simp
                  try simp only [Act.put, List.getElem_toArray, List.getElem_cons_succ, List.getElem_cons_zero, List.setIfInBounds_toArray, List.set_cons_zero, List.set_cons_succ]
                  refine wpAnyH_ready (rs := [18]) (by kernel_rfl) (by simp) ?_
                  refine AllReadyH.cons rfl (fun K hK => ?_) AllReadyH.nil
                  go_simp
                  refine hK.out _ _ (Below.alloc hS2 hS2.size _) (fun hS3 => ?_)
                  clear hK K
                  try simp only [Act.put, List.getElem_toArray, List.getElem_cons_succ, List.getElem_cons_zero, List.setIfInBounds_toArray, List.set_cons_zero, List.set_cons_succ]
                  refine wpAnyH_ready (rs := [19]) (by kernel_rfl) (by simp) ?_
                  refine AllReadyH.cons rfl (fun K hK => ?_) AllReadyH.nil
                  rw [if_pos (by rfl)]
                  have hX : (y8.alloc (.cells #[.int .i64 0, .bool false, .bool false, .bool false, .bool false, .int .i64 0] 72)).heap[y8.heap.size]? = some (.cells #[.int .i64 0, .bool false, .bool false, .bool false, .bool false, .int .i64 0] 72 (0, 0)) := heap_alloc_at _ _
                  have hge : wc.heap.size ≤ y8.heap.size := hS2.size
                  refine wp_store_row 72 _ _ rfl (y8.heap.size) #[.int .i64 f2, .bool d21, .bool d22, .bool d23, .bool d24, .int .i64 l2] rfl rfl 72 _ hX hi72 rfl (by simp [Value.oneCell']) ?_
                  have hbs : Below wc.heap.size wc ((y8.alloc (.cells #[.int .i64 0, .bool false, .bool false, .bool false, .bool false, .int .i64 0] 72)).setRow (y8.heap.size) #[.int .i64 f2, .bool d21, .bool d22, .bool d23, .bool d24, .int .i64 l2]) := Below.trans hS3 ⟨rfl, rfl, rfl, by simp [World.setRow], fun k hk => setRow_other _ _ k _ (by omega)⟩
                  refine hK.out _ _ hbs (fun hS4 => ?_)
                  clear hK K hX hge
                  try simp only [Act.put, List.getElem_toArray, List.getElem_cons_succ, List.getElem_cons_zero]
                  refine wpAnyH_take (i := 20) (v := .bool w') rfl (by kernel_rfl) (by kernel_rfl) (by kernel_rfl) (fun _ _ _ h => h) (Or.inl ⟨by rfl, ?_⟩) hS4 ?_
                  · intro wq hw
                    go_simp
                  try simp only [Act.put, List.getElem_toArray, List.getElem_cons_succ, List.getElem_cons_zero, List.setIfInBounds_toArray, List.set_cons_zero, List.set_cons_succ]
                  refine wpAnyH_done (by kernel_rfl) ?_ _
                  go_wp2_with fail
                  go_meet
                  case rel => exact ⟨rfl, hS4⟩
                · go_simp
                  refine hK.out _ _ (Below.alloc hS1 hS1.size _) (fun hS2 => ?_)
                  clear hK K
                  try simp only [Act.put, List.getElem_toArray, List.getElem_cons_succ, List.getElem_cons_zero, List.setIfInBounds_toArray, List.set_cons_zero, List.set_cons_succ]
                  refine wpAnyH_ready (rs := [14]) (by kernel_rfl) (by simp) ?_
                  refine AllReadyH.cons rfl (fun K hK => ?_) AllReadyH.nil
                  have CC := ON2.out _ (HKS2.out _ hS2).1.sx
                  go_simp
                  go_wp2_with (go_at_call 21; refine CC.mono ?_; rintro e y8 ⟨rfl, hbo⟩)
                  refine hK.out _ _ (Below.trans hS2 (hbo.mono hS2.size)) (fun hS3 => ?_)
                  clear hK K CC
                  try simp only [Act.put, List.getElem_toArray, List.getElem_cons_succ, List.getElem_cons_zero, List.setIfInBounds_toArray, List.set_cons_zero, List.set_cons_succ]
                  refine wpAnyH_take (i := 15) (v := .tuple #[.agg #[.int .i64 f2, .bool d21, .bool d22, .bool d23, .bool d24, .int .i64 l2], .bool w']) rfl (by kernel_rfl) (by kernel_rfl) (by kernel_rfl) (fun _ _ _ h => h) (Or.inl ⟨by rfl, ?_⟩) hS3 ?_
                  · intro wq hw
                    go_simp
                  try simp only [Act.put, List.getElem_toArray, List.getElem_cons_succ, List.getElem_cons_zero, List.setIfInBounds_toArray, List.set_cons_zero, List.set_cons_succ]
                  refine wpAnyH_take (i := 16) (v := .agg #[.int .i64 f2, .bool d21, .bool d22, .bool d23, .bool d24, .int .i64 l2]) rfl (by kernel_rfl) (by kernel_rfl) (by kernel_rfl) (fun _ _ _ h => h) (Or.inl ⟨by rfl, ?_⟩) hS3 ?_
                  · intro wq hw
                    go_simp
                  try simp only [Act.put, List.getElem_toArray, List.getElem_cons_succ, List.getElem_cons_zero, List.setIfInBounds_toArray, List.set_cons_zero, List.set_cons_succ]
                  refine wpAnyH_take (i := 17) (v := .bool w') rfl (by kernel_rfl) (by kernel_rfl) (by kernel_rfl) (fun _ _ _ h => h) (Or.inl ⟨by rfl, ?_⟩) hS3 ?_
                  · intro wq hw
                    go_simp
                  try simp only [Act.put, List.getElem_toArray, List.getElem_cons_succ, List.getElem_cons_zero, List.setIfInBounds_toArray, List.set_cons_zero, List.set_cons_succ]
                  refine wpAnyH_ready (rs := [19]) (by kernel_rfl) (by simp) ?_
                  refine AllReadyH.cons rfl (fun K hK => ?_) AllReadyH.nil
                  rw [if_pos (by rfl)]
                  have hX : (y8).heap[wc.heap.size]? = some (.cells #[.int .i64 0, .bool false, .bool false, .bool false, .bool false, .int .i64 0] 72 (0, 0)) := (hbo.block _ (by simp)).trans (heap_alloc_at wc.drew _)
                  have hge : wc.heap.size ≤ wc.heap.size := Nat.le_refl _
                  refine wp_store_row 72 _ _ rfl (wc.heap.size) #[.int .i64 f2, .bool d21, .bool d22, .bool d23, .bool d24, .int .i64 l2] rfl rfl 72 _ hX hi72 rfl (by simp [Value.oneCell']) ?_
                  have hbs : Below wc.heap.size wc ((y8).setRow (wc.heap.size) #[.int .i64 f2, .bool d21, .bool d22, .bool d23, .bool d24, .int .i64 l2]) := Below.trans hS3 ⟨rfl, rfl, rfl, by simp [World.setRow], fun k hk => setRow_other _ _ k _ (by omega)⟩
                  refine hK.out _ _ hbs (fun hS4 => ?_)
                  clear hK K hX hge
                  try simp only [Act.put, List.getElem_toArray, List.getElem_cons_succ, List.getElem_cons_zero]
                  refine wpAnyH_take (i := 20) (v := .bool w') rfl (by kernel_rfl) (by kernel_rfl) (by kernel_rfl) (fun _ _ _ h => h) (Or.inl ⟨by rfl, ?_⟩) hS4 ?_
                  · intro wq hw
                    go_simp
                  try simp only [Act.put, List.getElem_toArray, List.getElem_cons_succ, List.getElem_cons_zero, List.setIfInBounds_toArray, List.set_cons_zero, List.set_cons_succ]
                  refine wpAnyH_done (by kernel_rfl) ?_ _
                  go_wp2_with fail
                  go_meet
                  case rel => exact ⟨rfl, hS4⟩
              · go_simp
                refine hK.out _ _ (Below.alloc hS0 hS0.size _) (fun hS1 => ?_)
                clear hK K
                try simp only [Act.put, List.getElem_toArray, List.getElem_cons_succ, List.getElem_cons_zero, List.setIfInBounds_toArray, List.set_cons_zero, List.set_cons_succ]
                refine wpAnyH_ready (rs := [10]) (by kernel_rfl) (by simp) ?_
                refine AllReadyH.cons rfl (fun K hK => ?_) AllReadyH.nil
                have CC := RT.out _ (HKS2.out _ hS1).1.sx
                go_simp
                go_wp2_with (go_at_call 9; refine CC.mono ?_; rintro e y1 ⟨rfl, rfl⟩)
                refine hK.out _ _ hS1 (fun hS2 => ?_)
                clear hK K CC
                try simp only [Act.put, List.getElem_toArray, List.getElem_cons_succ, List.getElem_cons_zero, List.setIfInBounds_toArray, List.set_cons_zero, List.set_cons_succ]
                refine wpAnyH_ready (rs := [14]) (by kernel_rfl) (by simp) ?_
                refine AllReadyH.cons rfl (fun K hK => ?_) AllReadyH.nil
                have CC := ON2.out _ (HKS2.out _ hS2).1.sx
                go_simp
                go_wp2_with (go_at_call 21; refine CC.mono ?_; rintro e y8 ⟨rfl, hbo⟩)
                refine hK.out _ _ (Below.trans hS2 (hbo.mono hS2.size)) (fun hS3 => ?_)
                clear hK K CC
                try simp only [Act.put, List.getElem_toArray, List.getElem_cons_succ, List.getElem_cons_zero, List.setIfInBounds_toArray, List.set_cons_zero, List.set_cons_succ]
                refine wpAnyH_take (i := 15) (v := .tuple #[.agg #[.int .i64 f2, .bool d21, .bool d22, .bool d23, .bool d24, .int .i64 l2], .bool w']) rfl (by kernel_rfl) (by kernel_rfl) (by kernel_rfl) (fun _ _ _ h => h) (Or.inl ⟨by rfl, ?_⟩) hS3 ?_
                · intro wq hw
                  go_simp
                try simp only [Act.put, List.getElem_toArray, List.getElem_cons_succ, List.getElem_cons_zero, List.setIfInBounds_toArray, List.set_cons_zero, List.set_cons_succ]
                refine wpAnyH_take (i := 16) (v := .agg #[.int .i64 f2, .bool d21, .bool d22, .bool d23, .bool d24, .int .i64 l2]) rfl (by kernel_rfl) (by kernel_rfl) (by kernel_rfl) (fun _ _ _ h => h) (Or.inl ⟨by rfl, ?_⟩) hS3 ?_
                · intro wq hw
                  go_simp
                try simp only [Act.put, List.getElem_toArray, List.getElem_cons_succ, List.getElem_cons_zero, List.setIfInBounds_toArray, List.set_cons_zero, List.set_cons_succ]
                refine wpAnyH_take (i := 17) (v := .bool w') rfl (by kernel_rfl) (by kernel_rfl) (by kernel_rfl) (fun _ _ _ h => h) (Or.inl ⟨by rfl, ?_⟩) hS3 ?_
                · intro wq hw
                  go_simp
                try simp only [Act.put, List.getElem_toArray, List.getElem_cons_succ, List.getElem_cons_zero, List.setIfInBounds_toArray, List.set_cons_zero, List.set_cons_succ]
                refine wpAnyH_ready (rs := [19]) (by kernel_rfl) (by simp) ?_
                refine AllReadyH.cons rfl (fun K hK => ?_) AllReadyH.nil
                rw [if_pos (by rfl)]
                have hX : (y8).heap[wc.heap.size]? = some (.cells #[.int .i64 0, .bool false, .bool false, .bool false, .bool false, .int .i64 0] 72 (0, 0)) := (hbo.block _ (by simp)).trans (heap_alloc_at wc.drew _)
                have hge : wc.heap.size ≤ wc.heap.size := Nat.le_refl _
                refine wp_store_row 72 _ _ rfl (wc.heap.size) #[.int .i64 f2, .bool d21, .bool d22, .bool d23, .bool d24, .int .i64 l2] rfl rfl 72 _ hX hi72 rfl (by simp [Value.oneCell']) ?_
                have hbs : Below wc.heap.size wc ((y8).setRow (wc.heap.size) #[.int .i64 f2, .bool d21, .bool d22, .bool d23, .bool d24, .int .i64 l2]) := Below.trans hS3 ⟨rfl, rfl, rfl, by simp [World.setRow], fun k hk => setRow_other _ _ k _ (by omega)⟩
                refine hK.out _ _ hbs (fun hS4 => ?_)
                clear hK K hX hge
                try simp only [Act.put, List.getElem_toArray, List.getElem_cons_succ, List.getElem_cons_zero]
                refine wpAnyH_take (i := 20) (v := .bool w') rfl (by kernel_rfl) (by kernel_rfl) (by kernel_rfl) (fun _ _ _ h => h) (Or.inl ⟨by rfl, ?_⟩) hS4 ?_
                · intro wq hw
                  go_simp
                try simp only [Act.put, List.getElem_toArray, List.getElem_cons_succ, List.getElem_cons_zero, List.setIfInBounds_toArray, List.set_cons_zero, List.set_cons_succ]
                refine wpAnyH_done (by kernel_rfl) ?_ _
                go_wp2_with fail
                go_meet
                case rel => exact ⟨rfl, hS4⟩
            case rest =>
              obtain ⟨rfl, hwc⟩ := hcut
              have H9 : Hid (RS w wc B Q b g D T0 L0 1 24 O z ∧ B3 wc K r' w' x') := HKS2.out _ hwc
              clear q0 q1 q2 lQ HKS2 hwc
              obtain ⟨k0, k1, k2, lK⟩ := H9.out.2.cs
              go_wp2_with fail
              go_roundw
              case rel => exact ⟨j + 1, by omega, by go_num, z, r', w', x', H9.out.1, HY.out.1, HY.out.2, H9.out.2⟩
              case measure => simp [intOf]; omega
        · obtain ⟨e1, e2, e3⟩ := pt hm
          rw [e1] at C5
          generalize prZ z P A Bb C = z5 at *
          have HI5 : Hid (Iv 24 O z5 ∧ z5.x.rt = 1 ∧ z5.x.pg P = some ⟨3, A, Bb, C⟩) := ⟨iP, e3, e2⟩
          clear pt pf iP e1 e2 e3
          go_wp2_with fail
          go_region_held2 (fun W => W.cell? ⟨Q, 2, none⟩ = some (.pointer (some ⟨T0, 0, none⟩)) ∧ W.cell? ⟨K2, 0, none⟩ = some (.bool A) ∧ W.cell? ⟨K2, 1, none⟩ = some (.bool Bb) ∧ W.cell? ⟨K2, 2, none⟩ = some (.bool C))
            (first | exact ⟨q2, j0, j1, j2⟩ | exact hc2)
            (first
              | (go_at_call 11; refine C5.mono ?_; rintro q y5 ⟨rfl, h5, t5⟩; (have H5 : Hid (RS w y5 B Q b g D T0 L0 1 24 O z5 ∧ B3 y5 K r' w' x' ∧ B3 y5 K2 A Bb C) := ⟨(H4.out.1.below (Below.refl _ _).drew).tn h5 HI5.out.1 t5, (H4.out.2.1.below (Below.refl _ _).drew).tn t5 (H4.out.1.sx.not3 H4.out.2.1), (H4.out.2.2.below (Below.refl _ _).drew).tn t5 (H4.out.1.sx.not3 H4.out.2.2)⟩); (have hc2 := And.intro H5.out.1.cs.2.2.1 (And.intro H5.out.2.2.cs.1 (And.intro H5.out.2.2.cs.2.1 H5.out.2.2.cs.2.2.1)))))
          clear h5 t5 hc2 C5 H4 q0 q1 q2 lQ k0 k1 k2 lK j0 j1 j2 lJ HX
          obtain ⟨q0, q1, q2, lQ⟩ := H5.out.1.cs
          obtain ⟨k0, k1, k2, lK⟩ := H5.out.2.1.cs
          obtain ⟨g0, g1, g2⟩ := H5.out.2.1.fs
          obtain ⟨j0, j1, j2, lJ⟩ := H5.out.2.2.cs
          have nQK : Q ≠ K := by
            obtain ⟨q, q1', _⟩ := H5.out.1.wb
            exact ne_typ q1' H5.out.2.1 (by decide)
          have H6 : Hid (RS w (((y5.setCell ⟨K, 0, none⟩ (.bool A)).setCell ⟨K, 1, none⟩ (.bool Bb)).setCell ⟨K, 2, none⟩ (.bool C)) B Q b g D T0 L0 1 24 O z5 ∧ z5.x.rt = 1 ∧ z5.x.pg P = some ⟨3, A, Bb, C⟩ ∧ B3 (((y5.setCell ⟨K, 0, none⟩ (.bool A)).setCell ⟨K, 1, none⟩ (.bool Bb)).setCell ⟨K, 2, none⟩ (.bool C)) K A Bb C) := by
            have r1 := H5.out.1.box H5.out.2.1 hw3 0 (.bool A) p1
            have b1 := H5.out.2.1.set0 A
            have r2 := r1.box b1 hw3 1 (.bool Bb) p1
            have b2 := b1.set1 Bb
            have r3 := r2.box b2 hw3 2 (.bool C) p1
            exact ⟨r3, HI5.out.2.1, HI5.out.2.2, b2.set2 C⟩
          go_upto_region 19 with fail
          clear q0 q1 q2 lQ k0 k1 k2 lK g0 g1 g2 j0 j1 j2 lJ nQK HI5 H5
          generalize (((y5.setCell ⟨K, 0, none⟩ (.bool A)).setCell ⟨K, 1, none⟩ (.bool Bb)).setCell ⟨K, 2, none⟩ (.bool C)) = y6 at *
          have lk : lkV z5 P = .tuple #[.int .i64 3, .agg #[.bool A, .bool Bb, .bool C], .bool true] := by
            unfold lkV
            rw [if_pos (by unfold unQ; rw [if_neg (by have := H6.out.2.1; omega), if_neg (not_not_intro ⟨by omega, by omega⟩), Int.toNat_natCast, H6.out.2.2.1]; rfl), Int.toNat_natCast, H6.out.2.2.1]
            rfl
          have CL := look_sx H6.out.1.sx H6.out.1.iv (P : Int)
          rw [lk] at CL
          clear lk
          obtain ⟨q0, q1, q2, lQ⟩ := H6.out.1.cs
          go_wp2_with fail
          refine CL.mono ?_
          rintro e w7 ⟨rfl, hb7⟩
          have H7 : Hid (RS w (w7.alloc (.cells #[.bool A, .bool Bb, .bool C] 23)) B Q b g D T0 L0 1 24 O z5 ∧ B3 (w7.alloc (.cells #[.bool A, .bool Bb, .bool C] 23)) K A Bb C) := by
            have hb := hb7.alloc hb7.size (.cells #[.bool A, .bool Bb, .bool C] 23)
            exact ⟨H6.out.1.below hb, H6.out.2.2.2.below hb⟩
          have HY : Hid (z5.x.rt = 1 ∧ z5.x.pg P = some ⟨3, A, Bb, C⟩) := ⟨H6.out.2.1, H6.out.2.2.1⟩
          have lK7 : K < w7.heap.size := by have := H6.out.2.2.2.below hb7; exact lt_of_heap this
          clear hb7 CL q0 q1 q2 lQ H6
          obtain ⟨k0, k1, k2, lK⟩ := H7.out.2.cs
          obtain ⟨q0, q1, q2, lQ⟩ := H7.out.1.cs
          obtain ⟨f1, d11, d12, d13, d14, l1, ON1⟩ : ∃ (f1 : Int) (d11 d12 d13 d14 : Bool) (l1 : Int), Hid (∀ W, SX B W b g D T0 L0 1 z5 → Calls Tryd.prog 21 #[.iface 27 (.pointer (some ⟨b, 0, none⟩)), .int .i64 1, .int .u64 tt, .int .i64 1, .bool true] W fun e W' => e = .returned (.tuple #[.agg #[.int .i64 f1, .bool d11, .bool d12, .bool d13, .bool d14, .int .i64 l1], .bool A]) ∧ Below W.heap.size W W') := by
            obtain ⟨f1, d1, d2, d3, d4, l1, he⟩ := oneV_eq (E.oneP z5.m 1 tt 1 true)
            have hs := (one_some H7.out.1.iv (by rw [HY.out.1]; decide) hP HY.out.2).1
            rw [HY.out.1, HT.out.1] at hs
            refine ⟨f1, d1, d2, d3, d4, l1, fun W hW => ?_⟩
            have := E.one_any tt 1 true 1 b g z5.m HT.out.2.1 HT.out.2.2 (by decide) W ⟨hW.sz, hW.bt, hW.mm⟩
            rw [he, hs] at this
            exact this
          obtain ⟨f2, d21, d22, d23, d24, l2, ON2⟩ : ∃ (f1 : Int) (d11 d12 d13 d14 : Bool) (l1 : Int), Hid (∀ W, SX B W b g D T0 L0 1 z5 → Calls Tryd.prog 21 #[.iface 27 (.pointer (some ⟨b, 0, none⟩)), .int .i64 1, .int .u64 tt, .int .i64 2, .bool true] W fun e W' => e = .returned (.tuple #[.agg #[.int .i64 f1, .bool d11, .bool d12, .bool d13, .bool d14, .int .i64 l1], .bool Bb]) ∧ Below W.heap.size W W') := by
            obtain ⟨f1, d1, d2, d3, d4, l1, he⟩ := oneV_eq (E.oneP z5.m 1 tt 2 true)
            have hs := (one_some H7.out.1.iv (by rw [HY.out.1]; decide) hP HY.out.2).2
            rw [HY.out.1, HT.out.1] at hs
            refine ⟨f1, d1, d2, d3, d4, l1, fun W hW => ?_⟩
            have := E.one_any tt 2 true 1 b g z5.m HT.out.2.1 HT.out.2.2 (by decide) W ⟨hW.sz, hW.bt, hW.mm⟩
            rw [he, hs] at this
            exact this
          have RT : Hid (∀ W, SX B W b g D T0 L0 1 z5 → Calls Tryd.prog 9 #[.pointer (some ⟨T0, 0, none⟩)] W fun e w' => e = .returned (.int .i64 1) ∧ w' = W) := fun W hW => by
            have := root_sx hW (by rw [HY.out.1]; decide)
            rwa [HY.out.1] at this
          go_upto_region 22 with fail
          generalize (w7.alloc (.cells #[.bool A, .bool Bb, .bool C] 23)) = y7 at *
          have HKS1 : Hid (∀ W, Below y7.heap.size y7 W → RS w W B Q b g D T0 L0 1 24 O z5 ∧ B3 W K A Bb C) := fun W hb => ⟨H7.out.1.below hb, H7.out.2.below hb⟩
          go_cut [17, 18] from 138 to 155 (fun u v wx => v = .bool A ∧ Below y7.heap.size y7 wx)
          case first =>
            have hS0 : Below y7.heap.size y7 y7.drew := (Below.refl _ _).drew
            have hi72 : (Tryd.prog.info? 72).map (·.size) = some 6 := by kernel_rfl
            refine wp_region_held_drew (S := fun W : World => Below y7.heap.size y7 W) (by kernel_rfl) hS0 (fun _ => ?_)
            refine wpAnyH_take (i := 0) (v := .pointer (some ⟨Q, 0, none⟩)) rfl (by kernel_rfl) (by kernel_rfl) (by kernel_rfl) (fun _ _ _ h => h) (Or.inl ⟨by rfl, ?_⟩) hS0 ?_
            · intro wq hw
              go_simp
            try simp only [Act.put, List.getElem_toArray, List.getElem_cons_zero, List.setIfInBounds_toArray, List.set_cons_zero, List.set_cons_succ]
            refine wpAnyH_take (i := 1) (v := .pointer (some ⟨Q, 0, none⟩)) rfl (by kernel_rfl) (by kernel_rfl) (by kernel_rfl) (fun _ _ _ h => h) (Or.inl ⟨by rfl, ?_⟩) hS0 ?_
            · intro wq hw
              go_simp
            try simp only [Act.put, List.getElem_toArray, List.getElem_cons_succ, List.getElem_cons_zero, List.setIfInBounds_toArray, List.set_cons_zero, List.set_cons_succ]
            refine wpAnyH_take (i := 2) (v := .pointer (some ⟨Q, 0, none⟩)) rfl (by kernel_rfl) (by kernel_rfl) (by kernel_rfl) (fun _ _ _ h => h) (Or.inl ⟨by rfl, ?_⟩) hS0 ?_
            · intro wq hw
              go_simp
            try simp only [Act.put, List.getElem_toArray, List.getElem_cons_succ, List.getElem_cons_zero, List.setIfInBounds_toArray, List.set_cons_zero, List.set_cons_succ]
            refine wpAnyH_take (i := 3) (v := .pointer (some ⟨b, 0, none⟩)) rfl (by kernel_rfl) (by kernel_rfl) (by kernel_rfl) (fun _ _ _ h => h) (Or.inl ⟨by rfl, ?_⟩) hS0 ?_
            · intro wq hw
              have hc := ((hw : Below y7.heap.size y7 wq).cell (p := ⟨Q, 0, none⟩) lQ).trans q0
              have hl := lt_cell' hc
              go_simp
            try simp only [Act.put, List.getElem_toArray, List.getElem_cons_succ, List.getElem_cons_zero, List.setIfInBounds_toArray, List.set_cons_zero, List.set_cons_succ]
            refine wpAnyH_take (i := 4) (v := .iface 27 (.pointer (some ⟨b, 0, none⟩))) rfl (by kernel_rfl) (by kernel_rfl) (by kernel_rfl) (fun _ _ _ h => h) (Or.inl ⟨by rfl, ?_⟩) hS0 ?_
            · intro wq hw
              go_simp
            try simp only [Act.put, List.getElem_toArray, List.getElem_cons_succ, List.getElem_cons_zero, List.setIfInBounds_toArray, List.set_cons_zero, List.set_cons_succ]
            refine wpAnyH_take (i := 5) (v := .pointer (some ⟨Q, 0, none⟩)) rfl (by kernel_rfl) (by kernel_rfl) (by kernel_rfl) (fun _ _ _ h => h) (Or.inl ⟨by rfl, ?_⟩) hS0 ?_
            · intro wq hw
              go_simp
            try simp only [Act.put, List.getElem_toArray, List.getElem_cons_succ, List.getElem_cons_zero, List.setIfInBounds_toArray, List.set_cons_zero, List.set_cons_succ]
            refine wpAnyH_take (i := 6) (v := .pointer (some ⟨Q, 0, none⟩)) rfl (by kernel_rfl) (by kernel_rfl) (by kernel_rfl) (fun _ _ _ h => h) (Or.inl ⟨by rfl, ?_⟩) hS0 ?_
            · intro wq hw
              go_simp
            try simp only [Act.put, List.getElem_toArray, List.getElem_cons_succ, List.getElem_cons_zero, List.setIfInBounds_toArray, List.set_cons_zero, List.set_cons_succ]
            refine wpAnyH_take (i := 7) (v := .pointer (some ⟨Q, 2, none⟩)) rfl (by kernel_rfl) (by kernel_rfl) (by kernel_rfl) (fun _ _ _ h => h) (Or.inl ⟨by rfl, ?_⟩) hS0 ?_
            · intro wq hw
              go_simp
            try simp only [Act.put, List.getElem_toArray, List.getElem_cons_succ, List.getElem_cons_zero, List.setIfInBounds_toArray, List.set_cons_zero, List.set_cons_succ]
            refine wpAnyH_take (i := 8) (v := .pointer (some ⟨Q, 2, none⟩)) rfl (by kernel_rfl) (by kernel_rfl) (by kernel_rfl) (fun _ _ _ h => h) (Or.inl ⟨by rfl, ?_⟩) hS0 ?_
            · intro wq hw
              go_simp
            try simp only [Act.put, List.getElem_toArray, List.getElem_cons_succ, List.getElem_cons_zero, List.setIfInBounds_toArray, List.set_cons_zero, List.set_cons_succ]
            refine wpAnyH_take (i := 9) (v := .pointer (some ⟨T0, 0, none⟩)) rfl (by kernel_rfl) (by kernel_rfl) (by kernel_rfl) (fun _ _ _ h => h) (Or.inl ⟨by rfl, ?_⟩) hS0 ?_
            · intro wq hw
              have hc := ((hw : Below y7.heap.size y7 wq).cell (p := ⟨Q, 2, none⟩) lQ).trans q2
              have hl := lt_cell' hc
              go_simp
            try simp only [Act.put, List.getElem_toArray, List.getElem_cons_succ, List.getElem_cons_zero, List.setIfInBounds_toArray, List.set_cons_zero, List.set_cons_succ]
            refine wpAnyH_take (i := 11) (v := .int .i64 P) rfl (by kernel_rfl) (by kernel_rfl) (by kernel_rfl) (fun _ _ _ h => h) (Or.inl ⟨by rfl, ?_⟩) hS0 ?_
            · intro wq hw
              go_simp
            try simp only [Act.put, List.getElem_toArray, List.getElem_cons_succ, List.getElem_cons_zero, List.setIfInBounds_toArray, List.set_cons_zero, List.set_cons_succ]
            refine wpAnyH_take (i := 12) (v := .int .i64 tt) rfl (by kernel_rfl) (by kernel_rfl) (by kernel_rfl) (fun _ _ _ h => h) (Or.inl ⟨by rfl, ?_⟩) hS0 ?_
            · intro wq hw
              go_simp
            try simp only [Act.put, List.getElem_toArray, List.getElem_cons_succ, List.getElem_cons_zero, List.setIfInBounds_toArray, List.set_cons_zero, List.set_cons_succ]
            refine wpAnyH_take (i := 13) (v := .int .u64 tt) rfl (by kernel_rfl) (by kernel_rfl) (by kernel_rfl) (fun _ _ _ h => h) (Or.inl ⟨by rfl, ?_⟩) hS0 ?_
            · intro wq hw
              go_simp
            try simp only [Act.put, List.getElem_toArray, List.getElem_cons_succ, List.getElem_cons_zero, List.setIfInBounds_toArray, List.set_cons_zero, List.set_cons_succ]
            refine wpAnyH_ready (rs := [10, 18]) (by kernel_rfl) (by simp) ?_
            refine AllReadyH.cons rfl (fun K hK => ?_) (AllReadyH.cons rfl (fun K hK => ?_) AllReadyH.nil)
            · have CC := RT.out _ (HKS1.out _ hS0).1.sx
              go_simp
              go_wp2_with (go_at_call 9; refine CC.mono ?_; rintro e y1 ⟨rfl, rfl⟩)
              refine hK.out _ _ hS0 (fun hS1 => ?_)
              clear hK K CC
              try simp only [Act.put, List.getElem_toArray, List.getElem_cons_succ, List.getElem_cons_zero, List.setIfInBounds_toArray, List.set_cons_zero, List.set_cons_succ]
              refine wpAnyH_ready (rs := [14, 18]) (by kernel_rfl) (by simp) ?_
              refine AllReadyH.cons rfl (fun K hK => ?_) (AllReadyH.cons rfl (fun K hK => ?_) AllReadyH.nil)
              · have CC := ON1.out _ (HKS1.out _ hS1).1.sx
                go_simp
                go_wp2_with (go_at_call 21; refine CC.mono ?_; rintro e y8 ⟨rfl, hbo⟩)
                refine hK.out _ _ (Below.trans hS1 (hbo.mono hS1.size)) (fun hS2 => ?_)
                clear hK K CC
                try simp only [Act.put, List.getElem_toArray, List.getElem_cons_succ, List.getElem_cons_zero, List.setIfInBounds_toArray, List.set_cons_zero, List.set_cons_succ]
                refine wpAnyH_take (i := 15) (v := .tuple #[.agg #[.int .i64 f1, .bool d11, .bool d12, .bool d13, .bool d14, .int .i64 l1], .bool A]) rfl (by kernel_rfl) (by kernel_rfl) (by kernel_rfl) (fun _ _ _ h => h) (Or.inl ⟨by rfl, ?_⟩) hS2 ?_
                · intro wq hw
                  go_simp
                try simp only [Act.put, List.getElem_toArray, List.getElem_cons_succ, List.getElem_cons_zero, List.setIfInBounds_toArray, List.set_cons_zero, List.set_cons_succ]
                refine wpAnyH_take (i := 16) (v := .agg #[.int .i64 f1, .bool d11, .bool d12, .bool d13, .bool d14, .int .i64 l1]) rfl (by kernel_rfl) (by kernel_rfl) (by kernel_rfl) (fun _ _ _ h => h) (Or.inl ⟨by rfl, ?_⟩) hS2 ?_
                · intro wq hw
                  go_simp
                try simp only [Act.put, List.getElem_toArray, List.getElem_cons_succ, List.getElem_cons_zero, List.setIfInBounds_toArray, List.set_cons_zero, List.set_cons_succ]
                refine wpAnyH_take (i := 17) (v := .bool A) rfl (by kernel_rfl) (by kernel_rfl) (by kernel_rfl) (fun _ _ _ h => h) (Or.inl ⟨by rfl, ?_⟩) hS2 ?_
                · intro wq hw
                  go_simp
                try simp only [Act.put, List.getElem_toArray, List.getElem_cons_succ, List.getElem_cons_zero, List.setIfInBounds_toArray, List.set_cons_zero, List.set_cons_succ]
                refine wpAnyH_ready (rs := [18]) (by kernel_rfl) (by simp) ?_
                refine AllReadyH.cons rfl (fun K hK => ?_) AllReadyH.nil
                go_simp
                refine hK.out _ _ (Below.alloc hS2 hS2.size _) (fun hS3 => ?_)
                clear hK K
                try simp only [Act.put, List.getElem_toArray, List.getElem_cons_succ, List.getElem_cons_zero, List.setIfInBounds_toArray, List.set_cons_zero, List.set_cons_succ]
                refine wpAnyH_ready (rs := [19]) (by kernel_rfl) (by simp) ?_
                refine AllReadyH.cons rfl (fun K hK => ?_) AllReadyH.nil
                rw [if_pos (by rfl)]
                have hX : (y8.alloc (.cells #[.int .i64 0, .bool false, .bool false, .bool false, .bool false, .int .i64 0] 72)).heap[y8.heap.size]? = some (.cells #[.int .i64 0, .bool false, .bool false, .bool false, .bool false, .int .i64 0] 72 (0, 0)) := heap_alloc_at _ _
                have hge : y7.heap.size ≤ y8.heap.size := hS2.size
                refine wp_store_row 72 _ _ rfl (y8.heap.size) #[.int .i64 f1, .bool d11, .bool d12, .bool d13, .bool d14, .int .i64 l1] rfl rfl 72 _ hX hi72 rfl (by simp [Value.oneCell']) ?_
                have hbs : Below y7.heap.size y7 ((y8.alloc (.cells #[.int .i64 0, .bool false, .bool false, .bool false, .bool false, .int .i64 0] 72)).setRow (y8.heap.size) #[.int .i64 f1, .bool d11, .bool d12, .bool d13, .bool d14, .int .i64 l1]) := Below.trans hS3 ⟨rfl, rfl, rfl, by simp [World.setRow], fun k hk => setRow_other _ _ k _ (by omega)⟩
                refine hK.out _ _ hbs (fun hS4 => ?_)
                clear hK K hX hge
                try simp only [Act.put, List.getElem_toArray, List.getElem_cons_succ, List.getElem_cons_zero]
                refine wpAnyH_take (i := 20) (v := .bool A) rfl (by kernel_rfl) (by kernel_rfl) (by kernel_rfl) (fun _ _ _ h => h) (Or.inl ⟨by rfl, ?_⟩) hS4 ?_
                · intro wq hw
                  go_simp
                try simp only [Act.put, List.getElem_toArray, List.getElem_cons_succ, List.getElem_cons_zero, List.setIfInBounds_toArray, List.set_cons_zero, List.set_cons_succ]
                refine wpAnyH_done (by kernel_rfl) ?_ _
                go_wp2_with fail
                go_meet
                case rel => exact ⟨rfl, hS4⟩
              · go_simp
                refine hK.out _ _ (Below.alloc hS1 hS1.size _) (fun hS2 => ?_)
                clear hK K
                try simp only [Act.put, List.getElem_toArray, List.getElem_cons_succ, List.getElem_cons_zero, List.setIfInBounds_toArray, List.set_cons_zero, List.set_cons_succ]
                refine wpAnyH_ready (rs := [14]) (by kernel_rfl) (by simp) ?_
                refine AllReadyH.cons rfl (fun K hK => ?_) AllReadyH.nil
                have CC := ON1.out _ (HKS1.out _ hS2).1.sx
                go_simp
                go_wp2_with (go_at_call 21; refine CC.mono ?_; rintro e y8 ⟨rfl, hbo⟩)
                refine hK.out _ _ (Below.trans hS2 (hbo.mono hS2.size)) (fun hS3 => ?_)
                clear hK K CC
                try simp only [Act.put, List.getElem_toArray, List.getElem_cons_succ, List.getElem_cons_zero, List.setIfInBounds_toArray, List.set_cons_zero, List.set_cons_succ]
                refine wpAnyH_take (i := 15) (v := .tuple #[.agg #[.int .i64 f1, .bool d11, .bool d12, .bool d13, .bool d14, .int .i64 l1], .bool A]) rfl (by kernel_rfl) (by kernel_rfl) (by kernel_rfl) (fun _ _ _ h => h) (Or.inl ⟨by rfl, ?_⟩) hS3 ?_
                · intro wq hw
                  go_simp
                try simp only [Act.put, List.getElem_toArray, List.getElem_cons_succ, List.getElem_cons_zero, List.setIfInBounds_toArray, List.set_cons_zero, List.set_cons_succ]
                refine wpAnyH_take (i := 16) (v := .agg #[.int .i64 f1, .bool d11, .bool d12, .bool d13, .bool d14, .int .i64 l1]) rfl (by kernel_rfl) (by kernel_rfl) (by kernel_rfl) (fun _ _ _ h => h) (Or.inl ⟨by rfl, ?_⟩) hS3 ?_
                · intro wq hw
                  go_simp
                try simp only [Act.put, List.getElem_toArray, List.getElem_cons_succ, List.getElem_cons_zero, List.setIfInBounds_toArray, List.set_cons_zero, List.set_cons_succ]
                refine wpAnyH_take (i := 17) (v := .bool A) rfl (by kernel_rfl) (by kernel_rfl) (by kernel_rfl) (fun _ _ _ h => h) (Or.inl ⟨by rfl, ?_⟩) hS3 ?_
                · intro wq hw
                  go_simp
                try simp only [Act.put, List.getElem_toArray, List.getElem_cons_succ, List.getElem_cons_zero, List.setIfInBounds_toArray, List.set_cons_zero, List.set_cons_succ]
                refine wpAnyH_ready (rs := [19]) (by kernel_rfl) (by simp) ?_
                refine AllReadyH.cons rfl (fun K hK => ?_) AllReadyH.nil
                rw [if_pos (by rfl)]
                have hX : (y8).heap[y7.heap.size]? = some (.cells #[.int .i64 0, .bool false, .bool false, .bool false, .bool false, .int .i64 0] 72 (0, 0)) := (hbo.block _ (by simp)).trans (heap_alloc_at y7.drew _)
                have hge : y7.heap.size ≤ y7.heap.size := Nat.le_refl _
                refine wp_store_row 72 _ _ rfl (y7.heap.size) #[.int .i64 f1, .bool d11, .bool d12, .bool d13, .bool d14, .int .i64 l1] rfl rfl 72 _ hX hi72 rfl (by simp [Value.oneCell']) ?_
                have hbs : Below y7.heap.size y7 ((y8).setRow (y7.heap.size) #[.int .i64 f1, .bool d11, .bool d12, .bool d13, .bool d14, .int .i64 l1]) := Below.trans hS3 ⟨rfl, rfl, rfl, by simp [World.setRow], fun k hk => setRow_other _ _ k _ (by omega)⟩
                refine hK.out _ _ hbs (fun hS4 => ?_)
                clear hK K hX hge
                try simp only [Act.put, List.getElem_toArray, List.getElem_cons_succ, List.getElem_cons_zero]
                refine wpAnyH_take (i := 20) (v := .bool A) rfl (by kernel_rfl) (by kernel_rfl) (by kernel_rfl) (fun _ _ _ h => h) (Or.inl ⟨by rfl, ?_⟩) hS4 ?_
                · intro wq hw
                  go_simp
                try simp only [Act.put, List.getElem_toArray, List.getElem_cons_succ, List.getElem_cons_zero, List.setIfInBounds_toArray, List.set_cons_zero, List.set_cons_succ]
                refine wpAnyH_done (by kernel_rfl) ?_ _
                go_wp2_with fail
                go_meet
                case rel => exact ⟨rfl, hS4⟩
            · go_simp
              refine hK.out _ _ (Below.alloc hS0 hS0.size _) (fun hS1 => ?_)
              clear hK K
              try simp only [Act.put, List.getElem_toArray, List.getElem_cons_succ, List.getElem_cons_zero, List.setIfInBounds_toArray, List.set_cons_zero, List.set_cons_succ]
              refine wpAnyH_ready (rs := [10]) (by kernel_rfl) (by simp) ?_
              refine AllReadyH.cons rfl (fun K hK => ?_) AllReadyH.nil
              have CC := RT.out _ (HKS1.out _ hS1).1.sx
              go_simp
              go_wp2_with (go_at_call 9; refine CC.mono ?_; rintro e y1 ⟨rfl, rfl⟩)
              refine hK.out _ _ hS1 (fun hS2 => ?_)
              clear hK K CC
              try simp only [Act.put, List.getElem_toArray, List.getElem_cons_succ, List.getElem_cons_zero, List.setIfInBounds_toArray, List.set_cons_zero, List.set_cons_succ]
              refine wpAnyH_ready (rs := [14]) (by kernel_rfl) (by simp) ?_
              refine AllReadyH.cons rfl (fun K hK => ?_) AllReadyH.nil
              have CC := ON1.out _ (HKS1.out _ hS2).1.sx
              go_simp
              go_wp2_with (go_at_call 21; refine CC.mono ?_; rintro e y8 ⟨rfl, hbo⟩)
              refine hK.out _ _ (Below.trans hS2 (hbo.mono hS2.size)) (fun hS3 => ?_)
              clear hK K CC
              try simp only [Act.put, List.getElem_toArray, List.getElem_cons_succ, List.getElem_cons_zero, List.setIfInBounds_toArray, List.set_cons_zero, List.set_cons_succ]
              refine wpAnyH_take (i := 15) (v := .tuple #[.agg #[.int .i64 f1, .bool d11, .bool d12, .bool d13, .bool d14, .int .i64 l1], .bool A]) rfl (by kernel_rfl) (by kernel_rfl) (by kernel_rfl) (fun _ _ _ h => h) (Or.inl ⟨by rfl, ?_⟩) hS3 ?_
              · intro wq hw
                go_simp
              try simp only [Act.put, List.getElem_toArray, List.getElem_cons_succ, List.getElem_cons_zero, List.setIfInBounds_toArray, List.set_cons_zero, List.set_cons_succ]
              refine wpAnyH_take (i := 16) (v := .agg #[.int .i64 f1, .bool d11, .bool d12, .bool d13, .bool d14, .int .i64 l1]) rfl (by kernel_rfl) (by kernel_rfl) (by kernel_rfl) (fun _ _ _ h => h) (Or.inl ⟨by rfl, ?_⟩) hS3 ?_
              · intro wq hw
                go_simp
              try simp only [Act.put, List.getElem_toArray, List.getElem_cons_succ, List.getElem_cons_zero, List.setIfInBounds_toArray, List.set_cons_zero, List.set_cons_succ]
              refine wpAnyH_take (i := 17) (v := .bool A) rfl (by kernel_rfl) (by kernel_rfl) (by kernel_rfl) (fun _ _ _ h => h) (Or.inl ⟨by rfl, ?_⟩) hS3 ?_
              · intro wq hw
                go_simp
              try simp only [Act.put, List.getElem_toArray, List.getElem_cons_succ, List.getElem_cons_zero, List.setIfInBounds_toArray, List.set_cons_zero, List.set_cons_succ]
              refine wpAnyH_ready (rs := [19]) (by kernel_rfl) (by simp) ?_
              refine AllReadyH.cons rfl (fun K hK => ?_) AllReadyH.nil
              rw [if_pos (by rfl)]
              have hX : (y8).heap[y7.heap.size]? = some (.cells #[.int .i64 0, .bool false, .bool false, .bool false, .bool false, .int .i64 0] 72 (0, 0)) := (hbo.block _ (by simp)).trans (heap_alloc_at y7.drew _)
              have hge : y7.heap.size ≤ y7.heap.size := Nat.le_refl _
              refine wp_store_row 72 _ _ rfl (y7.heap.size) #[.int .i64 f1, .bool d11, .bool d12, .bool d13, .bool d14, .int .i64 l1] rfl rfl 72 _ hX hi72 rfl (by simp [Value.oneCell']) ?_
              have hbs : Below y7.heap.size y7 ((y8).setRow (y7.heap.size) #[.int .i64 f1, .bool d11, .bool d12, .bool d13, .bool d14, .int .i64 l1]) := Below.trans hS3 ⟨rfl, rfl, rfl, by simp [World.setRow], fun k hk => setRow_other _ _ k _ (by omega)⟩
              refine hK.out _ _ hbs (fun hS4 => ?_)
              clear hK K hX hge
              try simp only [Act.put, List.getElem_toArray, List.getElem_cons_succ, List.getElem_cons_zero]
              refine wpAnyH_take (i := 20) (v := .bool A) rfl (by kernel_rfl) (by kernel_rfl) (by kernel_rfl) (fun _ _ _ h => h) (Or.inl ⟨by rfl, ?_⟩) hS4 ?_
              · intro wq hw
                go_simp
              try simp only [Act.put, List.getElem_toArray, List.getElem_cons_succ, List.getElem_cons_zero, List.setIfInBounds_toArray, List.set_cons_zero, List.set_cons_succ]
              refine wpAnyH_done (by kernel_rfl) ?_ _
              go_wp2_with fail
              go_meet
              case rel => exact ⟨rfl, hS4⟩
          case rest =>
            obtain ⟨rfl, hwc⟩ := hcut
            have HKS2 : Hid (∀ W, Below wc.heap.size wc W → RS w W B Q b g D T0 L0 1 24 O z5 ∧ B3 W K A Bb C) := fun W hb => HKS1.out W (hwc.trans (hb.mono hwc.size))
            have H8 := (HKS2.out _ (Below.refl _ _)).1.cs
            clear q0 q1 q2 lQ k0 k1 k2 lK H7 HKS1 hwc lK7
            obtain ⟨q0, q1, q2, lQ⟩ := H8
            go_upto_region 23 with fail
            go_cut [19, 20] from 156 to 173 (fun u v wx => v = .bool Bb ∧ Below wc.heap.size wc wx)
            case first =>
              have hS0 : Below wc.heap.size wc wc.drew := (Below.refl _ _).drew
              have hi72 : (Tryd.prog.info? 72).map (·.size) = some 6 := by kernel_rfl
              refine wp_region_held_drew (S := fun W : World => Below wc.heap.size wc W) (by kernel_rfl) hS0 (fun _ => ?_)
              refine wpAnyH_take (i := 0) (v := .pointer (some ⟨Q, 0, none⟩)) rfl (by kernel_rfl) (by kernel_rfl) (by kernel_rfl) (fun _ _ _ h => h) (Or.inl ⟨by rfl, ?_⟩) hS0 ?_
              · intro wq hw
                go_simp
              try simp only [Act.put, List.getElem_toArray, List.getElem_cons_zero, List.setIfInBounds_toArray, List.set_cons_zero, List.set_cons_succ]
              refine wpAnyH_take (i := 1) (v := .pointer (some ⟨Q, 0, none⟩)) rfl (by kernel_rfl) (by kernel_rfl) (by kernel_rfl) (fun _ _ _ h => h) (Or.inl ⟨by rfl, ?_⟩) hS0 ?_
              · intro wq hw
                go_simp
              try simp only [Act.put, List.getElem_toArray, List.getElem_cons_succ, List.getElem_cons_zero, List.setIfInBounds_toArray, List.set_cons_zero, List.set_cons_succ]
              refine wpAnyH_take (i := 2) (v := .pointer (some ⟨Q, 0, none⟩)) rfl (by kernel_rfl) (by kernel_rfl) (by kernel_rfl) (fun _ _ _ h => h) (Or.inl ⟨by rfl, ?_⟩) hS0 ?_
              · intro wq hw
                go_simp
              try simp only [Act.put, List.getElem_toArray, List.getElem_cons_succ, List.getElem_cons_zero, List.setIfInBounds_toArray, List.set_cons_zero, List.set_cons_succ]
              refine wpAnyH_take (i := 3) (v := .pointer (some ⟨b, 0, none⟩)) rfl (by kernel_rfl) (by kernel_rfl) (by kernel_rfl) (fun _ _ _ h => h) (Or.inl ⟨by rfl, ?_⟩) hS0 ?_
              · intro wq hw
                have hc := ((hw : Below wc.heap.size wc wq).cell (p := ⟨Q, 0, none⟩) lQ).trans q0
                have hl := lt_cell' hc
                go_simp
              try simp only [Act.put, List.getElem_toArray, List.getElem_cons_succ, List.getElem_cons_zero, List.setIfInBounds_toArray, List.set_cons_zero, List.set_cons_succ]
              refine wpAnyH_take (i := 4) (v := .iface 27 (.pointer (some ⟨b, 0, none⟩))) rfl (by kernel_rfl) (by kernel_rfl) (by kernel_rfl) (fun _ _ _ h => h) (Or.inl ⟨by rfl, ?_⟩) hS0 ?_
              · intro wq hw
                go_simp
              try simp only [Act.put, List.getElem_toArray, List.getElem_cons_succ, List.getElem_cons_zero, List.setIfInBounds_toArray, List.set_cons_zero, List.set_cons_succ]
              refine wpAnyH_take (i := 5) (v := .pointer (some ⟨Q, 0, none⟩)) rfl (by kernel_rfl) (by kernel_rfl) (by kernel_rfl) (fun _ _ _ h => h) (Or.inl ⟨by rfl, ?_⟩) hS0 ?_
              · intro wq hw
                go_simp
              try simp only [Act.put, List.getElem_toArray, List.getElem_cons_succ, List.getElem_cons_zero, List.setIfInBounds_toArray, List.set_cons_zero, List.set_cons_succ]
              refine wpAnyH_take (i := 6) (v := .pointer (some ⟨Q, 0, none⟩)) rfl (by kernel_rfl) (by kernel_rfl) (by kernel_rfl) (fun _ _ _ h => h) (Or.inl ⟨by rfl, ?_⟩) hS0 ?_
              · intro wq hw
                go_simp
              try simp only [Act.put, List.getElem_toArray, List.getElem_cons_succ, List.getElem_cons_zero, List.setIfInBounds_toArray, List.set_cons_zero, List.set_cons_succ]
              refine wpAnyH_take (i := 7) (v := .pointer (some ⟨Q, 2, none⟩)) rfl (by kernel_rfl) (by kernel_rfl) (by kernel_rfl) (fun _ _ _ h => h) (Or.inl ⟨by rfl, ?_⟩) hS0 ?_
              · intro wq hw
                go_simp
              try simp only [Act.put, List.getElem_toArray, List.getElem_cons_succ, List.getElem_cons_zero, List.setIfInBounds_toArray, List.set_cons_zero, List.set_cons_succ]
              refine wpAnyH_take (i := 8) (v := .pointer (some ⟨Q, 2, none⟩)) rfl (by kernel_rfl) (by kernel_rfl) (by kernel_rfl) (fun _ _ _ h => h) (Or.inl ⟨by rfl, ?_⟩) hS0 ?_
              · intro wq hw
                go_simp
              try simp only [Act.put, List.getElem_toArray, List.getElem_cons_succ, List.getElem_cons_zero, List.setIfInBounds_toArray, List.set_cons_zero, List.set_cons_succ]
              refine wpAnyH_take (i := 9) (v := .pointer (some ⟨T0, 0, none⟩)) rfl (by kernel_rfl) (by kernel_rfl) (by kernel_rfl) (fun _ _ _ h => h) (Or.inl ⟨by rfl, ?_⟩) hS0 ?_
              · intro wq hw
                have hc := ((hw : Below wc.heap.size wc wq).cell (p := ⟨Q, 2, none⟩) lQ).trans q2
                have hl := lt_cell' hc
                go_simp
              try simp only [Act.put, List.getElem_toArray, List.getElem_cons_succ, List.getElem_cons_zero, List.setIfInBounds_toArray, List.set_cons_zero, List.set_cons_succ]
              refine wpAnyH_take (i := 11) (v := .int .i64 P) rfl (by kernel_rfl) (by kernel_rfl) (by kernel_rfl) (fun _ _ _ h => h) (Or.inl ⟨by rfl, ?_⟩) hS0 ?_
              · intro wq hw
                go_simp
              try simp only [Act.put, List.getElem_toArray, List.getElem_cons_succ, List.getElem_cons_zero, List.setIfInBounds_toArray, List.set_cons_zero, List.set_cons_succ]
              refine wpAnyH_take (i := 12) (v := .int .i64 tt) rfl (by kernel_rfl) (by kernel_rfl) (by kernel_rfl) (fun _ _ _ h => h) (Or.inl ⟨by rfl, ?_⟩) hS0 ?_
              · intro wq hw
                go_simp
              try simp only [Act.put, List.getElem_toArray, List.getElem_cons_succ, List.getElem_cons_zero, List.setIfInBounds_toArray, List.set_cons_zero, List.set_cons_succ]
              refine wpAnyH_take (i := 13) (v := .int .u64 tt) rfl (by kernel_rfl) (by kernel_rfl) (by kernel_rfl) (fun _ _ _ h => h) (Or.inl ⟨by rfl, ?_⟩) hS0 ?_
              · intro wq hw
                go_simp
              try simp only [Act.put, List.getElem_toArray, List.getElem_cons_succ, List.getElem_cons_zero, List.setIfInBounds_toArray, List.set_cons_zero, List.set_cons_succ]
              refine wpAnyH_ready (rs := [10, 18]) (by kernel_rfl) (by simp) ?_
              refine AllReadyH.cons rfl (fun K hK => ?_) (AllReadyH.cons rfl (fun K hK => ?_) AllReadyH.nil)
              · have CC := RT.out _ (HKS2.out _ hS0).1.sx
                go_simp
                go_wp2_with (go_at_call 9; refine CC.mono ?_; rintro e y1 ⟨rfl, rfl⟩)
                refine hK.out _ _ hS0 (fun hS1 => ?_)
                clear hK K CC
                try simp only [Act.put, List.getElem_toArray, List.getElem_cons_succ, List.getElem_cons_zero, List.setIfInBounds_toArray, List.set_cons_zero, List.set_cons_succ]
                refine wpAnyH_ready (rs := [14, 18]) (by kernel_rfl) (by simp) ?_
                refine AllReadyH.cons rfl (fun K hK => ?_) (AllReadyH.cons rfl (fun K hK => ?_) AllReadyH.nil)
                · have CC := ON2.out _ (HKS2.out _ hS1).1.sx
                  go_simp
                  go_wp2_with (go_at_call 21; refine CC.mono ?_; rintro e y8 ⟨rfl, hbo⟩)
                  refine hK.out _ _ (Below.trans hS1 (hbo.mono hS1.size)) (fun hS2 => ?_)
                  clear hK K CC
                  try simp only [Act.put, List.getElem_toArray, List.getElem_cons_succ, List.getElem_cons_zero, List.setIfInBounds_toArray, List.set_cons_zero, List.set_cons_succ]
                  refine wpAnyH_take (i := 15) (v := .tuple #[.agg #[.int .i64 f2, .bool d21, .bool d22, .bool d23, .bool d24, .int .i64 l2], .bool Bb]) rfl (by kernel_rfl) (by kernel_rfl) (by kernel_rfl) (fun _ _ _ h => h) (Or.inl ⟨by rfl, ?_⟩) hS2 ?_
                  · intro wq hw
                    go_simp
                  try simp only [Act.put, List.getElem_toArray, List.getElem_cons_succ, List.getElem_cons_zero, List.setIfInBounds_toArray, List.set_cons_zero, List.set_cons_succ]
                  refine wpAnyH_take (i := 16) (v := .agg #[.int .i64 f2, .bool d21, .bool d22, .bool d23, .bool d24, .int .i64 l2]) rfl (by kernel_rfl) (by kernel_rfl) (by kernel_rfl) (fun _ _ _ h => h) (Or.inl ⟨by rfl, ?_⟩) hS2 ?_
                  · intro wq hw
                    go_simp
                  try simp only [Act.put, List.getElem_toArray, List.getElem_cons_succ, List.getElem_cons_zero, List.setIfInBounds_toArray, List.set_cons_zero, List.set_cons_succ]
                  refine wpAnyH_take (i := 17) (v := .bool Bb) rfl (by kernel_rfl) (by kernel_rfl) (by kernel_rfl) (fun _ _ _ h => h) (Or.inl ⟨by rfl, ?_⟩) hS2 ?_
                  · intro wq hw
                    go_simp
                  try simp only [Act.put, List.getElem_toArray, List.getElem_cons_succ, List.getElem_cons_zero, List.setIfInBounds_toArray, List.set_cons_zero, List.set_cons_succ]
                  refine wpAnyH_ready (rs := [18]) (by kernel_rfl) (by simp) ?_
                  refine AllReadyH.cons rfl (fun K hK => ?_) AllReadyH.nil
                  go_simp
                  refine hK.out _ _ (Below.alloc hS2 hS2.size _) (fun hS3 => ?_)
                  clear hK K
                  try simp only [Act.put, List.getElem_toArray, List.getElem_cons_succ, List.getElem_cons_zero, List.setIfInBounds_toArray, List.set_cons_zero, List.set_cons_succ]
                  refine wpAnyH_ready (rs := [19]) (by kernel_rfl) (by simp) ?_
                  refine AllReadyH.cons rfl (fun K hK => ?_) AllReadyH.nil
                  rw [if_pos (by rfl)]
                  have hX : (y8.alloc (.cells #[.int .i64 0, .bool false, .bool false, .bool false, .bool false, .int .i64 0] 72)).heap[y8.heap.size]? = some (.cells #[.int .i64 0, .bool false, .bool false, .bool false, .bool false, .int .i64 0] 72 (0, 0)) := heap_alloc_at _ _
                  have hge : wc.heap.size ≤ y8.heap.size := hS2.size
                  refine wp_store_row 72 _ _ rfl (y8.heap.size) #[.int .i64 f2, .bool d21, .bool d22, .bool d23, .bool d24, .int .i64 l2] rfl rfl 72 _ hX hi72 rfl (by simp [Value.oneCell']) ?_
                  have hbs : Below wc.heap.size wc ((y8.alloc (.cells #[.int .i64 0, .bool false, .bool false, .bool false, .bool false, .int .i64 0] 72)).setRow (y8.heap.size) #[.int .i64 f2, .bool d21, .bool d22, .bool d23, .bool d24, .int .i64 l2]) := Below.trans hS3 ⟨rfl, rfl, rfl, by simp [World.setRow], fun k hk => setRow_other _ _ k _ (by omega)⟩
                  refine hK.out _ _ hbs (fun hS4 => ?_)
                  clear hK K hX hge
                  try simp only [Act.put, List.getElem_toArray, List.getElem_cons_succ, List.getElem_cons_zero]
                  refine wpAnyH_take (i := 20) (v := .bool Bb) rfl (by kernel_rfl) (by kernel_rfl) (by kernel_rfl) (fun _ _ _ h => h) (Or.inl ⟨by rfl, ?_⟩) hS4 ?_
                  · intro wq hw
                    go_simp
                  try simp only [Act.put, List.getElem_toArray, List.getElem_cons_succ, List.getElem_cons_zero, List.setIfInBounds_toArray, List.set_cons_zero, List.set_cons_succ]
                  refine wpAnyH_done (by kernel_rfl) ?_ _
                  go_wp2_with fail
                  go_meet
                  case rel => exact ⟨rfl, hS4⟩
                · go_simp
                  refine hK.out _ _ (Below.alloc hS1 hS1.size _) (fun hS2 => ?_)
                  clear hK K
                  try simp only [Act.put, List.getElem_toArray, List.getElem_cons_succ, List.getElem_cons_zero, List.setIfInBounds_toArray, List.set_cons_zero, List.set_cons_succ]
                  refine wpAnyH_ready (rs := [14]) (by kernel_rfl) (by simp) ?_
                  refine AllReadyH.cons rfl (fun K hK => ?_) AllReadyH.nil
                  have CC := ON2.out _ (HKS2.out _ hS2).1.sx
                  go_simp
                  go_wp2_with (go_at_call 21; refine CC.mono ?_; rintro e y8 ⟨rfl, hbo⟩)
                  refine hK.out _ _ (Below.trans hS2 (hbo.mono hS2.size)) (fun hS3 => ?_)
                  clear hK K CC
                  try simp only [Act.put, List.getElem_toArray, List.getElem_cons_succ, List.getElem_cons_zero, List.setIfInBounds_toArray, List.set_cons_zero, List.set_cons_succ]
                  refine wpAnyH_take (i := 15) (v := .tuple #[.agg #[.int .i64 f2, .bool d21, .bool d22, .bool d23, .bool d24, .int .i64 l2], .bool Bb]) rfl (by kernel_rfl) (by kernel_rfl) (by kernel_rfl) (fun _ _ _ h => h) (Or.inl ⟨by rfl, ?_⟩) hS3 ?_
                  · intro wq hw
                    go_simp
                  try simp only [Act.put, List.getElem_toArray, List.getElem_cons_succ, List.getElem_cons_zero, List.setIfInBounds_toArray, List.set_cons_zero, List.set_cons_succ]
                  refine wpAnyH_take (i := 16) (v := .agg #[.int .i64 f2, .bool d21, .bool d22, .bool d23, .bool d24, .int .i64 l2]) rfl (by kernel_rfl) (by kernel_rfl) (by kernel_rfl) (fun _ _ _ h => h) (Or.inl ⟨by rfl, ?_⟩) hS3 ?_
                  · intro wq hw
                    go_simp
                  try simp only [Act.put, List.getElem_toArray, List.getElem_cons_succ, List.getElem_cons_zero, List.setIfInBounds_toArray, List.set_cons_zero, List.set_cons_succ]
                  refine wpAnyH_take (i := 17) (v := .bool Bb) rfl (by kernel_rfl) (by kernel_rfl) (by kernel_rfl) (fun _ _ _ h => h) (Or.inl ⟨by rfl, ?_⟩) hS3 ?_
                  · intro wq hw
                    go_simp
                  try simp only [Act.put, List.getElem_toArray, List.getElem_cons_succ, List.getElem_cons_zero, List.setIfInBounds_toArray, List.set_cons_zero, List.set_cons_succ]
                  refine wpAnyH_ready (rs := [19]) (by kernel_rfl) (by simp) ?_
                  refine AllReadyH.cons rfl (fun K hK => ?_) AllReadyH.nil
                  rw [if_pos (by rfl)]
                  have hX : (y8).heap[wc.heap.size]? = some (.cells #[.int .i64 0, .bool false, .bool false, .bool false, .bool false, .int .i64 0] 72 (0, 0)) := (hbo.block _ (by simp)).trans (heap_alloc_at wc.drew _)
                  have hge : wc.heap.size ≤ wc.heap.size := Nat.le_refl _
                  refine wp_store_row 72 _ _ rfl (wc.heap.size) #[.int .i64 f2, .bool d21, .bool d22, .bool d23, .bool d24, .int .i64 l2] rfl rfl 72 _ hX hi72 rfl (by simp [Value.oneCell']) ?_
                  have hbs : Below wc.heap.size wc ((y8).setRow (wc.heap.size) #[.int .i64 f2, .bool d21, .bool d22, .bool d23, .bool d24, .int .i64 l2]) := Below.trans hS3 ⟨rfl, rfl, rfl, by simp [World.setRow], fun k hk => setRow_other _ _ k _ (by omega)⟩
                  refine hK.out _ _ hbs (fun hS4 => ?_)
                  clear hK K hX hge
                  try simp only [Act.put, List.getElem_toArray, List.getElem_cons_succ, List.getElem_cons_zero]
                  refine wpAnyH_take (i := 20) (v := .bool Bb) rfl (by kernel_rfl) (by kernel_rfl) (by kernel_rfl) (fun _ _ _ h => h) (Or.inl ⟨by rfl, ?_⟩) hS4 ?_
                  · intro wq hw
                    go_simp
                  try simp only [Act.put, List.getElem_toArray, List.getElem_cons_succ, List.getElem_cons_zero, List.setIfInBounds_toArray, List.set_cons_zero, List.set_cons_succ]
                  refine wpAnyH_done (by kernel_rfl) ?_ _
                  go_wp2_with fail
                  go_meet
                  case rel => exact ⟨rfl, hS4⟩
              · go_simp
                refine hK.out _ _ (Below.alloc hS0 hS0.size _) (fun hS1 => ?_)
                clear hK K
                try simp only [Act.put, List.getElem_toArray, List.getElem_cons_succ, List.getElem_cons_zero, List.setIfInBounds_toArray, List.set_cons_zero, List.set_cons_succ]
                refine wpAnyH_ready (rs := [10]) (by kernel_rfl) (by simp) ?_
                refine AllReadyH.cons rfl (fun K hK => ?_) AllReadyH.nil
                have CC := RT.out _ (HKS2.out _ hS1).1.sx
                go_simp
                go_wp2_with (go_at_call 9; refine CC.mono ?_; rintro e y1 ⟨rfl, rfl⟩)
                refine hK.out _ _ hS1 (fun hS2 => ?_)
                clear hK K CC
                try simp only [Act.put, List.getElem_toArray, List.getElem_cons_succ, List.getElem_cons_zero, List.setIfInBounds_toArray, List.set_cons_zero, List.set_cons_succ]
                refine wpAnyH_ready (rs := [14]) (by kernel_rfl) (by simp) ?_
                refine AllReadyH.cons rfl (fun K hK => ?_) AllReadyH.nil
                have CC := ON2.out _ (HKS2.out _ hS2).1.sx
                go_simp
                go_wp2_with (go_at_call 21; refine CC.mono ?_; rintro e y8 ⟨rfl, hbo⟩)
                refine hK.out _ _ (Below.trans hS2 (hbo.mono hS2.size)) (fun hS3 => ?_)
                clear hK K CC
                try simp only [Act.put, List.getElem_toArray, List.getElem_cons_succ, List.getElem_cons_zero, List.setIfInBounds_toArray, List.set_cons_zero, List.set_cons_succ]
                refine wpAnyH_take (i := 15) (v := .tuple #[.agg #[.int .i64 f2, .bool d21, .bool d22, .bool d23, .bool d24, .int .i64 l2], .bool Bb]) rfl (by kernel_rfl) (by kernel_rfl) (by kernel_rfl) (fun _ _ _ h => h) (Or.inl ⟨by rfl, ?_⟩) hS3 ?_
                · intro wq hw
                  go_simp
                try simp only [Act.put, List.getElem_toArray, List.getElem_cons_succ, List.getElem_cons_zero, List.setIfInBounds_toArray, List.set_cons_zero, List.set_cons_succ]
                refine wpAnyH_take (i := 16) (v := .agg #[.int .i64 f2, .bool d21, .bool d22, .bool d23, .bool d24, .int .i64 l2]) rfl (by kernel_rfl) (by kernel_rfl) (by kernel_rfl) (fun _ _ _ h => h) (Or.inl ⟨by rfl, ?_⟩) hS3 ?_
                · intro wq hw
                  go_simp
                try simp only [Act.put, List.getElem_toArray, List.getElem_cons_succ, List.getElem_cons_zero, List.setIfInBounds_toArray, List.set_cons_zero, List.set_cons_succ]
                refine wpAnyH_take (i := 17) (v := .bool Bb) rfl (by kernel_rfl) (by kernel_rfl) (by kernel_rfl) (fun _ _ _ h => h) (Or.inl ⟨by rfl, ?_⟩) hS3 ?_
                · intro wq hw
                  go_simp
                try simp only [Act.put, List.getElem_toArray, List.getElem_cons_succ, List.getElem_cons_zero, List.setIfInBounds_toArray, List.set_cons_zero, List.set_cons_succ]
                refine wpAnyH_ready (rs := [19]) (by kernel_rfl) (by simp) ?_
                refine AllReadyH.cons rfl (fun K hK => ?_) AllReadyH.nil
                rw [if_pos (by rfl)]
                have hX : (y8).heap[wc.heap.size]? = some (.cells #[.int .i64 0, .bool false, .bool false, .bool false, .bool false, .int .i64 0] 72 (0, 0)) := (hbo.block _ (by simp)).trans (heap_alloc_at wc.drew _)
                have hge : wc.heap.size ≤ wc.heap.size := Nat.le_refl _
                refine wp_store_row 72 _ _ rfl (wc.heap.size) #[.int .i64 f2, .bool d21, .bool d22, .bool d23, .bool d24, .int .i64 l2] rfl rfl 72 _ hX hi72 rfl (by simp [Value.oneCell']) ?_
                have hbs : Below wc.heap.size wc ((y8).setRow (wc.heap.size) #[.int .i64 f2, .bool d21, .bool d22, .bool d23, .bool d24, .int .i64 l2]) := Below.trans hS3 ⟨rfl, rfl, rfl, by simp [World.setRow], fun k hk => setRow_other _ _ k _ (by omega)⟩
                refine hK.out _ _ hbs (fun hS4 => ?_)
                clear hK K hX hge
                try simp only [Act.put, List.getElem_toArray, List.getElem_cons_succ, List.getElem_cons_zero]
                refine wpAnyH_take (i := 20) (v := .bool Bb) rfl (by kernel_rfl) (by kernel_rfl) (by kernel_rfl) (fun _ _ _ h => h) (Or.inl ⟨by rfl, ?_⟩) hS4 ?_
                · intro wq hw
                  go_simp
                try simp only [Act.put, List.getElem_toArray, List.getElem_cons_succ, List.getElem_cons_zero, List.setIfInBounds_toArray, List.set_cons_zero, List.set_cons_succ]
                refine wpAnyH_done (by kernel_rfl) ?_ _
                go_wp2_with fail
                go_meet
                case rel => exact ⟨rfl, hS4⟩
            case rest =>
              obtain ⟨rfl, hwc⟩ := hcut
              have H9 : Hid (RS w wc B Q b g D T0 L0 1 24 O z5 ∧ B3 wc K A Bb C) := HKS2.out _ hwc
              clear q0 q1 q2 lQ HKS2 hwc
              obtain ⟨k0, k1, k2, lK⟩ := H9.out.2.cs
              go_wp2_with fail
              go_roundw
              case rel => exact ⟨j + 1, by omega, by go_num, z5, A, Bb, C, H9.out.1, HY.out.1, HY.out.2, H9.out.2⟩
              case measure => simp [intOf]; omega
    · obtain rfl : j = n := by omega
      have hm := (HR.out.1.iv.pf P _ hP HR.out.2.2.1).2
      have C5 := unmap_sx HR.out.1.sx HR.out.1.iv (P : Int)
      have iU := (HR.out.1.iv.unmap (gu := 1) (by decide) (P : Int)).1
      obtain ⟨e1, e2, e3, e4⟩ := unm_val HR.out.2.1 hP HR.out.2.2.1
      rw [e1, e2] at C5
      generalize unZ 1 z P = z6 at *
      have HI6 : Hid (Iv 24 O z6 ∧ prQ z6 P r' w' x' = 14) := ⟨iU, by
        unfold prQ
        rw [e3, if_neg (by decide), if_neg (not_not_intro ⟨by omega, by omega, hm⟩), Int.toNat_natCast, e4]
        rfl⟩
      clear e1 e2 e3 e4 iU hm
      go_wp2_with fail
      refine C5.mono ?_
      rintro e y5 ⟨rfl, h5, t5⟩
      have H5 : Hid (RS w y5 B Q b g D T0 L0 1 24 O z6 ∧ B3 y5 K r' w' x') := ⟨HR.out.1.tn h5 HI6.out.1 t5, HR.out.2.2.2.tn t5 (HR.out.1.sx.not3 HR.out.2.2.2)⟩
      clear h5 t5 C5 HR q0 q1 q2 lQ k0 k1 k2 lK
      obtain ⟨q0, q1, q2, lQ⟩ := H5.out.1.cs
      obtain ⟨k0, k1, k2, lK⟩ := H5.out.2.cs
      have C6 := protect_sx H5.out.1.sx.drew HI6.out.1 (P : Int) r' w' x'
      rw [HI6.out.2] at C6
      go_wp2_with fail
      go_region_held2 (fun W => W.cell? ⟨Q, 2, none⟩ = some (.pointer (some ⟨T0, 0, none⟩)) ∧ W.cell? ⟨K, 0, none⟩ = some (.bool r') ∧ W.cell? ⟨K, 1, none⟩ = some (.bool w') ∧ W.cell? ⟨K, 2, none⟩ = some (.bool x'))
        (first | exact ⟨q2, k0, k1, k2⟩ | exact hc2)
        (first
          | (go_at_call 11; refine C6.mono ?_; rintro q y6 ⟨rfl, h6, t6⟩; (have i6 : Iv 24 O (prZ z6 P r' w' x') := (HI6.out.1.protect (P : Int) r' w' x').1); (have H6 : Hid (RS w y6 B Q b g D T0 L0 1 24 O (prZ z6 P r' w' x') ∧ B3 y6 K r' w' x') := ⟨(H5.out.1.below (Below.refl _ _).drew).tn h6 i6 t6, (H5.out.2.below (Below.refl _ _).drew).tn t6 (H5.out.1.sx.not3 H5.out.2)⟩); (have hc2 := And.intro H6.out.1.cs.2.2.1 (And.intro H6.out.2.cs.1 (And.intro H6.out.2.cs.2.1 H6.out.2.cs.2.2.1)))))
      have HB : Hid (_) := H6.out.1.bel
      clear h6 t6 i6 hc2 C6 H5 H6
      go_wp2_with fail
      go_ret
      exact ⟨rfl, HB.out⟩
end stageRights
end Go.Proofs.YteghkhdpdeiocaaDoor
