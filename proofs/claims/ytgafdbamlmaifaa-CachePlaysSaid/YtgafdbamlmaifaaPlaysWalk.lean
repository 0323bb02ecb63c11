/-
  A cache under any calls keeps and drops what the document's does: the walk of CachePlays.
-/
import Derived.Test.YtgafdbamlmaifaaPb
import Derived.Deep.RegionHeld
import Derived.Deep.DeepCutAuto
namespace Go.Proofs.Ytgafdbamlmaifaa.P
open Go.RowKit
open U (CC Pl upd Ml evO evM p0 zv)
open R (RC It i0 Hit NoHit putI notG)
set_option linter.unusedVariables false
set_option maxRecDepth 20000

/-- an act -/
structure Ac where
  kd : Int
  g : Int
  k : Int
  q : Int
  x : Int
structure Ac.W (a : Ac) : Prop where
  g : (Lit.int .i64 a.g).wf = true
  k : (Lit.int .u64 a.k).wf = true
  q : (Lit.int .u64 a.q).wf = true
def acC (a : Ac) : Array Value := #[.int .i64 a.kd, .int .i64 a.g, .int .u64 a.k, .int .u64 a.q, .int .i64 a.x]
/-- acts that came in -/
def ActsIn (w : World) (a : Option Addr) (n : Nat) : Prop :=
  n = 0 ∨ ∃ b off, a = some ⟨b, off, none⟩ ∧ b < w.heap.size ∧ ∀ i, i < n → ∃ s : Ac, s.W ∧ w.cell? ⟨b, off + i * 5, none⟩ = some (.int .i64 s.kd) ∧ w.cell? ⟨b, off + i * 5 + 1, none⟩ = some (.int .i64 s.g) ∧ w.cell? ⟨b, off + i * 5 + 2, none⟩ = some (.int .u64 s.k) ∧ w.cell? ⟨b, off + i * 5 + 3, none⟩ = some (.int .u64 s.q) ∧ w.cell? ⟨b, off + i * 5 + 4, none⟩ = some (.int .i64 s.x)

/-- both caches keep the same -/
def PS (w0 wx : World) (b room m r : Nat) : Prop := ∃ v os M vr is, PX w0.heap.size wx b room m r v os M vr is ∧ Tie is os M ∧ Below w0.heap.size w0 wx

theorem names_any (w : World) : Calls Try.prog 9 #[] w fun e w' => e = .returned (.bool true) ∧ w' = w := by
  go_enter Try.func9, Try.ntmps9
  go_wp2
  go_ret
  exact ⟨rfl, rfl⟩

set_option maxHeartbeats 800000 in
theorem walk_no (room : Int) (a : Option Addr) (n c : Nat) (w : World) (hr : room < 1 ∨ 1024 < room) :
    Calls Try.prog 3 #[.int .i64 room, .slice a n c] w fun e w' => e = .returned (.bool true) ∧ Below w.heap.size w w' := by
  have C1 := U.new_no room hr
  have C2 := R.new_no room hr
  have C3 := names_any
  clear hr
  go_enter Try.func3, Try.ntmps3
  go_wp2_with fail
  refine (C1 _).mono ?_
  rintro e w1 ⟨rfl, rfl⟩
  go_wp2_with fail
  refine (C2 _).mono ?_
  rintro e w1 ⟨rfl, rfl⟩
  go_wp2_with fail
  refine (C3 _).mono ?_
  rintro e w1 ⟨rfl, rfl⟩
  clear C1 C2 C3
  go_wp2_with fail
  go_loopw [9] (fun q wr => q = .int .i64 0 ∧ wr = w1) (fun _ _ => 0)
  case atStart => exact ⟨rfl, rfl⟩
  case round =>
    obtain ⟨rfl, rfl⟩ := hrel
    by_cases hn : (0 : Int) < (n : Int)
    all_goals
      go_wp2_with fail
      go_ret
      exact ⟨rfl, Below.refl _ _⟩

theorem keepA_u {B : Nat} {wr w1 w2 : World} {b room m r : Nat} {v v' : Value} {os : List Pl} {M : Pl → Option Value} {vr : Value} {is : List It} {o : Obj} (h : PX B wr b room m r v os M vr is) (hT : U.Turn w1 w2 b m v v') (hA : w1.heap[wr.heap.size]? = some o) : w2.heap[wr.heap.size]? = some o :=
  (hT.trn.block _ (lt_of_heap hA) (fun hs => by
    rcases hs with hs | hs | hs
    · have := h.cc.ob.lt; omega
    · have := h.cc.mp.lt; omega
    · have := (h.cc.ord.lt _ hs).2; omega)).trans hA
theorem keepA_r {B : Nat} {wr w1 w2 : World} {b room m r : Nat} {v : Value} {os : List Pl} {M : Pl → Option Value} {vr vr' : Value} {is : List It} {o : Obj} (h : PX B wr b room m r v os M vr is) (hT : R.Turn w1 w2 r vr vr') (hA : w1.heap[wr.heap.size]? = some o) : w2.heap[wr.heap.size]? = some o :=
  (hT.trn.block _ (lt_of_heap hA) (fun hs => by
    rcases hs with hs | hs
    · have := h.rc.lt; omega
    · have := (h.rc.its.lt _ hs).2; omega)).trans hA
theorem rturn_below {B : Nat} {w w' : World} {r room : Nat} {v v' : Value} {is : List It} (h : R.Turn w w' r v v') (hC : RC B w r room v is) (hB : B ≤ w.heap.size) : Below B w w' :=
  ⟨h.trn.os, h.trn.tape, h.trn.output, h.trn.size, fun k hk => h.trn.block k (by omega) (fun hs => by
    rcases hs with hs | hs
    · have := hC.rB; omega
    · have := (hC.its.lt k hs).1; omega)⟩

set_option maxHeartbeats 3200000 in
theorem walk_yes (room : Nat) (h1 : 1 ≤ room) (h2 : room ≤ 1024) (a : Option Addr) (n c : Nat) (w : World) (hA : ActsIn w a n) (hn : n < 9223372036854775808) :
    Calls Try.prog 3 #[.int .i64 room, .slice a n c] w fun e w' => e = .returned (.bool true) ∧ Below w.heap.size w w' := by
  have C1 := U.new_yes room h1 h2
  have C2 := R.new_yes room h1 h2
  have C3 := names_any
  have HA : Hid (ActsIn w a n) := hA
  clear hA
  go_enter Try.func3, Try.ntmps3
  go_wp2_with fail
  refine (C1 _).mono ?_
  rintro e w1 ⟨b, rfl, ⟨m, hC⟩, hb1⟩
  go_wp2_with fail
  refine (C2 _).mono ?_
  rintro e w2 ⟨rfl, hR, hb2⟩
  have E0 : Hid (PS w w2 b room m w1.heap.size) := by
    have hs := hb1.size
    have hR' : RC w.heap.size w2 w1.heap.size room (.slice none 0 0) [] := ⟨hR.ob, .inl ⟨rfl, rfl⟩, hs, (fun e => by cases e), h1, h2, by simp⟩
    have hbl := hC.ob.lt
    have hml := hC.mp.lt
    exact ⟨_, _, _, _, _, ⟨hC.below hb2, hR', by omega, by omega, (fun e => by cases e), (fun e => by cases e), (fun e => by cases e), (fun k e => by cases e)⟩, ⟨rfl, fun it hit => by cases hit⟩, hb1.trans (hb2.mono hs)⟩
  clear hC hR hb1 hb2 C1 C2
  generalize w1.heap.size = r at *
  go_wp2_with fail
  refine (C3 _).mono ?_
  rintro e w3 ⟨rfl, rfl⟩
  clear C3
  go_wp2_with fail
  go_loopw [9] (fun q wr => ∃ j : Nat, j ≤ n ∧ q = .int .i64 j ∧ Hid (PS w wr b room m r)) (fun q _ => n - (intOf q).toNat)
  case atStart => exact ⟨0, by omega, rfl, E0⟩
  case round =>
    obtain ⟨j, hj, rfl, HP⟩ := hrel
    clear E0
    by_cases hjn : j < n
    · have hjn' : (j : Int) < (n : Int) := by omega
      obtain ⟨ab, off, rfl, hab, hcs⟩ : ∃ ab off, a = some ⟨ab, off, none⟩ ∧ ab < w.heap.size ∧ _ := by
        rcases HA.out with h' | h'
        · omega
        · exact h'
      obtain ⟨⟨kd, sg, sk, sq, sx⟩, hsW, d0, d1, d2, d3, d4⟩ := hcs j hjn
      have HS : Hid ((⟨kd, sg, sk, sq, sx⟩ : Ac).W) := hsW
      obtain ⟨v, os, M, vr, is, hPX, hT, hbel⟩ := HP.out
      have hbc := (bel_cell hbel hab).1
      have k0 : wr.cell? ⟨ab, off + j * 5, none⟩ = some (.int .i64 kd) := (hbc _).trans d0
      have k1 : wr.cell? ⟨ab, off + j * 5 + 1, none⟩ = some (.int .i64 sg) := (hbc _).trans d1
      have k2 : wr.cell? ⟨ab, off + j * 5 + 2, none⟩ = some (.int .u64 sk) := (hbc _).trans d2
      have k3 : wr.cell? ⟨ab, off + j * 5 + 3, none⟩ = some (.int .u64 sq) := (hbc _).trans d3
      have k4 : wr.cell? ⟨ab, off + j * 5 + 4, none⟩ = some (.int .i64 sx) := (hbc _).trans d4
      have habr : ab < wr.heap.size := by have := hbel.size; omega
      have hbA : Below wr.heap.size wr (wr.alloc (.cells #[.int .i64 kd, .int .i64 sg, .int .u64 sk, .int .u64 sq, .int .i64 sx] 33)) := (Below.refl _ _).alloc (Nat.le_refl _) _
      have HP1 : Hid (PX w.heap.size (wr.alloc (.cells #[.int .i64 kd, .int .i64 sg, .int .u64 sk, .int .u64 sq, .int .i64 sx] 33)) b room m r v os M vr is ∧ Tie is os M ∧ Below w.heap.size w (wr.alloc (.cells #[.int .i64 kd, .int .i64 sg, .int .u64 sk, .int .u64 sq, .int .i64 sx] 33)) ∧ PX w.heap.size wr b room m r v os M vr is) := ⟨hPX.below hbA, hT, hbel.trans (hbA.mono hbel.size), hPX⟩
      clear hPX hT hbel hbc d0 d1 d2 d3 d4 hbA hcs hsW HP
      have hp : (⟨sg, sk⟩ : Pl).W := ⟨HS.out.g, HS.out.k⟩
      have hB : w.heap.size ≤ (wr.alloc (.cells #[.int .i64 kd, .int .i64 sg, .int .u64 sk, .int .u64 sq, .int .i64 sx] 33)).heap.size := HP1.out.2.2.1.size
      have hA0 : (wr.alloc (.cells #[.int .i64 kd, .int .i64 sg, .int .u64 sk, .int .u64 sq, .int .i64 sx] 33)).heap[wr.heap.size]? = some (.cells #[.int .i64 kd, .int .i64 sg, .int .u64 sk, .int .u64 sq, .int .i64 sx] 33 (0, 0)) := R.heap_alloc_at wr _
      have HA0 : Hid (_) := hA0
      have HB : Hid (_) := hB
      clear hA0 hB
      have hkk : kd = 0 ∨ kd = 1 ∨ kd = 2 ∨ (¬ kd = 0 ∧ ¬ kd = 1 ∧ ¬ kd = 2) := by omega
      rcases hkk with rfl | rfl | rfl | ⟨hk, hk1, hk2⟩
      case' inl =>
        have C := uput w.heap.size b room m v os M ⟨sg, sk⟩ (.int .i64 sx) hp _ HP1.out.1.cc HB.out
        go_wp2_with fail
        refine C.mono ?_
        rintro e x1 ⟨rfl, v1, os1, M1, hC1, hT1, halt⟩
        have P1 := HP1.out.1.u hC1 hT1
        have hA1 := keepA_u HP1.out.2.2.2 hT1 HA0.out
        have hB1 : w.heap.size ≤ x1.heap.size := Nat.le_trans HB.out hT1.trn.size
        have l1 : x1.cell? ⟨wr.heap.size, 1, none⟩ = some (.int .i64 sg) := by rw [U.cell_at hA1]; rfl
        have l2 : x1.cell? ⟨wr.heap.size, 2, none⟩ = some (.int .u64 sk) := by rw [U.cell_at hA1]; rfl
        have l4 : x1.cell? ⟨wr.heap.size, 4, none⟩ = some (.int .i64 sx) := by rw [U.cell_at hA1]; rfl
        have ll := lt_of_heap hA1
        have C2 := rput w.heap.size r room vr is sg sk sx x1 P1.rc hB1
        have HX1 : Hid (PX w.heap.size x1 b room m r v1 os1 M1 vr is ∧ U.Turn (wr.alloc (.cells #[.int .i64 0, .int .i64 sg, .int .u64 sk, .int .u64 sq, .int .i64 sx] 33)) x1 b m v v1 ∧ x1.heap[wr.heap.size]? = some (.cells #[.int .i64 0, .int .i64 sg, .int .u64 sk, .int .u64 sq, .int .i64 sx] 33 (0, 0)) ∧ ((⟨sg, sk⟩ : Pl) ∈ os ∧ os1 = os ∧ M1 = upd M ⟨sg, sk⟩ (some (.int .i64 sx)) ∨ (⟨sg, sk⟩ : Pl) ∉ os ∧ os1 = evO room os ++ [⟨sg, sk⟩] ∧ M1 = upd (evM room os M) ⟨sg, sk⟩ (some (.int .i64 sx)))) := ⟨P1, hT1, hA1, halt⟩
        clear hC1 hT1 halt P1 hA1 hB1 C
        go_wp2_with fail
        refine C2.mono ?_
        rintro e y ⟨rfl, vr1, is1, hR2, hT2, halt2⟩
        have HQ : Hid (PS w y b room m r) := by
          obtain ⟨P1, hT1, hA1, halt⟩ := HX1.out
          have hb1 := hT1.below HP1.out.1.cc HB.out
          have hb2 := rturn_below hT2 P1.rc (Nat.le_trans HB.out hT1.trn.size)
          exact ⟨_, _, _, _, _, P1.r hR2 hT2, tie_put HP1.out.2.1 HP1.out.1.cc.nd h1 halt halt2, (HP1.out.2.2.1.trans hb1).trans hb2⟩
        have hAy := keepA_r HP1.out.2.2.2 hT2 HX1.out.2.2.1
        have y1 : y.cell? ⟨wr.heap.size, 1, none⟩ = some (.int .i64 sg) := by rw [U.cell_at hAy]; rfl
        have y3 : y.cell? ⟨wr.heap.size, 3, none⟩ = some (.int .u64 sq) := by rw [U.cell_at hAy]; rfl
        have yl := lt_of_heap hAy
        clear hR2 hT2 halt2 C2 HX1 l1 l2 l4 ll hAy
        go_wp2_with fail
      case' inr.inl =>
        have hbd : Below (wr.alloc (.cells #[.int .i64 1, .int .i64 sg, .int .u64 sk, .int .u64 sq, .int .i64 sx] 33)).heap.size (wr.alloc (.cells #[.int .i64 1, .int .i64 sg, .int .u64 sk, .int .u64 sq, .int .i64 sx] 33)) (wr.alloc (.cells #[.int .i64 1, .int .i64 sg, .int .u64 sk, .int .u64 sq, .int .i64 sx] 33)).drew := (Below.refl _ _).drew
        have P0 := HP1.out.1.below hbd
        have C12 := U.drop_any w.heap.size b room m v os M ⟨sg, sk⟩ hp _ P0.cc
        obtain ⟨dd, hdd⟩ : ∃ dd, Hid (dd = decide ((⟨sg, sk⟩ : Pl) ∈ os)) := ⟨_, rfl⟩
        have C13 : ∀ x1, RC w.heap.size x1 r room vr is → w.heap.size ≤ x1.heap.size → Calls Try.prog 13 #[.pointer (some ⟨r, 0, none⟩), .int .i64 sg, .int .u64 sk] x1 fun e w' => e = .returned (.bool dd) ∧ ∃ v' is', RC w.heap.size w' r room v' is' ∧ R.Turn x1 w' r vr v' ∧ ((∃ i, Hit is sg sk i ∧ is' = is.eraseIdx i) ∨ (NoHit is sg sk ∧ is' = is)) := fun x1 hx hB1 => by
          rw [hdd.out]
          exact rdrop w.heap.size r room vr is os M sg sk x1 HP1.out.2.1 hx hB1
        rw [← hdd.out] at C12
        have e1 : (wr.alloc (.cells #[.int .i64 1, .int .i64 sg, .int .u64 sk, .int .u64 sq, .int .i64 sx] 33)).drew.cell? ⟨wr.heap.size, 1, none⟩ = some (.int .i64 sg) ∧ (wr.alloc (.cells #[.int .i64 1, .int .i64 sg, .int .u64 sk, .int .u64 sq, .int .i64 sx] 33)).drew.cell? ⟨wr.heap.size, 2, none⟩ = some (.int .u64 sk) := ⟨by rw [U.cell_at (w := (wr.alloc _).drew) HA0.out]; rfl, by rw [U.cell_at (w := (wr.alloc _).drew) HA0.out]; rfl⟩
        have HP0 : Hid (_) := P0
        clear P0
        go_wp2_with fail
        go_region_held (fun w' => w'.cell? ⟨wr.heap.size, 1, none⟩ = some (.int .i64 sg) ∧ w'.cell? ⟨wr.heap.size, 2, none⟩ = some (.int .u64 sk)) (first | exact e1 | exact e2 | exact e3)
          (first
            | (go_at_call 12; refine C12.mono ?_; rintro e x1 ⟨rfl, v1, hC1, hT1⟩; have P1 := HP0.out.u hC1 hT1; have hA1 := keepA_u (o := .cells #[.int .i64 1, .int .i64 sg, .int .u64 sk, .int .u64 sq, .int .i64 sx] 33 (0, 0)) HP1.out.2.2.2 hT1 HA0.out; have e2 : x1.cell? ⟨wr.heap.size, 1, none⟩ = some (.int .i64 sg) ∧ x1.cell? ⟨wr.heap.size, 2, none⟩ = some (.int .u64 sk) := ⟨by rw [U.cell_at hA1]; rfl, by rw [U.cell_at hA1]; rfl⟩; have hB1 : w.heap.size ≤ x1.heap.size := Nat.le_trans HB.out hT1.trn.size)
            | (go_at_call 13; refine (C13 _ P1.rc hB1).mono ?_; rintro e y ⟨rfl, vr1, is1, hR2, hT2, halt2⟩; have hAy := keepA_r HP1.out.2.2.2 hT2 hA1; have e3 : y.cell? ⟨wr.heap.size, 1, none⟩ = some (.int .i64 sg) ∧ y.cell? ⟨wr.heap.size, 2, none⟩ = some (.int .u64 sk) := ⟨by rw [U.cell_at hAy]; rfl, by rw [U.cell_at hAy]; rfl⟩))
        have HQ : Hid (PS w y b room m r) := by
          have hb1 := hT1.below HP0.out.cc HB.out
          have hb2 := rturn_below hT2 P1.rc (Nat.le_trans HB.out hT1.trn.size)
          exact ⟨_, _, _, _, _, P1.r hR2 hT2, tie_drops HP1.out.2.1 HP1.out.1.cc.nd halt2, (HP1.out.2.2.1.drew.trans hb1).trans hb2⟩
        have y1 : y.cell? ⟨wr.heap.size, 1, none⟩ = some (.int .i64 sg) := by rw [U.cell_at hAy]; rfl
        have y3 : y.cell? ⟨wr.heap.size, 3, none⟩ = some (.int .u64 sq) := by rw [U.cell_at hAy]; rfl
        have yl := lt_of_heap hAy
        clear hR2 hT2 halt2 C12 C13 P1 hC1 hT1 hA1 hAy e1 e2 e3 hB1 HP0 hbd
        go_wp2_with fail
      case' inr.inr.inl =>
        have hbd : Below (wr.alloc (.cells #[.int .i64 2, .int .i64 sg, .int .u64 sk, .int .u64 sq, .int .i64 sx] 33)).heap.size (wr.alloc (.cells #[.int .i64 2, .int .i64 sg, .int .u64 sk, .int .u64 sq, .int .i64 sx] 33)) (wr.alloc (.cells #[.int .i64 2, .int .i64 sg, .int .u64 sk, .int .u64 sq, .int .i64 sx] 33)).drew := (Below.refl _ _).drew
        have P0 := HP1.out.1.below hbd
        have C12 := U.dropGroup_any w.heap.size b room m v os M sg _ P0.cc
        rw [groups_len HP1.out.2.1] at C12
        have C13 : ∀ x1, RC w.heap.size x1 r room vr is → w.heap.size ≤ x1.heap.size → _ := fun x1 hx hB1 => R.dropGroup_any w.heap.size r room vr is sg x1 hx hB1
        generalize (is.length : Int) - ((notG sg is).length : Int) = dd at *
        have e1 : (wr.alloc (.cells #[.int .i64 2, .int .i64 sg, .int .u64 sk, .int .u64 sq, .int .i64 sx] 33)).drew.cell? ⟨wr.heap.size, 1, none⟩ = some (.int .i64 sg) := by rw [U.cell_at (w := (wr.alloc _).drew) HA0.out]; rfl
        have HP0 : Hid (_) := P0
        clear P0
        go_wp2_with fail
        go_region_held (fun w' => w'.cell? ⟨wr.heap.size, 1, none⟩ = some (.int .i64 sg)) (first | exact e1 | exact e2 | exact e3)
          (first
            | (go_at_call 14; refine C12.mono ?_; rintro e x1 ⟨rfl, v1, hC1, hT1⟩; have P1 := HP0.out.u hC1 hT1; have hA1 := keepA_u (o := .cells #[.int .i64 2, .int .i64 sg, .int .u64 sk, .int .u64 sq, .int .i64 sx] 33 (0, 0)) HP1.out.2.2.2 hT1 HA0.out; have e2 : x1.cell? ⟨wr.heap.size, 1, none⟩ = some (.int .i64 sg) := (by rw [U.cell_at hA1]; rfl); have hB1 : w.heap.size ≤ x1.heap.size := Nat.le_trans HB.out hT1.trn.size)
            | (go_at_call 15; refine (C13 _ P1.rc hB1).mono ?_; rintro e y ⟨rfl, vr1, hR2, hT2⟩; have hAy := keepA_r HP1.out.2.2.2 hT2 hA1; have e3 : y.cell? ⟨wr.heap.size, 1, none⟩ = some (.int .i64 sg) := (by rw [U.cell_at hAy]; rfl)))
        have HQ : Hid (PS w y b room m r) := by
          have hb1 := hT1.below HP0.out.cc HB.out
          have hb2 := rturn_below hT2 P1.rc (Nat.le_trans HB.out hT1.trn.size)
          exact ⟨_, _, _, _, _, P1.r hR2 hT2, tie_group HP1.out.2.1, (HP1.out.2.2.1.drew.trans hb1).trans hb2⟩
        have y1 : y.cell? ⟨wr.heap.size, 1, none⟩ = some (.int .i64 sg) := by rw [U.cell_at hAy]; rfl
        have y3 : y.cell? ⟨wr.heap.size, 3, none⟩ = some (.int .u64 sq) := by rw [U.cell_at hAy]; rfl
        have yl := lt_of_heap hAy
        clear hR2 hT2 C12 C13 P1 hC1 hT1 hA1 hAy e1 e2 e3 hB1 HP0 hbd
        go_wp2_with fail
      case' inr.inr.inr =>
        obtain ⟨y, hy⟩ : ∃ y, Hid (y = wr.alloc (.cells #[.int .i64 kd, .int .i64 sg, .int .u64 sk, .int .u64 sq, .int .i64 sx] 33)) := ⟨_, rfl⟩
        have HQ : Hid (PS w y b room m r) := by
          rw [hy.out]
          exact ⟨_, _, _, _, _, HP1.out.1, HP1.out.2.1, HP1.out.2.2.1⟩
        have y1 : y.cell? ⟨wr.heap.size, 1, none⟩ = some (.int .i64 sg) := by rw [hy.out, U.cell_at HA0.out]; rfl
        have y3 : y.cell? ⟨wr.heap.size, 3, none⟩ = some (.int .u64 sq) := by rw [hy.out, U.cell_at HA0.out]; rfl
        have yl : wr.heap.size < y.heap.size := by rw [hy.out]; simp
        go_wp2_with fail
        rw [← hy.out]
      all_goals
        clear HP1 HA0 HB k0 k1 k2 k3 k4 habr hp
        obtain ⟨v', os', M', vr', is', hP, hT', hbel'⟩ := HQ.out
        have hq : (⟨sg, sq⟩ : Pl).W := ⟨HS.out.g, HS.out.q⟩
        obtain ⟨xx, bb, g1, g2, CG⟩ := gets hT' hq hP.cc.inn
        have C16 := U.get_any _ b room m v' os' M' ⟨sg, sq⟩ hq y hP.cc
        rw [g1, g2] at C16
        refine C16.mono ?_
        rintro e z ⟨rfl, hbz⟩
        have hPz := hP.below hbz
        have z1 : z.cell? ⟨wr.heap.size, 1, none⟩ = some (.int .i64 sg) := ((bel_cell hbz yl).1 1).trans y1
        have z3 : z.cell? ⟨wr.heap.size, 3, none⟩ = some (.int .u64 sq) := ((bel_cell hbz yl).1 3).trans y3
        have zl : wr.heap.size < z.heap.size := Nat.lt_of_lt_of_le yl hbz.size
        have C17 := CG _ _ _ _ z hPz.rc
        obtain ⟨a3, n3, c3, rfl, hn3⟩ := R.its_form hPz.rc.its
        have hbzd : Below z.heap.size z z.drew := (Below.refl _ _).drew
        have C18 := U.len_any _ b room m v' os' M' z.drew (hPz.below hbzd).cc
        have hlen : os'.length = n3 := by rw [hn3, hT'.os]; simp
        rw [hlen] at C18
        have r1 : z.drew.cell? ⟨r, 1, none⟩ = some (.slice a3 n3 c3) := hPz.rc.c1
        have HZ : Hid (PS w z.drew b room m r) := ⟨_, _, _, _, _, hPz.below hbzd, hT', (hbel'.trans (hbz.mono hbel'.size)).drew⟩
        have hrl := hPz.rc.lt
        have hn3' : n3 ≤ 1024 := by have := hPz.rc.len; have := hPz.rc.room2; omega
        clear hP hT' hbel' hPz hbz hbzd HQ g1 g2 CG C16 y1 y3 yl hn3 hlen
        go_wp2_with fail
        refine C17.mono ?_
        rintro e z' ⟨rfl, rfl⟩
        clear C17
        go_wp2_with fail
        go_region_held (fun w' => w'.cell? ⟨r, 1, none⟩ = some (.slice a3 n3 c3)) (first | exact r1) (first | (go_at_call 18; refine C18.mono ?_; rintro e z2 ⟨rfl, rfl⟩))
        all_goals
          go_wp2_with fail
          go_roundw
          case rel => exact ⟨j + 1, by omega, by go_num, HZ⟩
          case measure => simp [intOf]; omega
    · obtain rfl : j = n := by omega
      obtain ⟨v, os, M, vr, is, hPX, hT, hbel⟩ := HP.out
      clear hPX hT HP HA
      go_wp2_with fail
      go_ret
      exact ⟨rfl, hbel⟩
end Go.Proofs.Ytgafdbamlmaifaa.P
