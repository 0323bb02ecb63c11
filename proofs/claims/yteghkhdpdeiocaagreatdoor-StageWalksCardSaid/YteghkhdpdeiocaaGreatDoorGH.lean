/-
  The document's frames in the heap: a block of 19 cells, a row of two cells a frame; what its small functions tell.
  What the document's wrong, Alloc, Hold, Free, Move and Quota do.
  What the document's Free, Move and Alloc do.
  What the document's Alloc and New do.
-/
import Derived.Test.YteghkhdpdeiocaaGreatDoorGV
import Derived.Deep.DeepCutAuto
import Derived.Test.YteghkhdpdeiocaaGreatDoorGX
namespace Go.Proofs.YteghkhdpdeiocaaGreatDoor
open Go.RowKit
set_option linter.unusedVariables false
set_option maxRecDepth 100000

/-- the blocks that the document's frames are made of -/
def Or : Obj → Prop
  | .cells _ t _ => t = 121 ∨ t = 123
  | _ => False
/-- what stands as owner -/
def rO (S : Fs) (i : Nat) : Int := if S.cl i = 17 then 0 else S.cl i
structure RF (B : Nat → Prop) (w : World) (R r : Nat) (S : Fs) : Prop where
  ob : ∃ cs : Array Value, w.heap[R]? = some (.cells cs 121 (0, 0)) ∧ cs.size = 19 ∧ cs[0]? = some (.slice (some ⟨r, 0, none⟩) S.n S.n) ∧ cs[1]? = some (.int .i64 S.fi) ∧ ∀ k, k < 17 → cs[2 + k]? = some (.int .i64 (S.qu k))
  row : ∃ rs : Array Value, w.heap[r]? = some (.cells rs 123 (0, 0)) ∧ rs.size = S.n * 2 ∧ ∀ i, i < S.n → rs[i * 2]? = some (.int .i64 (rO S i)) ∧ rs[i * 2 + 1]? = some (.int .i64 (S.ti i))
  ok : Ok S
  lo : ¬ B R ∧ ¬ B r
section
variable {B : Nat → Prop} {w w' : World} {R r : Nat} {S : Fs}
theorem RF.lt (h : RF B w R r S) : R < w.heap.size := by
  obtain ⟨cs, h, _⟩ := h.ob
  exact lt_of_heap h
theorem RF.rlt (h : RF B w R r S) : r < w.heap.size := by
  obtain ⟨cs, h, _⟩ := h.row
  exact lt_of_heap h
theorem RF.ne (h : RF B w R r S) : R ≠ r := by
  obtain ⟨a, h1, _⟩ := h.ob
  obtain ⟨b, h2, _⟩ := h.row
  exact ne_typ h1 h2 (by decide)
theorem RF.keep (h : RF B w R r S) (hk : ∀ (k : Nat) (o : Obj), w.heap[k]? = some o → Or o → w'.heap[k]? = some o) : RF B w' R r S := by
  obtain ⟨a, h1, g1⟩ := h.ob
  obtain ⟨b, h2, g2⟩ := h.row
  exact ⟨⟨a, hk _ _ h1 (.inl rfl), g1⟩, ⟨b, hk _ _ h2 (.inr rfl), g2⟩, h.ok, h.lo⟩
theorem RF.below (h : RF B w R r S) (hk : Below w.heap.size w w') : RF B w' R r S := h.keep fun k o ho _ => (hk.block k (lt_of_heap ho)).trans ho
theorem RF.c0 (h : RF B w R r S) : w.cell? ⟨R, 0, none⟩ = some (.slice (some ⟨r, 0, none⟩) S.n S.n) := by
  obtain ⟨cs, h, h1, h2, _⟩ := h.ob
  rw [cell_at h, h2]
theorem RF.c1 (h : RF B w R r S) : w.cell? ⟨R, 1, none⟩ = some (.int .i64 S.fi) := by
  obtain ⟨cs, h, h1, h2, h3, _⟩ := h.ob
  rw [cell_at h, h3]
theorem RF.cq (h : RF B w R r S) {k : Nat} (hk : k < 17) : w.cell? ⟨R, 2 + k, none⟩ = some (.int .i64 (S.qu k)) := by
  obtain ⟨cs, h, h1, h2, h3, h4⟩ := h.ob
  rw [cell_at h, h4 k hk]
theorem RF.r0 (h : RF B w R r S) {i : Nat} (hi : i < S.n) : w.cell? ⟨r, i * 2, none⟩ = some (.int .i64 (rO S i)) := by
  obtain ⟨cs, h, h1, h2⟩ := h.row
  rw [cell_at h, (h2 i hi).1]
theorem RF.r1 (h : RF B w R r S) {i : Nat} (hi : i < S.n) : w.cell? ⟨r, i * 2 + 1, none⟩ = some (.int .i64 (S.ti i)) := by
  obtain ⟨cs, h, h1, h2⟩ := h.row
  rw [cell_at h, (h2 i hi).2]
theorem RF.fz (h : RF B w R r S) (o : Nat) : w.frozen? ⟨R, o, none⟩ = false := by
  obtain ⟨cs, h, _⟩ := h.ob
  exact froz_at h o
theorem RF.rfz (h : RF B w R r S) (o : Nat) : w.frozen? ⟨r, o, none⟩ = false := by
  obtain ⟨cs, h, _⟩ := h.row
  exact froz_at h o
theorem RF.tu (h : RF B w R r S) (t : Trn (fun k => k = R ∨ k = r) w w') : Tu Or B w w' := Tu.of_trn t fun k e => by
  rcases e with rfl | rfl
  · obtain ⟨cs, h1, _⟩ := h.ob
    exact ⟨h.lo.1, fun o ho => by rw [h1] at ho; cases ho; exact .inl rfl⟩
  · obtain ⟨cs, h1, _⟩ := h.row
    exact ⟨h.lo.2, fun o ho => by rw [h1] at ho; cases ho; exact .inr rfl⟩
/-- the times of a frame turned alone -/
theorem RF.times (h : RF B w R r S) {i t : Nat} (hi : i < S.n) (hok : Ok (S.set i (S.cl i) t)) : RF B (w.setCell ⟨r, i * 2 + 1, none⟩ (.int .i64 t)) R r (S.set i (S.cl i) t) ∧ Tu Or B w (w.setCell ⟨r, i * 2 + 1, none⟩ (.int .i64 t)) := by
  obtain ⟨rs, r1, r2, r3⟩ := h.row
  have tt := trn_setCell (fun k => k = R ∨ k = r) r1 (.inr rfl) (i * 2 + 1) (.int .i64 t)
  have t1 := trn_setCell (fun k => k = r) r1 rfl (i * 2 + 1) (.int .i64 t)
  obtain ⟨cs, o1, o2⟩ := h.ob
  have hcl : upd S.cl i (S.cl i) = S.cl := by
    funext j
    by_cases e : j = i <;> simp [upd, e]
  refine ⟨⟨⟨cs, (t1.block R h.lt h.ne).trans o1, o2⟩, ⟨_, setCell_eq_setRow w r (i * 2 + 1) rs 123 (0, 0) (.int .i64 t) r1 ▸ setRow_heap w r rs _ 123 _ r1, by rw [Array.size_setIfInBounds]; exact r2, fun j hj => ?_⟩, hok, h.lo⟩, h.tu tt⟩
  have hj' : j < S.n := hj
  have e0 : rO (S.set i (S.cl i) t) j = rO S j := by
    show (if upd S.cl i (S.cl i) j = 17 then (0 : Int) else (upd S.cl i (S.cl i) j : Nat)) = _
    rw [hcl]
    rfl
  rw [e0, Array.getElem?_setIfInBounds, if_neg (by omega), Array.getElem?_setIfInBounds]
  refine ⟨(r3 j hj').1, ?_⟩
  show _ = some (Value.int .i64 (upd S.ti i t j : Nat))
  by_cases e : j = i
  · subst e
    rw [if_pos rfl, if_pos (by omega), upd_self]
  · rw [if_neg (by omega), upd_other _ _ _ e]
    exact (r3 j hj').2
/-- a frame's owner and times turned -/
theorem RF.both (h : RF B w R r S) {i c t : Nat} (hi : i < S.n) (hok : Ok (S.set i c t)) (x : Int) (hx : x = if c = 17 then 0 else (c : Int)) :
    RF B ((w.setCell ⟨r, i * 2, none⟩ (.int .i64 x)).setCell ⟨r, i * 2 + 1, none⟩ (.int .i64 t)) R r (S.set i c t) ∧ Tu Or B w ((w.setCell ⟨r, i * 2, none⟩ (.int .i64 x)).setCell ⟨r, i * 2 + 1, none⟩ (.int .i64 t)) := by
  obtain ⟨rs, r1, r2, r3⟩ := h.row
  have t1 := trn_setCell (fun k => k = r) r1 rfl (i * 2) (.int .i64 x)
  have r1' : (w.setCell ⟨r, i * 2, none⟩ (.int .i64 x)).heap[r]? = some (.cells (rs.setIfInBounds (i * 2) (.int .i64 x)) 123 (0, 0)) := setCell_eq_setRow w r (i * 2) rs 123 (0, 0) (.int .i64 x) r1 ▸ setRow_heap w r rs _ 123 _ r1
  generalize w.setCell ⟨r, i * 2, none⟩ (.int .i64 x) = w1 at *
  have t2 := trn_setCell (fun k => k = r) r1' rfl (i * 2 + 1) (.int .i64 t)
  obtain ⟨cs, o1, o2⟩ := h.ob
  have t12 := t1.trans t2
  refine ⟨⟨⟨cs, (t12.block R h.lt h.ne).trans o1, o2⟩, ⟨_, setCell_eq_setRow w1 r (i * 2 + 1) _ 123 (0, 0) (.int .i64 t) r1' ▸ setRow_heap w1 r _ _ 123 _ r1', by rw [Array.size_setIfInBounds, Array.size_setIfInBounds]; exact r2, fun j hj => ?_⟩, hok, h.lo⟩, h.tu (t12.mono fun k _ e => .inr e)⟩
  have hj' : j < S.n := hj
  have hsz : (rs.setIfInBounds (i * 2) (Value.int .i64 x)).size = S.n * 2 := by rw [Array.size_setIfInBounds]; exact r2
  refine ⟨?_, ?_⟩
  · show _ = some (Value.int .i64 (if upd S.cl i c j = 17 then (0 : Int) else (upd S.cl i c j : Nat)))
    rw [Array.getElem?_setIfInBounds_ne (by omega)]
    by_cases e : j = i
    · subst e
      rw [upd_self, ← hx, Array.getElem?_setIfInBounds_self_of_lt (by omega)]
    · rw [upd_other _ _ _ e, Array.getElem?_setIfInBounds_ne (by omega)]
      exact (r3 j hj').1
  · show _ = some (Value.int .i64 (upd S.ti i t j : Nat))
    by_cases e : j = i
    · subst e
      rw [upd_self, Array.getElem?_setIfInBounds_self_of_lt (by omega)]
    · rw [upd_other _ _ _ e, Array.getElem?_setIfInBounds_ne (by omega), Array.getElem?_setIfInBounds_ne (by omega)]
      exact (r3 j hj').2
theorem RF.quota (h : RF B w R r S) {k : Nat} (hk : k < 17) (v : Int) (hok : Ok { S with qu := upd S.qu k v }) : RF B (w.setCell ⟨R, 2 + k, none⟩ (.int .i64 v)) R r { S with qu := upd S.qu k v } ∧ Tu Or B w (w.setCell ⟨R, 2 + k, none⟩ (.int .i64 v)) := by
  obtain ⟨cs, o1, o2, o3, o4, o5⟩ := h.ob
  have t1 := trn_setCell (fun k => k = R) o1 rfl (2 + k) (.int .i64 v)
  obtain ⟨rs, r1, r2⟩ := h.row
  refine ⟨⟨⟨_, setCell_eq_setRow w R (2 + k) cs 121 (0, 0) (.int .i64 v) o1 ▸ setRow_heap w R cs _ 121 _ o1, by simpa using o2, ?_, ?_, fun j hj => ?_⟩, ⟨rs, (t1.block r h.rlt (Ne.symm h.ne)).trans r1, r2⟩, hok, h.lo⟩, h.tu (t1.mono fun k _ e => .inl e)⟩
  · rw [Array.getElem?_setIfInBounds, if_neg (by omega)]; exact o3
  · rw [Array.getElem?_setIfInBounds, if_neg (by omega)]; exact o4
  · rw [Array.getElem?_setIfInBounds]
    show _ = some (Value.int .i64 (upd S.qu k v j))
    by_cases e : j = k
    · subst e
      rw [if_pos rfl, if_pos (by omega), upd_self]
    · rw [if_neg (by omega), upd_other _ _ _ e]
      exact o5 j hj
end
theorem rowner (o : Int) (w : World) : Calls Tryz.prog 69 #[.int .i64 o] w fun e w' => e = .returned (.bool (decide (isO o))) ∧ w' = w := by
  by_cases h0 : 0 ≤ o
  · by_cases h1 : o ≤ 16
    · rw [decide_eq_true (show isO o from ⟨h0, h1⟩)]
      have h2 : o < 17 := by omega
      go_enter Tryz.func69, Tryz.ntmps69
      go_wp2
      go_ret
      first
      | exact ⟨rfl, rfl⟩
      | exact ⟨ret_bool (by simp; omega), rfl⟩
    · rw [decide_eq_false (show ¬ isO o from fun e => h1 e.2)]
      have h2 : 17 ≤ o := by omega
      go_enter Tryz.func69, Tryz.ntmps69
      go_wp2
      go_ret
      first
      | exact ⟨rfl, rfl⟩
      | exact ⟨ret_bool (by simp; omega), rfl⟩
  · rw [decide_eq_false (show ¬ isO o from fun e => h0 e.1)]
    go_enter Tryz.func69, Tryz.ntmps69
    go_wp2
    go_ret
    first
      | exact ⟨rfl, rfl⟩
      | exact ⟨ret_bool (by simp; omega), rfl⟩
section
variable {B : Nat → Prop} {w w' : World} {R r : Nat} {S : Fs}
/-- how many of the first j are an owner's -/
def ownJ (S : Fs) (o : Int) (j : Nat) : Int := if isO o then cn S.cl j o.toNat else 0
theorem ownJ_zero (S : Fs) (o : Int) : ownJ S o 0 = 0 := by unfold ownJ; split <;> simp [cn]
theorem ownJ_range (S : Fs) (o : Int) (j : Nat) : 0 ≤ ownJ S o j ∧ ownJ S o j ≤ j := by
  unfold ownJ
  split
  · have := cn_le S.cl j o.toNat
    omega
  · omega
theorem ownJ_succ (S : Fs) (o : Int) (j : Nat) (hc : S.cl j ≤ 17) : ownJ S o (j + 1) = ownJ S o j + if S.cl j ≠ 17 ∧ (S.cl j : Int) = o then 1 else 0 := by
  unfold ownJ
  by_cases h : isO o
  · rw [if_pos h, if_pos h, cn_succ]
    have h1 := h.1
    have h2 := h.2
    by_cases e : S.cl j = o.toNat
    · rw [if_pos e, if_pos ⟨by omega, by omega⟩]
      rfl
    · rw [if_neg e, if_neg (fun x => e (by omega))]
      rfl
  · rw [if_neg h, if_neg h, if_neg (fun x => h ⟨by omega, by omega⟩)]
    rfl
set_option maxHeartbeats 800000 in
theorem rcount (h : RF B w R r S) (o : Int) : Calls Tryz.prog 33 #[.pointer (some ⟨R, 0, none⟩), .int .i64 o] w fun e w' => e = .returned (.tuple #[.int .i64 (own S o), .int .i64 (S.ct 17)]) ∧ w' = w := by
  have hl := h.lt
  have hrl := h.rlt
  have c0 := h.c0
  have n2 := h.ok.n2
  have HF : Hid (RF B w R r S) := h
  clear h
  go_enter Tryz.func33, Tryz.ntmps33
  go_wp2_with fail
  go_loopw [6, 7, 8] (fun x y i wr => ∃ j : Nat, j ≤ S.n ∧ i = .int .i64 j ∧ x = .int .i64 (ownJ S o j) ∧ y = .int .i64 (cn S.cl j 17) ∧ wr = w) (fun _ _ i _ => S.n - (intOf i).toNat)
  case atStart => exact ⟨0, by omega, rfl, by rw [ownJ_zero], rfl, rfl⟩
  case round =>
    obtain ⟨j, hj, rfl, rfl, rfl, rfl⟩ := hrel
    obtain ⟨b1, b2⟩ := ownJ_range S o j
    have b3 := cn_le S.cl j 17
    by_cases hjn : j < S.n
    · have hjn' : (j : Int) < S.n := by omega
      have r0 := HF.out.r0 hjn
      have r1 := HF.out.r1 hjn
      have tt := HF.out.ok.t j hjn
      have e1 := ownJ_succ S o j (HF.out.ok.c j)
      have e2 := cn_succ S.cl j 17
      by_cases e : S.cl j = 17
      · rw [tt.1 e] at r1
        rw [if_neg (fun x => x.1 e)] at e1
        rw [if_pos e] at e2
        have e3 : ((cn S.cl (j + 1) 17 : Nat) : Int) = (cn S.cl j 17 : Int) + 1 := by omega
        have H1 : Hid (ownJ S o (j + 1) = ownJ S o j + 0) := e1
        have H2 : Hid (((cn S.cl (j + 1) 17 : Nat) : Int) = (cn S.cl j 17 : Int) + 1) := e3
        have b4 : (0 : Int) ≤ (cn S.cl j 17 : Int) ∧ (cn S.cl j 17 : Int) ≤ 65536 := by omega
        obtain ⟨b4, b5⟩ := b4
        clear e1 e2 e3 tt b3
        generalize ownJ S o j = u at *
        generalize ((cn S.cl j 17 : Nat) : Int) = v at *
        go_wp2_with fail
        go_roundw
        case rel => exact ⟨j + 1, by omega, by go_num, by rw [H1.out, Int.add_zero], by rw [H2.out], trivial⟩
        case measure => simp [intOf]; omega
      · have t1 := (tt.2 e).1
        have t2 : (0 : Int) < (S.ti j : Int) := by omega
        rw [if_neg e] at e2
        rw [show rO S j = S.cl j by unfold rO; rw [if_neg e]] at r0
        by_cases e0 : (S.cl j : Int) = o
        · rw [if_pos ⟨e, e0⟩] at e1
          rw [e0] at r0
          have H1 : Hid (ownJ S o (j + 1) = ownJ S o j + 1) := e1
          have H2 : Hid (((cn S.cl (j + 1) 17 : Nat) : Int) = (cn S.cl j 17 : Int)) := by have := e2; show _ = _; omega
          clear e1 e2 tt b3 t1 e0 e
          generalize ownJ S o j = u at *
          generalize ((cn S.cl j 17 : Nat) : Int) = v at *
          generalize ((S.ti j : Nat) : Int) = t at *
          go_wp2_with fail
          go_roundw
          case rel => exact ⟨j + 1, by omega, by go_num, by rw [H1.out], by rw [H2.out], trivial⟩
          case measure => simp [intOf]; omega
        · rw [if_neg (fun x => e0 x.2)] at e1
          have H1 : Hid (ownJ S o (j + 1) = ownJ S o j + 0) := e1
          have H2 : Hid (((cn S.cl (j + 1) 17 : Nat) : Int) = (cn S.cl j 17 : Int)) := by have := e2; show _ = _; omega
          clear e1 e2 tt b3 t1 e
          generalize ownJ S o j = u at *
          generalize ((cn S.cl j 17 : Nat) : Int) = v at *
          generalize ((S.ti j : Nat) : Int) = t at *
          generalize ((S.cl j : Nat) : Int) = c at *
          go_wp2_with fail
          go_roundw
          case rel => exact ⟨j + 1, by omega, by go_num, by rw [H1.out, Int.add_zero], by rw [H2.out], trivial⟩
          case measure => simp [intOf]; omega
    · obtain rfl : j = S.n := by omega
      go_wp2_with fail
      go_ret2
      exact ⟨rfl, rfl⟩
end
end Go.Proofs.YteghkhdpdeiocaaGreatDoor
namespace Go.Proofs.YteghkhdpdeiocaaGreatDoor
open Go.RowKit
set_option linter.unusedVariables false
set_option maxRecDepth 100000

section
variable {B : Nat → Prop} {w w' : World} {R r : Nat} {S : Fs}
theorem rwrong (h : RF B w R r S) (f o : Int) : Calls Tryz.prog 88 #[.pointer (some ⟨R, 0, none⟩), .int .i64 f, .int .i64 o] w fun e w' => e = .returned (.int .i64 (errC S f o o)) ∧ w' = w := by
  have hl := h.lt
  have hrl := h.rlt
  have c0 := h.c0
  have n2 := h.ok.n2
  have O := rowner o w
  unfold errC
  by_cases h1 : isO o
  · rw [decide_eq_true h1] at O
    by_cases h2 : f < 0
    · rw [if_neg (fun e => by have := e.2.2.1; omega)]
      clear h h1
      go_enter Tryz.func88, Tryz.ntmps88
      go_wp2_with fail
      refine O.mono ?_
      rintro e w ⟨rfl, rfl⟩
      go_wp2_with fail
      go_ret
      exact ⟨rfl, rfl⟩
    · by_cases h3 : f < S.n
      · rw [if_pos ⟨h1, h1, by omega, h3⟩]
        obtain ⟨i, rfl⟩ : ∃ i : Nat, f = i := ⟨f.toNat, by omega⟩
        have hi : i < S.n := by omega
        have r0 := h.r0 hi
        have r1 := h.r1 hi
        have tt := h.ok.t i hi
        simp only [Int.toNat_natCast]
        by_cases h4 : S.cl i = 17
        · rw [if_neg (fun e => by have := h1.2; omega)]
          rw [tt.1 h4] at r1
          clear h h1 tt
          go_enter Tryz.func88, Tryz.ntmps88
          go_wp2_with fail
          refine O.mono ?_
          rintro e w ⟨rfl, rfl⟩
          go_wp2_with fail
          go_ret
          exact ⟨rfl, rfl⟩
        · have t1 : (0 : Int) < (S.ti i : Int) := by have := (tt.2 h4).1; omega
          rw [show rO S i = S.cl i by unfold rO; rw [if_neg h4]] at r0
          by_cases h5 : (S.cl i : Int) = o
          · rw [if_pos h5]
            rw [h5] at r0
            clear h h1 tt h4 h5
            generalize ((S.ti i : Nat) : Int) = t at *
            go_enter Tryz.func88, Tryz.ntmps88
            go_wp2_with fail
            refine O.mono ?_
            rintro e w ⟨rfl, rfl⟩
            go_wp2_with fail
            go_ret
            exact ⟨rfl, rfl⟩
          · rw [if_neg h5]
            clear h h1 tt h4
            generalize ((S.ti i : Nat) : Int) = t at *
            generalize ((S.cl i : Nat) : Int) = c at *
            have tb : (t == 0) = false := by simp; omega
            have cb : (c != o) = true := by simp [h5]
            go_enter Tryz.func88, Tryz.ntmps88
            go_wp2_with fail
            refine O.mono ?_
            rintro e w ⟨rfl, rfl⟩
            go_wp2_with fail
            go_ret
            exact ⟨rfl, rfl⟩
      · have h3' : (S.n : Int) ≤ f := by omega
        rw [if_neg (fun e => by have := e.2.2.2; omega)]
        clear h h1
        go_enter Tryz.func88, Tryz.ntmps88
        go_wp2_with fail
        refine O.mono ?_
        rintro e w ⟨rfl, rfl⟩
        go_wp2_with fail
        go_ret
        exact ⟨rfl, rfl⟩
  · rw [decide_eq_false h1] at O
    rw [if_neg (fun e => h1 e.1)]
    clear h h1
    go_enter Tryz.func88, Tryz.ntmps88
    go_wp2_with fail
    refine O.mono ?_
    rintro e w ⟨rfl, rfl⟩
    go_wp2_with fail
    go_ret
    exact ⟨rfl, rfl⟩
theorem rhold (h : RF B w R r S) (f o : Int) : Calls Tryz.prog 60 #[.pointer (some ⟨R, 0, none⟩), .int .i64 f, .int .i64 o] w fun e w' => e = .returned (.int .i64 (hoE S f o)) ∧ RF B w' R r (hoS S f o) ∧ Tu Or B w w' := by
  have hl := h.lt
  have K := rwrong h f o
  have hok2 := hoS_ok h.ok f o
  by_cases h0 : errC S f o o = 0
  · rw [h0] at K
    obtain ⟨i, a, c, rfl, rfl, hac, hi, ha, hcc, hc⟩ := errC_ok h0
    clear hac hcc
    have hok := h.ok
    have tt := (hok.t i hi).2 (by omega)
    have n2 := hok.n2
    have c0 := h.c0
    have hrl := h.rlt
    have r1 := h.r1 hi
    have f1 := h.rfz (i * 2 + 1)
    have hi' : (i : Int) < S.n := by omega
    by_cases h1 : S.ti i = 65536
    · have e0 : hoE S i a = 18 := by unfold hoE; rw [if_pos h0, Int.toNat_natCast, if_pos h1]
      have e2 : hoS S i a = S := by unfold hoS; rw [if_neg (by omega)]
      rw [e0, e2]
      have t1 : (65536 : Int) ≤ (S.ti i : Int) := by omega
      have HF : Hid (RF B w R r S) := h
      clear h e0 e2 h0 hok hok2 h1 tt
      generalize ((S.ti i : Nat) : Int) = t at *
      go_enter Tryz.func60, Tryz.ntmps60
      go_wp2_with fail
      refine K.mono ?_
      rintro e w ⟨rfl, rfl⟩
      go_wp2_with fail
      go_ret
      exact ⟨rfl, HF.out, Tu.refl _ _ _⟩
    · have e0 : hoE S i a = 0 := by unfold hoE; rw [if_pos h0, Int.toNat_natCast, if_neg h1]
      have e2 : hoS S i a = S.set i (S.cl i) (S.ti i + 1) := by unfold hoS; rw [if_pos e0, Int.toNat_natCast]
      rw [e2] at hok2
      rw [e0, e2]
      have m := h.times hi hok2
      rw [show ((S.ti i + 1 : Nat) : Int) = (S.ti i : Int) + 1 from rfl] at m
      have HE : Hid (_) := m
      have t1 : ((S.ti i : Nat) : Int) < 65536 := by omega
      have t0 : (0 : Int) ≤ (S.ti i : Int) := by omega
      clear h e0 e2 h0 hok hok2 h1 tt m
      generalize ((S.ti i : Nat) : Int) = t at *
      go_enter Tryz.func60, Tryz.ntmps60
      go_wp2_with fail
      refine K.mono ?_
      rintro e w ⟨rfl, rfl⟩
      go_wp2_with fail
      go_ret
      exact ⟨rfl, HE.out⟩
  · have e0 : hoE S f o = errC S f o o := by unfold hoE; rw [if_neg h0]
    have e2 : hoS S f o = S := by unfold hoS; rw [if_neg (by omega)]
    rw [e0, e2]
    have HF : Hid (RF B w R r S) := h
    clear h e0 e2 hok2
    generalize errC S f o o = x at *
    go_enter Tryz.func60, Tryz.ntmps60
    go_wp2_with fail
    refine K.mono ?_
    rintro e w ⟨rfl, rfl⟩
    go_wp2_with fail
    go_ret
    exact ⟨rfl, HF.out, Tu.refl _ _ _⟩
end
end Go.Proofs.YteghkhdpdeiocaaGreatDoor
namespace Go.Proofs.YteghkhdpdeiocaaGreatDoor
open Go.RowKit
set_option linter.unusedVariables false
set_option maxRecDepth 100000

section
variable {B : Nat → Prop} {w w' : World} {R r : Nat} {S : Fs}
/-- a frame's owner turned alone -/
theorem RF.owner (h : RF B w R r S) {i c : Nat} (hi : i < S.n) (hok : Ok (S.set i c (S.ti i))) (hc : c ≠ 17) : RF B (w.setCell ⟨r, i * 2, none⟩ (.int .i64 c)) R r (S.set i c (S.ti i)) ∧ Tu Or B w (w.setCell ⟨r, i * 2, none⟩ (.int .i64 c)) := by
  obtain ⟨rs, r1, r2, r3⟩ := h.row
  have t1 := trn_setCell (fun k => k = r) r1 rfl (i * 2) (.int .i64 c)
  obtain ⟨cs, o1, o2⟩ := h.ob
  refine ⟨⟨⟨cs, (t1.block R h.lt h.ne).trans o1, o2⟩, ⟨_, setCell_eq_setRow w r (i * 2) rs 123 (0, 0) (.int .i64 c) r1 ▸ setRow_heap w r rs _ 123 _ r1, by rw [Array.size_setIfInBounds]; exact r2, fun j hj => ?_⟩, hok, h.lo⟩, h.tu (t1.mono fun k _ e => .inr e)⟩
  have hj' : j < S.n := hj
  refine ⟨?_, ?_⟩
  · show _ = some (Value.int .i64 (if upd S.cl i c j = 17 then (0 : Int) else (upd S.cl i c j : Nat)))
    by_cases e : j = i
    · subst e
      rw [upd_self, if_neg hc, Array.getElem?_setIfInBounds_self_of_lt (by omega)]
    · rw [upd_other _ _ _ e, Array.getElem?_setIfInBounds_ne (by omega)]
      exact (r3 j hj').1
  · show _ = some (Value.int .i64 (upd S.ti i (S.ti i) j : Nat))
    rw [Array.getElem?_setIfInBounds_ne (by omega)]
    by_cases e : j = i
    · subst e
      rw [upd_self]
      exact (r3 j hj').2
    · rw [upd_other _ _ _ e]
      exact (r3 j hj').2
theorem Fs.set_same (S : Fs) (i : Nat) : S.set i (S.cl i) (S.ti i) = S := by
  unfold Fs.set
  have h1 : upd S.cl i (S.cl i) = S.cl := by
    funext j
    by_cases e : j = i <;> simp [upd, e]
  have h2 : upd S.ti i (S.ti i) = S.ti := by
    funext j
    by_cases e : j = i <;> simp [upd, e]
  rw [h1, h2]
/-- a row of two numbers a frame -/
def RW (w : World) (r n : Nat) (fo ft : Nat → Int) : Prop := ∃ rs : Array Value, w.heap[r]? = some (.cells rs 123 (0, 0)) ∧ rs.size = n * 2 ∧ ∀ i, i < n → rs[i * 2]? = some (.int .i64 (fo i)) ∧ rs[i * 2 + 1]? = some (.int .i64 (ft i))
theorem RW.set0 {n : Nat} {fo ft : Nat → Int} (h : RW w r n fo ft) {i : Nat} (hi : i < n) (x : Int) : RW (w.setCell ⟨r, i * 2, none⟩ (.int .i64 x)) r n (upd fo i x) ft ∧ Trn (fun k => k = r) w (w.setCell ⟨r, i * 2, none⟩ (.int .i64 x)) := by
  obtain ⟨rs, r1, r2, r3⟩ := h
  refine ⟨⟨_, setCell_eq_setRow w r (i * 2) rs 123 (0, 0) (.int .i64 x) r1 ▸ setRow_heap w r rs _ 123 _ r1, by rw [Array.size_setIfInBounds]; exact r2, fun j hj => ⟨?_, ?_⟩⟩, trn_setCell (fun k => k = r) r1 rfl _ _⟩
  · by_cases e : j = i
    · subst e
      rw [upd_self, Array.getElem?_setIfInBounds_self_of_lt (by omega)]
    · rw [upd_other _ _ _ e, Array.getElem?_setIfInBounds_ne (by omega)]
      exact (r3 j hj).1
  · rw [Array.getElem?_setIfInBounds_ne (by omega)]
    exact (r3 j hj).2
theorem RW.set1 {n : Nat} {fo ft : Nat → Int} (h : RW w r n fo ft) {i : Nat} (hi : i < n) (x : Int) : RW (w.setCell ⟨r, i * 2 + 1, none⟩ (.int .i64 x)) r n fo (upd ft i x) ∧ Trn (fun k => k = r) w (w.setCell ⟨r, i * 2 + 1, none⟩ (.int .i64 x)) := by
  obtain ⟨rs, r1, r2, r3⟩ := h
  refine ⟨⟨_, setCell_eq_setRow w r (i * 2 + 1) rs 123 (0, 0) (.int .i64 x) r1 ▸ setRow_heap w r rs _ 123 _ r1, by rw [Array.size_setIfInBounds]; exact r2, fun j hj => ⟨?_, ?_⟩⟩, trn_setCell (fun k => k = r) r1 rfl _ _⟩
  · rw [Array.getElem?_setIfInBounds_ne (by omega)]
    exact (r3 j hj).1
  · by_cases e : j = i
    · subst e
      rw [upd_self, Array.getElem?_setIfInBounds_self_of_lt (by omega)]
    · rw [upd_other _ _ _ e, Array.getElem?_setIfInBounds_ne (by omega)]
      exact (r3 j hj).2
theorem RW.c0 {n : Nat} {fo ft : Nat → Int} (h : RW w r n fo ft) {i : Nat} (hi : i < n) : w.cell? ⟨r, i * 2, none⟩ = some (.int .i64 (fo i)) ∧ w.cell? ⟨r, i * 2 + 1, none⟩ = some (.int .i64 (ft i)) ∧ w.frozen? ⟨r, i * 2, none⟩ = false ∧ w.frozen? ⟨r, i * 2 + 1, none⟩ = false ∧ r < w.heap.size := by
  obtain ⟨rs, r1, r2, r3⟩ := h
  exact ⟨by rw [cell_at r1, (r3 i hi).1], by rw [cell_at r1, (r3 i hi).2], froz_at r1 _, froz_at r1 _, lt_of_heap r1⟩
/-- the document's frames behind stores into the row -/
theorem RF.of (h : RF B w R r S) {S' : Fs} (t : Trn (fun k => k = r) w w') (hn : S'.n = S.n) (hf : S'.fi = S.fi) (hq : S'.qu = S.qu) {fo ft : Nat → Int} (hr : RW w' r S.n fo ft) (ho : ∀ i, i < S.n → fo i = rO S' i ∧ ft i = S'.ti i) (hok : Ok S') : RF B w' R r S' ∧ Tu Or B w w' := by
  obtain ⟨cs, o1, o2⟩ := h.ob
  obtain ⟨rs, r1, r2, r3⟩ := hr
  refine ⟨⟨⟨cs, (t.block R h.lt h.ne).trans o1, ?_⟩, ⟨rs, r1, by rw [hn]; exact r2, fun i hi => ?_⟩, hok, h.lo⟩, h.tu (t.mono fun k _ e => .inr e)⟩
  · rw [hn, hf, hq]
    exact o2
  · rw [hn] at hi
    obtain ⟨e1, e2⟩ := ho i hi
    rw [← e1, ← e2]
    exact r3 i hi
theorem rfree (h : RF B w R r S) (f o : Int) : Calls Tryz.prog 61 #[.pointer (some ⟨R, 0, none⟩), .int .i64 f, .int .i64 o] w fun e w' => e = .returned (.tuple #[.bool (frB S f o), .int .i64 (errL S f o o)]) ∧ RF B w' R r (frS S f o) ∧ Tu Or B w w' := by
  have hl := h.lt
  have K := rwrong h f o
  have hok2 := frS_ok h.ok f o
  by_cases h0 : errC S f o o = 0
  · rw [h0] at K
    obtain ⟨i, a, c, rfl, rfl, hac, hi, ha, hcc, hc⟩ := errC_ok h0
    clear hac hcc
    have hok := h.ok
    have tt := (hok.t i hi).2 (by omega)
    have n2 := hok.n2
    have nf := hok.f
    have c0 := h.c0
    have c1 := h.c1
    have hrl := h.rlt
    have hne := h.ne
    have r0 := h.r0 hi
    have r1 := h.r1 hi
    have f0 := h.rfz (i * 2)
    have f1 := h.rfz (i * 2 + 1)
    have hi' : (i : Int) < S.n := by omega
    by_cases h1 : (i : Int) < S.fi
    · have e0 : errL S i a a = 21 := by unfold errL; rw [if_pos h0, if_pos h1]
      have e1 : frB S i a = false := by unfold frB; rw [e0]; rfl
      have e2 : frS S i a = S := by unfold frS; rw [if_neg (by omega)]
      rw [e0, e1, e2]
      have HF : Hid (RF B w R r S) := h
      clear h e0 e1 e2 h0 hok hok2 tt
      go_enter Tryz.func61, Tryz.ntmps61
      go_wp2_with fail
      refine K.mono ?_
      rintro e w ⟨rfl, rfl⟩
      go_wp2_with fail
      go_ret2
      exact ⟨rfl, HF.out, Tu.refl _ _ _⟩
    · have e0 : errL S i a a = 0 := by unfold errL; rw [if_pos h0, if_neg h1]
      by_cases h2 : 1 < S.ti i
      · have e1 : frB S i a = false := by unfold frB; rw [Int.toNat_natCast, decide_eq_false (show ¬ S.ti i ≤ 1 by omega), Bool.and_false]
        have e2 : frS S i a = S.set i (S.cl i) (S.ti i - 1) := by unfold frS; rw [if_pos e0, Int.toNat_natCast, if_pos h2]
        rw [e2] at hok2
        rw [e0, e1, e2]
        have m := h.times hi hok2
        rw [show ((S.ti i - 1 : Nat) : Int) = (S.ti i : Int) - 1 by omega] at m
        have HE : Hid (_) := m
        have r1' : (w.setCell ⟨r, i * 2 + 1, none⟩ (.int .i64 ((S.ti i : Int) - 1))).cell? ⟨r, i * 2 + 1, none⟩ = some (.int .i64 ((S.ti i : Int) - 1)) := by
          have := m.1.r1 (i := i) hi
          rwa [show (((S.set i (S.cl i) (S.ti i - 1)).ti i : Nat) : Int) = (S.ti i : Int) - 1 by rw [show (S.set i (S.cl i) (S.ti i - 1)).ti i = S.ti i - 1 from upd_self _ _ _]; omega] at this
        have c0' := m.1.c0
        have hl' := m.1.lt
        have hrl' := m.1.rlt
        have t1 : (1 : Int) < (S.ti i : Int) := by omega
        have t2 : (S.ti i : Int) ≤ 65536 := by omega
        have hnn : (S.set i (S.cl i) (S.ti i - 1)).n = S.n := rfl
        rw [hnn] at c0'
        clear h e0 e1 e2 h0 hok hok2 tt h2 m hnn
        generalize ((S.ti i : Nat) : Int) = t at *
        go_enter Tryz.func61, Tryz.ntmps61
        go_wp2_with fail
        refine K.mono ?_
        rintro e w ⟨rfl, rfl⟩
        go_wp2_with fail
        go_ret2
        exact ⟨rfl, HE.out⟩
      · have t1 : S.ti i = 1 := by omega
        have e1 : frB S i a = true := by unfold frB; rw [Int.toNat_natCast, decide_eq_true (show S.ti i ≤ 1 by omega), e0]; rfl
        have e2 : frS S i a = S.set i 17 0 := by unfold frS; rw [if_pos e0, Int.toNat_natCast, if_neg h2]
        rw [e2] at hok2
        rw [e0, e1, e2]
        rw [t1] at r1
        have HF : Hid (RF B w R r S) := h
        have HO : Hid (Ok (S.set i 17 0)) := hok2
        clear h e0 e1 e2 h0 hok hok2 tt h2
        go_enter Tryz.func61, Tryz.ntmps61
        go_wp2_with fail
        refine K.mono ?_
        rintro e w ⟨rfl, rfl⟩
        go_upto_region 7 with fail
        have W0 : RW w r S.n (rO S) (fun k => (S.ti k : Int)) := HF.out.row
        obtain ⟨W1, T1⟩ := W0.set1 hi 0
        have c0' : (w.setCell ⟨r, i * 2 + 1, none⟩ (.int .i64 0)).cell? ⟨R, 0, none⟩ = some (.slice (some ⟨r, 0, none⟩) S.n S.n) := by
          obtain ⟨cs, o1, _⟩ := HF.out.ob
          rw [cell_at ((T1.block R HF.out.lt HF.out.ne).trans o1), ← cell_at o1]
          exact c0
        have hl' : R < (w.setCell ⟨r, i * 2 + 1, none⟩ (.int .i64 0)).heap.size := by have := T1.size; omega
        clear c0 c1 r0 r1 f0 f1 hl hrl
        generalize (w.setCell ⟨r, i * 2 + 1, none⟩ (.int .i64 0)) = w1 at *
        obtain ⟨W2, T2⟩ := W1.set0 hi 0
        obtain ⟨W3, T3⟩ := W2.set1 hi 0
        have HE : Hid (_) := HF.out.of (S' := S.set i 17 0) ((T1.trans T2).trans T3) rfl rfl rfl W3 (fun j hj => by
          show upd (rO S) i 0 j = (if upd S.cl i 17 j = 17 then (0 : Int) else (upd S.cl i 17 j : Nat)) ∧ upd (upd (fun k => (S.ti k : Int)) i 0) i 0 j = (upd S.ti i 0 j : Nat)
          by_cases e : j = i
          · subst e
            rw [upd_self, upd_self, upd_self, upd_self]
            exact ⟨rfl, rfl⟩
          · rw [upd_other _ _ _ e, upd_other _ _ _ e, upd_other _ _ _ e, upd_other _ _ _ e, upd_other _ _ _ e]
            exact ⟨rfl, rfl⟩) HO.out
        obtain ⟨d0, d1, d2, d3, d4⟩ := W1.c0 hi
        rw [upd_self] at d1
        clear W0 W1 W2 W3 T1 T2 T3
        go_wp2_with fail
        go_ret2
        exact ⟨rfl, HE.out⟩
  · have e0 : errL S f o o = errC S f o o := by unfold errL; rw [if_neg h0]
    have e1 : frB S f o = false := by unfold frB; rw [e0, decide_eq_false h0, Bool.false_and]
    have e2 : frS S f o = S := by unfold frS; rw [if_neg (by omega)]
    rw [e0, e1, e2]
    have HF : Hid (RF B w R r S) := h
    clear h e0 e1 e2 hok2
    generalize errC S f o o = x at *
    go_enter Tryz.func61, Tryz.ntmps61
    go_wp2_with fail
    refine K.mono ?_
    rintro e w ⟨rfl, rfl⟩
    go_wp2_with fail
    go_ret2
    exact ⟨rfl, HF.out, Tu.refl _ _ _⟩
end
end Go.Proofs.YteghkhdpdeiocaaGreatDoor
namespace Go.Proofs.YteghkhdpdeiocaaGreatDoor
open Go.RowKit
set_option linter.unusedVariables false
set_option maxRecDepth 100000

section
variable {B : Nat → Prop} {w w' : World} {R r : Nat} {S : Fs}
set_option maxHeartbeats 800000 in
theorem ralloc (h : RF B w R r S) (o : Int) : Calls Tryz.prog 27 #[.pointer (some ⟨R, 0, none⟩), .int .i64 o] w fun e w' => e = .returned (.tuple #[.int .i64 (alR S o), .int .i64 (alE S o)]) ∧ RF B w' R r (alS S o) ∧ Tu Or B w w' := by
  have hl := h.lt
  have O := rowner o w
  have hok2 := alS_ok h.ok o
  by_cases h1 : isO o
  · rw [decide_eq_true h1] at O
    obtain ⟨a, rfl⟩ : ∃ a : Nat, o = a := ⟨o.toNat, by have := h1.1; omega⟩
    have ha : a ≤ 16 := by have := h1.2; omega
    have ha' : (a : Int) < 17 := by omega
    have Q := rcount h (a : Int)
    have hown : own S a = S.ct a := by unfold own; rw [if_pos h1, Int.toNat_natCast]
    rw [hown] at Q
    have cq := h.cq (k := a) (by omega)
    have hq := h.ok.q a
    have hcl := cn_le S.cl S.n a
    have n2 := h.ok.n2
    have hct : (S.ct a : Int) ≤ 65536 ∧ (0 : Int) ≤ (S.ct a : Int) := by unfold Fs.ct; omega
    obtain ⟨hct, hct0⟩ := hct
    by_cases h2 : S.qu a ≤ S.ct a
    · have e0 : alE S a = 19 := by unfold alE; rw [if_pos h1, Int.toNat_natCast, if_pos h2]
      have e1 : alR S a = 0 := by unfold alR; rw [if_neg (by omega)]
      have e2 : alS S a = S := by unfold alS; rw [if_neg (by omega)]
      rw [e0, e1, e2]
      have HF : Hid (RF B w R r S) := h
      clear h h1 e0 e1 e2 hown hcl hok2
      generalize ((S.ct a : Nat) : Int) = ct at *
      generalize S.qu a = qa at *
      go_enter Tryz.func27, Tryz.ntmps27
      go_wp2_with fail
      refine O.mono ?_
      rintro e w ⟨rfl, rfl⟩
      go_wp2_with fail
      refine Q.mono ?_
      rintro e w ⟨rfl, rfl⟩
      go_wp2_with fail
      go_ret2
      exact ⟨rfl, HF.out, Tu.refl _ _ _⟩
    · have h2' : (S.ct a : Int) < S.qu a := by omega
      have HF : Hid (RF B w R r S) := h
      have c0 := h.c0
      have hrl := h.rlt
      have hu : alE S a = if S.ct 17 = 0 then 20 else 0 := by unfold alE; rw [if_pos h1, Int.toNat_natCast, if_neg h2]
      have H2 : Hid (Ok (alS S a) ∧ alE S a = if S.ct 17 = 0 then 20 else 0) := ⟨hok2, hu⟩
      clear h h1 hown hcl hok2 h2 hu
      obtain ⟨ct, hct1⟩ : ∃ x : Int, (S.ct a : Int) = x := ⟨_, rfl⟩
      obtain ⟨qa, hqa⟩ : ∃ x : Int, S.qu a = x := ⟨_, rfl⟩
      rw [hct1] at Q h2' hct hct0
      rw [hqa] at cq h2' hq
      clear hct1 hqa
      go_enter Tryz.func27, Tryz.ntmps27
      go_wp2_with fail
      refine O.mono ?_
      rintro e w ⟨rfl, rfl⟩
      go_wp2_with fail
      refine Q.mono ?_
      rintro e w ⟨rfl, rfl⟩
      go_wp2_with fail
      go_loopw [8] (fun i wr => ∃ j : Nat, j ≤ S.n ∧ i = .int .i64 j ∧ Hid (∀ k, k < j → S.cl k ≠ 17) ∧ wr = w) (fun i _ => S.n - (intOf i).toNat)
      case atStart => exact ⟨0, by omega, rfl, fun k hk => absurd hk (by omega), rfl⟩
      case round =>
        obtain ⟨j, hj, rfl, HJ, rfl⟩ := hrel
        by_cases hjn : j < S.n
        · have hjn' : (j : Int) < S.n := by omega
          have r0 := HF.out.r0 hjn
          have r1 := HF.out.r1 hjn
          have f0 := HF.out.rfz (j * 2)
          have f1 := HF.out.rfz (j * 2 + 1)
          have tt := HF.out.ok.t j hjn
          by_cases e : S.cl j = 17
          · rw [tt.1 e] at r1
            have hls : S.lst = j := S.lst_eq hjn e HJ.out
            have h17 : ¬ S.ct 17 = 0 := by have := cn_pos S.cl S.n j hjn; rw [e] at this; unfold Fs.ct; omega
            have e0 : alE S a = 0 := by rw [H2.out.2, if_neg h17]
            have e1 : alR S a = j := by unfold alR; rw [if_pos e0, hls]
            have e2 : alS S a = S.set j a 1 := by unfold alS; rw [if_pos e0, hls, Int.toNat_natCast]
            have m := HF.out.both (i := j) (c := a) (t := 1) hjn (by rw [← e2]; exact H2.out.1) (a : Int) (by rw [if_neg (by omega)])
            rw [← e2] at m
            have HE : Hid (_) := m
            have HEe : Hid (alE S a = 0 ∧ alR S a = j) := ⟨e0, e1⟩
            clear m e0 e1 e2 h17 hls tt e
            go_wp2_with fail
            go_ret2
            exact ⟨by rw [HEe.out.1, HEe.out.2]; rfl, HE.out⟩
          · have t1 : (0 : Int) < (S.ti j : Int) := by have := (tt.2 e).1; omega
            have HN : Hid (∀ k, k < j + 1 → S.cl k ≠ 17) := fun k hk => by
              rcases Nat.lt_succ_iff_lt_or_eq.1 hk with h | rfl
              · exact HJ.out k h
              · exact e
            clear tt e
            generalize ((S.ti j : Nat) : Int) = t at *
            go_wp2_with fail
            go_roundw
            case rel => exact ⟨j + 1, by omega, by go_num, HN, trivial⟩
            case measure => simp [intOf]; omega
        · obtain rfl : j = S.n := by omega
          have h17 : S.ct 17 = 0 := by
            rcases Nat.eq_zero_or_pos (S.ct 17) with h | h
            · exact h
            · obtain ⟨f, g1, g2⟩ := cn_some _ _ _ h
              exact absurd g2 (HJ.out f g1)
          have e0 : alE S a = 20 := by rw [H2.out.2, if_pos h17]
          have e1 : alR S a = 0 := by unfold alR; rw [if_neg (by omega)]
          have e2 : alS S a = S := by unfold alS; rw [if_neg (by omega)]
          have HEe : Hid (alE S a = 20 ∧ alR S a = 0 ∧ alS S a = S) := ⟨e0, e1, e2⟩
          clear e0 e1 e2 h17
          go_wp2_with fail
          go_ret2
          exact ⟨by rw [HEe.out.1, HEe.out.2.1]; rfl, by rw [HEe.out.2.2]; exact HF.out, Tu.refl _ _ _⟩
  · rw [decide_eq_false h1] at O
    have e0 : alE S o = 2 := by unfold alE; rw [if_neg h1]
    have e1 : alR S o = 0 := by unfold alR; rw [if_neg (by omega)]
    have e2 : alS S o = S := by unfold alS; rw [if_neg (by omega)]
    rw [e0, e1, e2]
    have HF : Hid (RF B w R r S) := h
    clear h h1 e0 e1 e2 hok2
    go_enter Tryz.func27, Tryz.ntmps27
    go_wp2_with fail
    refine O.mono ?_
    rintro e w ⟨rfl, rfl⟩
    go_wp2_with fail
    go_ret2
    exact ⟨rfl, HF.out, Tu.refl _ _ _⟩
end
theorem info39 : ∃ i, Tryz.prog.info? 123 = some i ∧ i.zero = some (.agg #[.int .i64 0, .int .i64 0]) ∧ i.size = 2 ∧ i.bytes = 16 := by
  have h : (Tryz.prog.info? 123).map (fun i => (i.zero, i.size, i.bytes)) = some (some (.agg #[.int .i64 0, .int .i64 0]), 2, 16) := by kernel_rfl
  obtain ⟨i, hi, hb⟩ := Option.map_eq_some_iff.1 h
  simp only [Prod.mk.injEq] at hb
  exact ⟨i, hi, hb.1, hb.2.1, hb.2.2⟩
theorem make_rrow (w : World) (n : Nat) (hn : n ≤ 65536) : (Instr.makeSlice 119 (.int .i64 n) (.int .i64 n)).run Tryz.prog w = .ok (.slice (some ⟨w.heap.size, 0, none⟩) n n) (w.alloc (.cells (madeCells #[.int .i64 0, .int .i64 0] (n * 2)) 123)) := by
  obtain ⟨i, hi, hz, hs, hb⟩ := info39
  have := run_makeSlice (P := Tryz.prog) w 119 123 i _ Tryz.underlying119 hi hz .i64 .i64 n n (by omega) (by omega) (by rw [hs]; simp; omega) (by rw [hb]; omega) (by omega)
  rw [hs] at this
  exact this
theorem frnew_no (n f : Int) (w : World) (h : ¬ (1 ≤ n ∧ n ≤ 65536 ∧ 0 ≤ f ∧ f ≤ n)) : Calls Tryz.prog 17 #[.int .i64 n, .int .i64 f] w fun e w' => e = .returned (.tuple #[.pointer none, .int .i64 2]) ∧ w' = w := by
  by_cases h1 : n < 1
  · go_enter Tryz.func17, Tryz.ntmps17
    go_wp2_with fail
    go_ret2
    exact ⟨rfl, rfl⟩
  · by_cases h2 : 65536 < n
    · go_enter Tryz.func17, Tryz.ntmps17
      go_wp2_with fail
      go_ret2
      exact ⟨rfl, rfl⟩
    · by_cases h3 : f < 0
      · go_enter Tryz.func17, Tryz.ntmps17
        go_wp2_with fail
        go_ret2
        exact ⟨rfl, rfl⟩
      · have h4 : n < f := by omega
        go_enter Tryz.func17, Tryz.ntmps17
        go_wp2_with fail
        go_ret2
        exact ⟨rfl, rfl⟩
/-- the document's block -/
def RO (w : World) (R r n f : Nat) (qu : Nat → Int) : Prop := ∃ cs : Array Value, w.heap[R]? = some (.cells cs 121 (0, 0)) ∧ cs.size = 19 ∧ cs[0]? = some (.slice (some ⟨r, 0, none⟩) n n) ∧ cs[1]? = some (.int .i64 f) ∧ ∀ k, k < 17 → cs[2 + k]? = some (.int .i64 (qu k))
section
variable {w w' : World} {R r n f : Nat} {qu : Nat → Int}
theorem RO.keep (h : RO w R r n f qu) (hk : w'.heap[R]? = w.heap[R]?) : RO w' R r n f qu := by
  obtain ⟨cs, h1, h2⟩ := h
  exact ⟨cs, hk.trans h1, h2⟩
theorem RO.lt (h : RO w R r n f qu) : R < w.heap.size := by
  obtain ⟨cs, h1, h2⟩ := h
  exact lt_of_heap h1
theorem RO.c0 (h : RO w R r n f qu) : w.cell? ⟨R, 0, none⟩ = some (.slice (some ⟨r, 0, none⟩) n n) := by
  obtain ⟨cs, h, h1, h2, _⟩ := h
  rw [cell_at h, h2]
theorem RO.cq (h : RO w R r n f qu) {k : Nat} (hk : k < 17) : w.cell? ⟨R, 2 + k, none⟩ = some (.int .i64 (qu k)) ∧ w.frozen? ⟨R, 2 + k, none⟩ = false := by
  obtain ⟨cs, h, h1, h2, h3, h4⟩ := h
  exact ⟨by rw [cell_at h, h4 k hk], froz_at h _⟩
theorem RO.set (h : RO w R r n f qu) {k : Nat} (hk : k < 17) (v : Int) : RO (w.setCell ⟨R, 2 + k, none⟩ (.int .i64 v)) R r n f (upd qu k v) ∧ Trn (fun b => b = R) w (w.setCell ⟨R, 2 + k, none⟩ (.int .i64 v)) := by
  obtain ⟨cs, o1, o2, o3, o4, o5⟩ := h
  refine ⟨⟨_, setCell_eq_setRow w R (2 + k) cs 121 (0, 0) (.int .i64 v) o1 ▸ setRow_heap w R cs _ 121 _ o1, by rw [Array.size_setIfInBounds]; exact o2, ?_, ?_, fun j hj => ?_⟩, trn_setCell (fun b => b = R) o1 rfl _ _⟩
  · rw [Array.getElem?_setIfInBounds_ne (by omega)]; exact o3
  · rw [Array.getElem?_setIfInBounds_ne (by omega)]; exact o4
  · by_cases e : j = k
    · subst e
      rw [upd_self, Array.getElem?_setIfInBounds_self_of_lt (by omega)]
    · rw [upd_other _ _ _ e, Array.getElem?_setIfInBounds_ne (by omega)]
      exact o5 j hj
end
/-- the block as New lays it -/
def rb0 (r n f : Nat) : Array Value := #[.slice (some ⟨r, 0, none⟩) n n, .int .i64 f, .int .i64 0, .int .i64 0, .int .i64 0, .int .i64 0, .int .i64 0, .int .i64 0, .int .i64 0, .int .i64 0, .int .i64 0, .int .i64 0, .int .i64 0, .int .i64 0, .int .i64 0, .int .i64 0, .int .i64 0, .int .i64 0, .int .i64 0]
theorem rb0_q (r n f : Nat) : ∀ k, k < 17 → (rb0 r n f)[2 + k]? = some (.int .i64 0)
  | 0, _ => rfl
  | 1, _ => rfl
  | 2, _ => rfl
  | 3, _ => rfl
  | 4, _ => rfl
  | 5, _ => rfl
  | 6, _ => rfl
  | 7, _ => rfl
  | 8, _ => rfl
  | 9, _ => rfl
  | 10, _ => rfl
  | 11, _ => rfl
  | 12, _ => rfl
  | 13, _ => rfl
  | 14, _ => rfl
  | 15, _ => rfl
  | 16, _ => rfl
  | k + 17, h => by omega
theorem rstart (w : World) (n f : Nat) : RO ((w.alloc (.cells (madeCells #[.int .i64 0, .int .i64 0] (n * 2)) 123)).alloc (.cells (rb0 w.heap.size n f) 121)) (w.heap.size + 1) w.heap.size n f (fun _ => 0) ∧
    RW ((w.alloc (.cells (madeCells #[.int .i64 0, .int .i64 0] (n * 2)) 123)).alloc (.cells (rb0 w.heap.size n f) 121)) w.heap.size n (fun _ => 0) (fun i => if i < 0 then 1 else 0) ∧ Below w.heap.size w ((w.alloc (.cells (madeCells #[.int .i64 0, .int .i64 0] (n * 2)) 123)).alloc (.cells (rb0 w.heap.size n f) 121)) := by
  have hs : (w.alloc (.cells (madeCells #[.int .i64 0, .int .i64 0] (n * 2)) 123)).heap.size = w.heap.size + 1 := by simp
  have h1 := heap_alloc_at (w.alloc (.cells (madeCells #[.int .i64 0, .int .i64 0] (n * 2)) 123)) (.cells (rb0 w.heap.size n f) 121)
  rw [hs] at h1
  have h2 := (heap_alloc_past (w.alloc (.cells (madeCells #[.int .i64 0, .int .i64 0] (n * 2)) 123)) (.cells (rb0 w.heap.size n f) 121) (k := w.heap.size) (by omega)).trans (heap_alloc_at w _)
  refine ⟨⟨_, h1, rfl, rfl, rfl, rb0_q _ _ _⟩, ⟨_, h2, by simp [madeCells], fun i hi => ?_⟩, ((Below.refl _ _).alloc (Nat.le_refl _) _).alloc (by simp) _⟩
  have hz : ∀ k, k < n * 2 → (madeCells #[Value.int .i64 0, .int .i64 0] (n * 2))[k]? = some (.int .i64 0) := fun k hk => by
    have e : k % 2 = 0 ∨ k % 2 = 1 := by omega
    rcases e with e | e <;> simp [madeCells, hk, e]
  exact ⟨hz _ (by omega), hz _ (by omega)⟩
set_option maxHeartbeats 800000 in
theorem frnew_yes (n f : Nat) (w : World) (h1 : 1 ≤ n) (h2 : n ≤ 65536) (h3 : f ≤ n) : Calls Tryz.prog 17 #[.int .i64 n, .int .i64 f] w fun e w' => ∃ R r, e = .returned (.tuple #[.pointer (some ⟨R, 0, none⟩), .int .i64 0]) ∧ RF (Lw w.heap.size) w' R r (nwS n f f) ∧ Below w.heap.size w w' := by
  have hmk := make_rrow w n h2
  have HS : Hid (_) := rstart w n f
  have hdd : decide (n < f) = false := decide_eq_false (by omega)
  go_enter Tryz.func17, Tryz.ntmps17
  go_wp2_with fail
  go_loopw [7] (fun i wr => ∃ j : Nat, j ≤ f ∧ i = .int .i64 j ∧ Hid (RO wr (w.heap.size + 1) w.heap.size n f (fun _ => 0) ∧ RW wr w.heap.size n (fun _ => 0) (fun i => if i < j then 1 else 0) ∧ Below w.heap.size w wr)) (fun i _ => f - (intOf i).toNat)
  case atStart => exact ⟨0, by omega, rfl, HS.out⟩
  case round =>
    obtain ⟨j, hj, rfl, HJ⟩ := hrel
    by_cases hjn : j < f
    · have hjn' : (j : Int) < f := by omega
      have hjn2 : (j : Int) < n := by omega
      have c0 := HJ.out.1.c0
      have hl := HJ.out.1.lt
      obtain ⟨d0, d1, d2, d3, d4⟩ := HJ.out.2.1.c0 (i := j) (by omega)
      have HN : Hid (RO (wr.setCell ⟨w.heap.size, j * 2 + 1, none⟩ (.int .i64 1)) (w.heap.size + 1) w.heap.size n f (fun _ => 0) ∧ RW (wr.setCell ⟨w.heap.size, j * 2 + 1, none⟩ (.int .i64 1)) w.heap.size n (fun _ => 0) (fun i => if i < j + 1 then 1 else 0) ∧ Below w.heap.size w (wr.setCell ⟨w.heap.size, j * 2 + 1, none⟩ (.int .i64 1))) := by
        obtain ⟨hO, hR, hB⟩ := HJ.out
        obtain ⟨o1, t1⟩ := hR.set1 (i := j) (by omega) 1
        rw [below_succ] at o1
        exact ⟨hO.keep (t1.block _ hO.lt (by omega)), o1, t1.os.trans hB.os, t1.tape.trans hB.tape, t1.output.trans hB.output, Nat.le_trans hB.size t1.size, fun k hk => (t1.block k (Nat.lt_of_lt_of_le hk hB.size) (by omega)).trans (hB.block k hk)⟩
      clear HJ
      go_wp2_with fail
      go_roundw
      case rel => exact ⟨j + 1, by omega, by go_num, HN.out⟩
      case measure => simp [intOf]; omega
    · obtain rfl : j = f := by omega
      have HF : Hid (RO wr (w.heap.size + 1) w.heap.size n j (fun k => if k < 0 then (n : Int) else 0) ∧ RW wr w.heap.size n (fun _ => 0) (fun i => if i < j then 1 else 0) ∧ Below w.heap.size w wr) := HJ.out
      clear HJ HS
      go_wp2_with fail
      go_loopw [8] (fun i wq => ∃ k : Nat, k ≤ 17 ∧ i = .int .i64 k ∧ Hid (RO wq (w.heap.size + 1) w.heap.size n j (fun q => if q < k then (n : Int) else 0) ∧ RW wq w.heap.size n (fun _ => 0) (fun i => if i < j then 1 else 0) ∧ Below w.heap.size w wq)) (fun i _ => 17 - (intOf i).toNat)
      case atStart => exact ⟨0, by omega, rfl, HF.out⟩
      case round =>
        obtain ⟨k, hk, rfl, HJ⟩ := hrel
        by_cases hkn : k < 17
        · have hkn' : (k : Int) < 17 := by omega
          obtain ⟨cq, fq⟩ := HJ.out.1.cq hkn
          have hl := HJ.out.1.lt
          have HN : Hid (RO (wr.setCell ⟨w.heap.size + 1, 2 + k, none⟩ (.int .i64 n)) (w.heap.size + 1) w.heap.size n j (fun q => if q < k + 1 then (n : Int) else 0) ∧ RW (wr.setCell ⟨w.heap.size + 1, 2 + k, none⟩ (.int .i64 n)) w.heap.size n (fun _ => 0) (fun i => if i < j then 1 else 0) ∧ Below w.heap.size w (wr.setCell ⟨w.heap.size + 1, 2 + k, none⟩ (.int .i64 n))) := by
            obtain ⟨hO, hR, hB⟩ := HJ.out
            obtain ⟨o1, t1⟩ := hO.set hkn (n : Int)
            rw [below_succ] at o1
            obtain ⟨rs, q1, q2⟩ := hR
            exact ⟨o1, ⟨rs, (t1.block _ (lt_of_heap q1) (by omega)).trans q1, q2⟩, t1.os.trans hB.os, t1.tape.trans hB.tape, t1.output.trans hB.output, Nat.le_trans hB.size t1.size, fun k hk => (t1.block k (Nat.lt_of_lt_of_le hk hB.size) (by omega)).trans (hB.block k hk)⟩
          clear HJ
          go_wp2_with fail
          go_roundw
          case rel => exact ⟨k + 1, by omega, by go_num, HN.out⟩
          case measure => simp [intOf]; omega
        · obtain rfl : k = 17 := by omega
          have HE : Hid (RF (Lw w.heap.size) wr (w.heap.size + 1) w.heap.size (nwS n j j) ∧ Below w.heap.size w wr) := by
            obtain ⟨⟨cs, o1, o2, o3, o4, o5⟩, ⟨rs, q1, q2, q3⟩, hB⟩ := HJ.out
            have hcl : ∀ i, (nwS n j j).cl i = if i < j then 0 else 17 := fun i => rfl
            have hti : ∀ i, (nwS n j j).ti i = if i < j then 1 else 0 := fun i => rfl
            refine ⟨⟨⟨cs, o1, o2, o3, o4, fun k hk => (o5 k hk).trans (by simp [hk, nwS])⟩, ⟨rs, q1, q2, fun i hi => ?_⟩, ⟨h1, h2, h3, fun i => ?_, fun i hi => ?_, fun k => by simp only [nwS]; omega⟩, (fun e => by have : w.heap.size + 1 < w.heap.size := e; omega), (fun e => by have : w.heap.size < w.heap.size := e; omega)⟩, hB⟩
            · obtain ⟨e1, e2⟩ := q3 i hi
              rw [e1, e2]
              unfold rO
              rw [hcl, hti]
              by_cases e : i < j
              · simp [e]
              · simp [e]
            · rw [hcl]
              split <;> omega
            · rw [hcl, hti]
              split <;> omega
          clear HJ
          go_wp2_with fail
          go_ret2
          exact ⟨_, _, rfl, HE.out⟩
end Go.Proofs.YteghkhdpdeiocaaGreatDoor
