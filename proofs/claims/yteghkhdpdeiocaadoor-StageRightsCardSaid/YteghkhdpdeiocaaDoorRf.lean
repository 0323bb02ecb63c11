/-
  The document's frames in the heap: a block of 19 cells, a row of two cells a frame; what its small functions tell.
-/
import Derived.Test.YteghkhdpdeiocaaDoorSm
namespace Go.Proofs.YteghkhdpdeiocaaDoor
open Go.RowKit
set_option linter.unusedVariables false
set_option maxRecDepth 100000

/-- the blocks that the document's frames are made of -/
def Or : Obj → Prop
  | .cells _ t _ => t = 136 ∨ t = 138
  | _ => False
/-- what stands as owner -/
def rO (S : Fs) (i : Nat) : Int := if S.cl i = 17 then 0 else S.cl i
structure RF (B : Nat → Prop) (w : World) (R r : Nat) (S : Fs) : Prop where
  ob : ∃ cs : Array Value, w.heap[R]? = some (.cells cs 136 (0, 0)) ∧ cs.size = 19 ∧ cs[0]? = some (.slice (some ⟨r, 0, none⟩) S.n S.n) ∧ cs[1]? = some (.int .i64 S.fi) ∧ ∀ k, k < 17 → cs[2 + k]? = some (.int .i64 (S.qu k))
  row : ∃ rs : Array Value, w.heap[r]? = some (.cells rs 138 (0, 0)) ∧ rs.size = S.n * 2 ∧ ∀ i, i < S.n → rs[i * 2]? = some (.int .i64 (rO S i)) ∧ rs[i * 2 + 1]? = some (.int .i64 (S.ti i))
  ok : Ok S
  lo : ¬ B R ∧ ¬ B r
section
variable {B : Nat → Prop} {w w' : World} {R r : Nat} {S : Fs}
theorem RF.lt (h : RF B w R r S) : R < w.heap.size := by
  obtain ⟨cs, h, _⟩ := h.ob
  exact lt_of_heap h
theorem RF.rlt (h : RF B w R r S) : r < w.heap.size := by
  obtain ⟨cs, h, _⟩ := h.row
  exact lt_of_heap h
theorem RF.ne (h : RF B w R r S) : R ≠ r := by
  obtain ⟨a, h1, _⟩ := h.ob
  obtain ⟨b, h2, _⟩ := h.row
  exact ne_typ h1 h2 (by decide)
theorem RF.keep (h : RF B w R r S) (hk : ∀ (k : Nat) (o : Obj), w.heap[k]? = some o → Or o → w'.heap[k]? = some o) : RF B w' R r S := by
  obtain ⟨a, h1, g1⟩ := h.ob
  obtain ⟨b, h2, g2⟩ := h.row
  exact ⟨⟨a, hk _ _ h1 (.inl rfl), g1⟩, ⟨b, hk _ _ h2 (.inr rfl), g2⟩, h.ok, h.lo⟩
theorem RF.below (h : RF B w R r S) (hk : Below w.heap.size w w') : RF B w' R r S := h.keep fun k o ho _ => (hk.block k (lt_of_heap ho)).trans ho
theorem RF.c0 (h : RF B w R r S) : w.cell? ⟨R, 0, none⟩ = some (.slice (some ⟨r, 0, none⟩) S.n S.n) := by
  obtain ⟨cs, h, h1, h2, _⟩ := h.ob
  rw [cell_at h, h2]
theorem RF.c1 (h : RF B w R r S) : w.cell? ⟨R, 1, none⟩ = some (.int .i64 S.fi) := by
  obtain ⟨cs, h, h1, h2, h3, _⟩ := h.ob
  rw [cell_at h, h3]
theorem RF.cq (h : RF B w R r S) {k : Nat} (hk : k < 17) : w.cell? ⟨R, 2 + k, none⟩ = some (.int .i64 (S.qu k)) := by
  obtain ⟨cs, h, h1, h2, h3, h4⟩ := h.ob
  rw [cell_at h, h4 k hk]
theorem RF.r0 (h : RF B w R r S) {i : Nat} (hi : i < S.n) : w.cell? ⟨r, i * 2, none⟩ = some (.int .i64 (rO S i)) := by
  obtain ⟨cs, h, h1, h2⟩ := h.row
  rw [cell_at h, (h2 i hi).1]
theorem RF.r1 (h : RF B w R r S) {i : Nat} (hi : i < S.n) : w.cell? ⟨r, i * 2 + 1, none⟩ = some (.int .i64 (S.ti i)) := by
  obtain ⟨cs, h, h1, h2⟩ := h.row
  rw [cell_at h, (h2 i hi).2]
theorem RF.fz (h : RF B w R r S) (o : Nat) : w.frozen? ⟨R, o, none⟩ = false := by
  obtain ⟨cs, h, _⟩ := h.ob
  exact froz_at h o
theorem RF.rfz (h : RF B w R r S) (o : Nat) : w.frozen? ⟨r, o, none⟩ = false := by
  obtain ⟨cs, h, _⟩ := h.row
  exact froz_at h o
theorem RF.tu (h : RF B w R r S) (t : Trn (fun k => k = R ∨ k = r) w w') : Tu Or B w w' := Tu.of_trn t fun k e => by
  rcases e with rfl | rfl
  · obtain ⟨cs, h1, _⟩ := h.ob
    exact ⟨h.lo.1, fun o ho => by rw [h1] at ho; cases ho; exact .inl rfl⟩
  · obtain ⟨cs, h1, _⟩ := h.row
    exact ⟨h.lo.2, fun o ho => by rw [h1] at ho; cases ho; exact .inr rfl⟩
/-- the times of a frame turned alone -/
theorem RF.times (h : RF B w R r S) {i t : Nat} (hi : i < S.n) (hok : Ok (S.set i (S.cl i) t)) : RF B (w.setCell ⟨r, i * 2 + 1, none⟩ (.int .i64 t)) R r (S.set i (S.cl i) t) ∧ Tu Or B w (w.setCell ⟨r, i * 2 + 1, none⟩ (.int .i64 t)) := by
  obtain ⟨rs, r1, r2, r3⟩ := h.row
  have tt := trn_setCell (fun k => k = R ∨ k = r) r1 (.inr rfl) (i * 2 + 1) (.int .i64 t)
  have t1 := trn_setCell (fun k => k = r) r1 rfl (i * 2 + 1) (.int .i64 t)
  obtain ⟨cs, o1, o2⟩ := h.ob
  have hcl : upd S.cl i (S.cl i) = S.cl := by
    funext j
    by_cases e : j = i <;> simp [upd, e]
  refine ⟨⟨⟨cs, (t1.block R h.lt h.ne).trans o1, o2⟩, ⟨_, setCell_eq_setRow w r (i * 2 + 1) rs 138 (0, 0) (.int .i64 t) r1 ▸ setRow_heap w r rs _ 138 _ r1, by rw [Array.size_setIfInBounds]; exact r2, fun j hj => ?_⟩, hok, h.lo⟩, h.tu tt⟩
  have hj' : j < S.n := hj
  have e0 : rO (S.set i (S.cl i) t) j = rO S j := by
    show (if upd S.cl i (S.cl i) j = 17 then (0 : Int) else (upd S.cl i (S.cl i) j : Nat)) = _
    rw [hcl]
    rfl
  rw [e0, Array.getElem?_setIfInBounds, if_neg (by omega), Array.getElem?_setIfInBounds]
  refine ⟨(r3 j hj').1, ?_⟩
  show _ = some (Value.int .i64 (upd S.ti i t j : Nat))
  by_cases e : j = i
  · subst e
    rw [if_pos rfl, if_pos (by omega), upd_self]
  · rw [if_neg (by omega), upd_other _ _ _ e]
    exact (r3 j hj').2
/-- a frame's owner and times turned -/
theorem RF.both (h : RF B w R r S) {i c t : Nat} (hi : i < S.n) (hok : Ok (S.set i c t)) (x : Int) (hx : x = if c = 17 then 0 else (c : Int)) :
    RF B ((w.setCell ⟨r, i * 2, none⟩ (.int .i64 x)).setCell ⟨r, i * 2 + 1, none⟩ (.int .i64 t)) R r (S.set i c t) ∧ Tu Or B w ((w.setCell ⟨r, i * 2, none⟩ (.int .i64 x)).setCell ⟨r, i * 2 + 1, none⟩ (.int .i64 t)) := by
  obtain ⟨rs, r1, r2, r3⟩ := h.row
  have t1 := trn_setCell (fun k => k = r) r1 rfl (i * 2) (.int .i64 x)
  have r1' : (w.setCell ⟨r, i * 2, none⟩ (.int .i64 x)).heap[r]? = some (.cells (rs.setIfInBounds (i * 2) (.int .i64 x)) 138 (0, 0)) := setCell_eq_setRow w r (i * 2) rs 138 (0, 0) (.int .i64 x) r1 ▸ setRow_heap w r rs _ 138 _ r1
  generalize w.setCell ⟨r, i * 2, none⟩ (.int .i64 x) = w1 at *
  have t2 := trn_setCell (fun k => k = r) r1' rfl (i * 2 + 1) (.int .i64 t)
  obtain ⟨cs, o1, o2⟩ := h.ob
  have t12 := t1.trans t2
  refine ⟨⟨⟨cs, (t12.block R h.lt h.ne).trans o1, o2⟩, ⟨_, setCell_eq_setRow w1 r (i * 2 + 1) _ 138 (0, 0) (.int .i64 t) r1' ▸ setRow_heap w1 r _ _ 138 _ r1', by rw [Array.size_setIfInBounds, Array.size_setIfInBounds]; exact r2, fun j hj => ?_⟩, hok, h.lo⟩, h.tu (t12.mono fun k _ e => .inr e)⟩
  have hj' : j < S.n := hj
  have hsz : (rs.setIfInBounds (i * 2) (Value.int .i64 x)).size = S.n * 2 := by rw [Array.size_setIfInBounds]; exact r2
  refine ⟨?_, ?_⟩
  · show _ = some (Value.int .i64 (if upd S.cl i c j = 17 then (0 : Int) else (upd S.cl i c j : Nat)))
    rw [Array.getElem?_setIfInBounds_ne (by omega)]
    by_cases e : j = i
    · subst e
      rw [upd_self, ← hx, Array.getElem?_setIfInBounds_self_of_lt (by omega)]
    · rw [upd_other _ _ _ e, Array.getElem?_setIfInBounds_ne (by omega)]
      exact (r3 j hj').1
  · show _ = some (Value.int .i64 (upd S.ti i t j : Nat))
    by_cases e : j = i
    · subst e
      rw [upd_self, Array.getElem?_setIfInBounds_self_of_lt (by omega)]
    · rw [upd_other _ _ _ e, Array.getElem?_setIfInBounds_ne (by omega), Array.getElem?_setIfInBounds_ne (by omega)]
      exact (r3 j hj').2
theorem RF.quota (h : RF B w R r S) {k : Nat} (hk : k < 17) (v : Int) (hok : Ok { S with qu := upd S.qu k v }) : RF B (w.setCell ⟨R, 2 + k, none⟩ (.int .i64 v)) R r { S with qu := upd S.qu k v } ∧ Tu Or B w (w.setCell ⟨R, 2 + k, none⟩ (.int .i64 v)) := by
  obtain ⟨cs, o1, o2, o3, o4, o5⟩ := h.ob
  have t1 := trn_setCell (fun k => k = R) o1 rfl (2 + k) (.int .i64 v)
  obtain ⟨rs, r1, r2⟩ := h.row
  refine ⟨⟨⟨_, setCell_eq_setRow w R (2 + k) cs 136 (0, 0) (.int .i64 v) o1 ▸ setRow_heap w R cs _ 136 _ o1, by simpa using o2, ?_, ?_, fun j hj => ?_⟩, ⟨rs, (t1.block r h.rlt (Ne.symm h.ne)).trans r1, r2⟩, hok, h.lo⟩, h.tu (t1.mono fun k _ e => .inl e)⟩
  · rw [Array.getElem?_setIfInBounds, if_neg (by omega)]; exact o3
  · rw [Array.getElem?_setIfInBounds, if_neg (by omega)]; exact o4
  · rw [Array.getElem?_setIfInBounds]
    show _ = some (Value.int .i64 (upd S.qu k v j))
    by_cases e : j = k
    · subst e
      rw [if_pos rfl, if_pos (by omega), upd_self]
    · rw [if_neg (by omega), upd_other _ _ _ e]
      exact o5 j hj
end
theorem rowner (o : Int) (w : World) : Calls Tryd.prog 73 #[.int .i64 o] w fun e w' => e = .returned (.bool (decide (isO o))) ∧ w' = w := by
  by_cases h0 : 0 ≤ o
  · by_cases h1 : o ≤ 16
    · rw [decide_eq_true (show isO o from ⟨h0, h1⟩)]
      have h2 : o < 17 := by omega
      go_enter Tryd.func73, Tryd.ntmps73
      go_wp2
      go_ret
      first
      | exact ⟨rfl, rfl⟩
      | exact ⟨ret_bool (by simp; omega), rfl⟩
    · rw [decide_eq_false (show ¬ isO o from fun e => h1 e.2)]
      have h2 : 17 ≤ o := by omega
      go_enter Tryd.func73, Tryd.ntmps73
      go_wp2
      go_ret
      first
      | exact ⟨rfl, rfl⟩
      | exact ⟨ret_bool (by simp; omega), rfl⟩
  · rw [decide_eq_false (show ¬ isO o from fun e => h0 e.1)]
    go_enter Tryd.func73, Tryd.ntmps73
    go_wp2
    go_ret
    first
      | exact ⟨rfl, rfl⟩
      | exact ⟨ret_bool (by simp; omega), rfl⟩
section
variable {B : Nat → Prop} {w w' : World} {R r : Nat} {S : Fs}
/-- how many of the first j are an owner's -/
def ownJ (S : Fs) (o : Int) (j : Nat) : Int := if isO o then cn S.cl j o.toNat else 0
theorem ownJ_zero (S : Fs) (o : Int) : ownJ S o 0 = 0 := by unfold ownJ; split <;> simp [cn]
theorem ownJ_range (S : Fs) (o : Int) (j : Nat) : 0 ≤ ownJ S o j ∧ ownJ S o j ≤ j := by
  unfold ownJ
  split
  · have := cn_le S.cl j o.toNat
    omega
  · omega
theorem ownJ_succ (S : Fs) (o : Int) (j : Nat) (hc : S.cl j ≤ 17) : ownJ S o (j + 1) = ownJ S o j + if S.cl j ≠ 17 ∧ (S.cl j : Int) = o then 1 else 0 := by
  unfold ownJ
  by_cases h : isO o
  · rw [if_pos h, if_pos h, cn_succ]
    have h1 := h.1
    have h2 := h.2
    by_cases e : S.cl j = o.toNat
    · rw [if_pos e, if_pos ⟨by omega, by omega⟩]
      rfl
    · rw [if_neg e, if_neg (fun x => e (by omega))]
      rfl
  · rw [if_neg h, if_neg h, if_neg (fun x => h ⟨by omega, by omega⟩)]
    rfl
set_option maxHeartbeats 800000 in
theorem rcount (h : RF B w R r S) (o : Int) : Calls Tryd.prog 74 #[.pointer (some ⟨R, 0, none⟩), .int .i64 o] w fun e w' => e = .returned (.tuple #[.int .i64 (own S o), .int .i64 (S.ct 17)]) ∧ w' = w := by
  have hl := h.lt
  have hrl := h.rlt
  have c0 := h.c0
  have n2 := h.ok.n2
  have HF : Hid (RF B w R r S) := h
  clear h
  go_enter Tryd.func74, Tryd.ntmps74
  go_wp2_with fail
  go_loopw [6, 7, 8] (fun x y i wr => ∃ j : Nat, j ≤ S.n ∧ i = .int .i64 j ∧ x = .int .i64 (ownJ S o j) ∧ y = .int .i64 (cn S.cl j 17) ∧ wr = w) (fun _ _ i _ => S.n - (intOf i).toNat)
  case atStart => exact ⟨0, by omega, rfl, by rw [ownJ_zero], rfl, rfl⟩
  case round =>
    obtain ⟨j, hj, rfl, rfl, rfl, rfl⟩ := hrel
    obtain ⟨b1, b2⟩ := ownJ_range S o j
    have b3 := cn_le S.cl j 17
    by_cases hjn : j < S.n
    · have hjn' : (j : Int) < S.n := by omega
      have r0 := HF.out.r0 hjn
      have r1 := HF.out.r1 hjn
      have tt := HF.out.ok.t j hjn
      have e1 := ownJ_succ S o j (HF.out.ok.c j)
      have e2 := cn_succ S.cl j 17
      by_cases e : S.cl j = 17
      · rw [tt.1 e] at r1
        rw [if_neg (fun x => x.1 e)] at e1
        rw [if_pos e] at e2
        have e3 : ((cn S.cl (j + 1) 17 : Nat) : Int) = (cn S.cl j 17 : Int) + 1 := by omega
        have H1 : Hid (ownJ S o (j + 1) = ownJ S o j + 0) := e1
        have H2 : Hid (((cn S.cl (j + 1) 17 : Nat) : Int) = (cn S.cl j 17 : Int) + 1) := e3
        have b4 : (0 : Int) ≤ (cn S.cl j 17 : Int) ∧ (cn S.cl j 17 : Int) ≤ 65536 := by omega
        obtain ⟨b4, b5⟩ := b4
        clear e1 e2 e3 tt b3
        generalize ownJ S o j = u at *
        generalize ((cn S.cl j 17 : Nat) : Int) = v at *
        go_wp2_with fail
        go_roundw
        case rel => exact ⟨j + 1, by omega, by go_num, by rw [H1.out, Int.add_zero], by rw [H2.out], trivial⟩
        case measure => simp [intOf]; omega
      · have t1 := (tt.2 e).1
        have t2 : (0 : Int) < (S.ti j : Int) := by omega
        rw [if_neg e] at e2
        rw [show rO S j = S.cl j by unfold rO; rw [if_neg e]] at r0
        by_cases e0 : (S.cl j : Int) = o
        · rw [if_pos ⟨e, e0⟩] at e1
          rw [e0] at r0
          have H1 : Hid (ownJ S o (j + 1) = ownJ S o j + 1) := e1
          have H2 : Hid (((cn S.cl (j + 1) 17 : Nat) : Int) = (cn S.cl j 17 : Int)) := by have := e2; show _ = _; omega
          clear e1 e2 tt b3 t1 e0 e
          generalize ownJ S o j = u at *
          generalize ((cn S.cl j 17 : Nat) : Int) = v at *
          generalize ((S.ti j : Nat) : Int) = t at *
          go_wp2_with fail
          go_roundw
          case rel => exact ⟨j + 1, by omega, by go_num, by rw [H1.out], by rw [H2.out], trivial⟩
          case measure => simp [intOf]; omega
        · rw [if_neg (fun x => e0 x.2)] at e1
          have H1 : Hid (ownJ S o (j + 1) = ownJ S o j + 0) := e1
          have H2 : Hid (((cn S.cl (j + 1) 17 : Nat) : Int) = (cn S.cl j 17 : Int)) := by have := e2; show _ = _; omega
          clear e1 e2 tt b3 t1 e
          generalize ownJ S o j = u at *
          generalize ((cn S.cl j 17 : Nat) : Int) = v at *
          generalize ((S.ti j : Nat) : Int) = t at *
          generalize ((S.cl j : Nat) : Int) = c at *
          go_wp2_with fail
          go_roundw
          case rel => exact ⟨j + 1, by omega, by go_num, by rw [H1.out, Int.add_zero], by rw [H2.out], trivial⟩
          case measure => simp [intOf]; omega
    · obtain rfl : j = S.n := by omega
      go_wp2_with fail
      go_ret2
      exact ⟨rfl, rfl⟩
end
end Go.Proofs.YteghkhdpdeiocaaDoor
