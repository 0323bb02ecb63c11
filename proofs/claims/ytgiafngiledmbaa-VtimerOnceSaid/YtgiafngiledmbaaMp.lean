/-
  Timers in the heap: what stores into the two maps, and deletions, leave.
-/
import Derived.Test.YtgiafngiledmbaaSm
namespace Go.Proofs.Ytgiafngiledmbaa
open Go.RowKit Go.Maps
set_option linter.unusedVariables false
set_option maxRecDepth 100000

/-- the timer set, or taken away -/
def stD (n : Int) (is : Bool) (x : Tm) : Tm := ⟨x.id, x.base, x.halted, x.still, is, cap n⟩
/-- halted at a clock -/
def haF (c : Int) (x : Tm) : Tm := ⟨x.id, x.base, true, tm x c, x.set, x.due⟩
/-- goes on at a clock -/
def goF (c : Int) (x : Tm) : Tm := ⟨x.id, if x.still < cap c then cap c - x.still else 0, false, x.still, x.set, x.due⟩
theorem stD_ok {x : Tm} (h : x.Ok) (n : Int) (hn : 0 ≤ n) (is : Bool) : (stD n is x).Ok := ⟨h.id, h.b0, h.b1, h.s0, h.s1, cap_0 hn, cap_le n⟩
theorem haF_ok {x : Tm} (h : x.Ok) (c : Int) : (haF c x).Ok := ⟨h.id, h.b0, h.b1, tm_0 h c, tm_le h c, h.d0, h.d1⟩
theorem goF_ok {x : Tm} (h : x.Ok) (c : Int) : (goF c x).Ok := ⟨h.id, by have := h.s0; unfold goF; split <;> simp <;> omega, by have := h.s0; have := cap_le c; unfold goF; split <;> simp <;> omega, h.s0, h.s1, h.d0, h.d1⟩
theorem SM_mod {L : List Tm} {k : Int} {x : Tm} (hx : fnd L k = some x) {f : Tm → Tm} (hf : ∀ x, (f x).id = x.id) (q : Int) : SM (mod L k f) q = upd (SM L) k (some (spv (f x))) q := by
  unfold SM upd
  rw [fnd_mod L k q hf]
  by_cases e : q = k
  · subst e; simp [hx]
  · simp [e]
def tmv (x : Tm) : Option Value := if x.set then some (.int .u64 x.due) else none
theorem TM_eq (L : List Tm) (q : Int) : TM L q = (fnd L q).bind tmv := rfl
theorem TM_mod {L : List Tm} {k : Int} {x : Tm} (hx : fnd L k = some x) {f : Tm → Tm} (hf : ∀ x, (f x).id = x.id) (q : Int) : TM (mod L k f) q = upd (TM L) k (tmv (f x)) q := by
  rw [TM_eq]
  unfold upd
  rw [fnd_mod L k q hf]
  by_cases e : q = k
  · subst e; simp [hx]
  · simp [e, TM_eq]
theorem SM_same {L : List Tm} {k : Int} {x : Tm} (hx : fnd L k = some x) {f : Tm → Tm} (hf : ∀ x, (f x).id = x.id) (he : spv (f x) = spv x) (q : Int) : SM (mod L k f) q = SM L q := by
  rw [SM_mod hx hf, he]
  unfold upd
  split
  · rename_i e; subst e; simp [SM, hx]
  · rfl
theorem TM_same {L : List Tm} {k : Int} {x : Tm} (hx : fnd L k = some x) {f : Tm → Tm} (hf : ∀ x, (f x).id = x.id) (he : tmv (f x) = tmv x) (q : Int) : TM (mod L k f) q = TM L q := by
  rw [TM_mod hx hf, he]
  unfold upd
  split
  · rename_i e; subst e; simp [TM_eq, hx]
  · rfl
/-- what a call may turn: the two maps -/
def Sm (ms mt : Nat) (k : Nat) : Prop := k = ms ∨ k = mt
section
variable {w w' : World} {t ms mt : Nat} {L : List Tm} {k : Int} {x : Tm}
theorem VX.nle (h : VX w t ms mt L) : ∃ N, MapIs w mt N (TM L) ∧ N ≤ 64 := by
  obtain ⟨N, hN⟩ := h.nt
  refine ⟨N, hN, Nat.le_trans (hN.le (L.map (·.id)) fun q hq hs => ?_) (by simpa using h.ok.len)⟩
  rw [TM_eq] at hs
  cases hf : fnd L q with
  | none => rw [hf] at hs; cases hs
  | some y => exact List.mem_map.2 ⟨y, (fnd_mem hf).1, (fnd_mem hf).2⟩
theorem mt_keep {m : Nat} (h : w.mapTurned w' m) {j : Nat} (hj : j < w.heap.size) (hm : j ≠ m) : w'.heap[j]? = w.heap[j]? := gr_keep h.grown hj hm
/-- a span stored in place of one that is there -/
theorem VX.puts (h : VX w t ms mt L) (hk : KW k) (hx : fnd L k = some x) {f : Tm → Tm} (hf : ∀ x, (f x).id = x.id) (ho : (f x).Ok) (ht : tmv (f x) = tmv x) :
    ∃ w1, (Instr.mapUpdate 38 (.map (some ms)) (.int .i64 k) (spv (f x))).run Try.prog w = .ok () w1 ∧ VX w1 t ms mt (mod L k f) ∧ Trn (Sm ms mt) w w1 := by
  have hl := h.ok.len
  obtain ⟨w1, h1, h2, h3⟩ := store_run Try.underlying38 h.sm k hk (spv (f x)) (by unfold maxLen; omega)
  have hs : (SM L k).isSome = true := by simp [SM, hx]
  rw [if_pos hs] at h2
  obtain ⟨N, hN⟩ := h.nt
  exact ⟨w1, h1, ⟨(mt_keep h3 h.lt h.ns.symm).trans h.ob, h2.congr (len_mod _ _ _).symm fun q => (SM_mod hx hf q).symm,
    ⟨N, (hN.keep (mt_keep h3 h.ltt h.ne.symm)).congr rfl fun q => (TM_same hx hf ht q).symm⟩, h.ne, h.ok.mod k hf fun y hy => by rw [hx] at hy; cases hy; exact ho⟩, Trn.of_grown h3.grown (.inl rfl)⟩
/-- a new one -/
theorem VX.newS (h : VX w t ms mt L) (ho : x.Ok) (hx : fnd L x.id = none) (hl : L.length < 64) (ht : x.set = false) :
    ∃ w1, (Instr.mapUpdate 38 (.map (some ms)) (.int .i64 x.id) (spv x)).run Try.prog w = .ok () w1 ∧ VX w1 t ms mt (ins x L) ∧ Trn (Sm ms mt) w w1 := by
  obtain ⟨w1, h1, h2, h3⟩ := store_run Try.underlying38 h.sm x.id ho.id (spv x) (by unfold maxLen; omega)
  have hs : ¬ (SM L x.id).isSome = true := by simp [SM, hx]
  rw [if_neg hs] at h2
  obtain ⟨N, hN⟩ := h.nt
  refine ⟨w1, h1, ⟨(mt_keep h3 h.lt h.ns.symm).trans h.ob, h2.congr (len_ins _ _).symm fun q => ?_, ⟨N, (hN.keep (mt_keep h3 h.ltt h.ne.symm)).congr rfl fun q => ?_⟩, h.ne, h.ok.ins ho hx hl⟩, Trn.of_grown h3.grown (.inl rfl)⟩
  · unfold SM upd
    rw [fnd_ins h.ok ho hx hl]
    split <;> rfl
  · rw [TM_eq, TM_eq, fnd_ins h.ok ho hx hl]
    split
    · rename_i e; subst e; simp [hx, tmv, ht]
    · rfl
/-- a timer stored -/
theorem VX.putt (h : VX w t ms mt L) (hk : KW k) (hx : fnd L k = some x) (n : Int) (hn : 0 ≤ n) :
    ∃ w1, (Instr.mapUpdate 39 (.map (some mt)) (.int .i64 k) (.int .u64 (cap n))).run Try.prog w = .ok () w1 ∧ VX w1 t ms mt (mod L k (stD n true)) ∧ Trn (Sm ms mt) w w1 := by
  obtain ⟨N, hN, hl⟩ := h.nle
  obtain ⟨w1, h1, h2, h3⟩ := store_run Try.underlying39 hN k hk (.int .u64 (cap n)) (by unfold maxLen; omega)
  exact ⟨w1, h1, ⟨(mt_keep h3 h.lt h.nt'.symm).trans h.ob, (h.sm.keep (mt_keep h3 h.lts h.ne)).congr (len_mod _ _ _).symm fun q => (SM_same (f := stD n true) hx (fun _ => rfl) rfl q).symm,
    ⟨_, h2.congr rfl fun q => (TM_mod (f := stD n true) hx (fun _ => rfl) q).symm⟩, h.ne, h.ok.mod k (fun _ => rfl) fun y hy => by rw [hx] at hy; cases hy; exact stD_ok (h.ok.ok x (fnd_mem hx).1) n hn true⟩, Trn.of_grown h3.grown (.inr rfl)⟩
/-- a timer taken away -/
theorem VX.cutt (h : VX w t ms mt L) (hk : KW k) (hx : fnd L k = some x) (ty : TypeId) :
    ∃ w1, (Builtin.delete_ #[39, 3] ty #[.map (some mt), .int .i64 k]).run Try.prog w = .ok (.tuple #[]) w1 ∧ VX w1 t ms mt (mod L k (stD 0 false)) ∧ Trn (Sm ms mt) w w1 := by
  obtain ⟨N, hN, hl⟩ := h.nle
  obtain ⟨w1, h1, h2, h3⟩ := drop_run Try.underlying39 hN k hk ty
  exact ⟨w1, h1, ⟨(mt_keep h3 h.lt h.nt'.symm).trans h.ob, (h.sm.keep (mt_keep h3 h.lts h.ne)).congr (len_mod _ _ _).symm fun q => (SM_same (f := stD 0 false) hx (fun _ => rfl) rfl q).symm,
    ⟨_, h2.congr rfl fun q => (TM_mod (f := stD 0 false) hx (fun _ => rfl) q).symm⟩, h.ne, h.ok.mod k (fun _ => rfl) fun y hy => by rw [hx] at hy; cases hy; exact stD_ok (h.ok.ok x (fnd_mem hx).1) 0 (by omega) false⟩, Trn.of_grown h3.grown (.inr rfl)⟩
/-- one forgotten -/
theorem VX.cut (h : VX w t ms mt L) (hk : KW k) (hx : fnd L k = some x) (ty : TypeId) :
    ∃ w1 w2, (Builtin.delete_ #[38, 3] ty #[.map (some ms), .int .i64 k]).run Try.prog w = .ok (.tuple #[]) w1 ∧ w1.heap[t]? = some (.cells #[.map (some ms), .map (some mt)] 41 (0, 0)) ∧
      (Builtin.delete_ #[39, 3] ty #[.map (some mt), .int .i64 k]).run Try.prog w1 = .ok (.tuple #[]) w2 ∧ VX w2 t ms mt (del L k) ∧ Trn (Sm ms mt) w w2 := by
  obtain ⟨w1, h1, h2, h3⟩ := drop_run Try.underlying38 h.sm k hk ty
  have hs : (SM L k).isSome = true := by simp [SM, hx]
  rw [if_pos hs] at h2
  obtain ⟨N, hN⟩ := h.nt
  have hN1 := hN.keep (mt_keep h3 h.ltt h.ne.symm)
  have e1 := (mt_keep h3 h.lt h.ns.symm).trans h.ob
  obtain ⟨w2, k1, k2, k3⟩ := drop_run Try.underlying39 hN1 k hk ty
  refine ⟨w1, w2, h1, e1, k1, ⟨(mt_keep k3 (lt_of_heap e1) h.nt'.symm).trans e1, (h2.keep (mt_keep k3 h2.lt h.ne)).congr ?_ fun q => ?_, ⟨_, k2.congr rfl fun q => ?_⟩, h.ne, h.ok.del k⟩, (Trn.of_grown h3.grown (.inl rfl)).trans (Trn.of_grown k3.grown (.inr rfl))⟩
  · have := len_del h.ok (fnd_mem hx).1
    rw [(fnd_mem hx).2] at this
    omega
  · unfold SM upd
    rw [fnd_del h.ok]
    split <;> rfl
  · unfold upd
    rw [TM_eq, TM_eq, fnd_del h.ok]
    split <;> rfl
end
end Go.Proofs.Ytgiafngiledmbaa
