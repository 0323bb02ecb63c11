/-
  A region that draws its order, whose operations but the last only read, and whose last waits for all others: one walk in the text's order serves every order. Over no program.
-/
import Derived.Deep.QuietTactic
import Derived.BigQuiet
import Derived.WalkKit
namespace Go.Proofs.YteghkhdpdeiocaaDoor.E
open Go.RowKit
set_option linter.unusedVariables false
set_option maxRecDepth 100000

/-- the operation with the same edges that does nothing -/
def idle (o : Oper) : Oper := { o with op := .move (.const undef) }

theorem get_idle (l : List Oper) (o : Oper) (j : Nat) : (l ++ [idle o]).toArray[j]? = ((l ++ [o]).toArray[j]?).map (fun x => if j = l.length then idle o else x) := by
  simp only [List.getElem?_toArray]
  rcases Nat.lt_trichotomy j l.length with h | h | h
  · simp [List.getElem?_append_left h, Nat.ne_of_lt h]
  · subst h; simp
  · rw [List.getElem?_eq_none (by simp; omega), List.getElem?_eq_none (by simp; omega)]; rfl

theorem ready_idle {md : Region.Mode} (l : List Oper) (o : Oper) (listed : Array Bool) : Region.ready md (l ++ [idle o]).toArray listed = Region.ready md (l ++ [o]).toArray listed := by
  unfold Region.ready
  have hs : (l ++ [idle o]).toArray.size = (l ++ [o]).toArray.size := by simp
  rw [hs]
  congr 1
  funext i
  rw [get_idle]
  cases h : (l ++ [o]).toArray[i]? with
  | none => rfl
  | some x =>
    by_cases hi : i = l.length
    · subst hi
      obtain rfl : o = x := by simpa using h
      simp [idle]
    · simp [hi]

theorem yielded_idle (l : List Oper) (o : Oper) (t : Array Value) : yielded (l ++ [idle o]).toArray t = yielded (l ++ [o]).toArray t := by
  funext j
  unfold yielded
  rw [get_idle]
  cases h : (l ++ [o]).toArray[j]? with
  | none => rfl
  | some x =>
    by_cases hi : j = l.length
    · subst hi
      obtain rfl : o = x := by simpa using h
      simp [idle]
    · simp [hi]

theorem quiet_append {P : Program} {C : World → Prop} {ops : Array Oper} {Q : Act → Prop} : ∀ (l r : List Oper) (a : Act), wpQuiet P ops C (wpQuiet P ops C Q r) l a → wpQuiet P ops C Q (l ++ r) a
  | [], _, _, h => h
  | o :: l, r, a, h => by
    simp only [List.cons_append, wpQuiet] at h ⊢
    split
    · rename_i hw; simp only [hw, if_true] at h; exact Oper.quiet_mono (fun a => quiet_append l r a) h
    · rename_i hw; simp only [hw] at h; exact quiet_append l r _ h

theorem quiet_ops {P : Program} {C : World → Prop} {ops ops' : Array Oper} {Q : Act → Prop} (hy : ∀ t, yielded ops' t = yielded ops t) : ∀ (l : List Oper) (a : Act), wpQuiet P ops C Q l a → wpQuiet P ops' C Q l a
  | [], _, h => h
  | o :: l, a, h => by
    simp only [wpQuiet, hy] at h ⊢
    split
    · rename_i hw; simp only [hw, if_true] at h; exact Oper.quiet_mono (fun a => quiet_ops hy l a) h
    · rename_i hw; simp only [hw] at h; exact quiet_ops hy l _ h

theorem quiet_mono_last {P : Program} {C : World → Prop} {ops : Array Oper} {Q Q' : Act → Prop} (hQ : ∀ a, Q a → Q' a) : ∀ (l : List Oper) (a : Act), wpQuiet P ops C Q l a → wpQuiet P ops C Q' l a
  | [], a, h => hQ a h
  | o :: l, a, h => by
    simp only [wpQuiet] at h ⊢
    split
    · rename_i hw; simp only [hw, if_true] at h; exact Oper.quiet_mono (fun a => quiet_mono_last hQ l a) h
    · rename_i hw; simp only [hw] at h; exact quiet_mono_last hQ l _ h

/-- every edge leads back -/
def backB (ops : Array Oper) : Bool := (List.range ops.size).all fun i => ((ops[i]?).map (·.after.all fun e => decide (e.on < i))).getD true
/-- the last operation waits for all others -/
def waitsB (md : Region.Mode) (l : List Oper) (o : Oper) : Bool := (List.range l.length).all fun i => o.after.any fun e => Region.binds md e && e.on == i

theorem some_ready {md : Region.Mode} {ops : Array Oper} (hb : backB ops = true) {listed : Array Bool} (hs : listed.size = ops.size) : ∀ (n j : Nat), j ≤ n → j < ops.size → listed.getD j true = false → Region.ready md ops listed ≠ [] := by
  intro n
  induction n with
  | zero =>
    intro j hj hlt hun h0
    obtain rfl : j = 0 := by omega
    have hm : (0 : Nat) ∈ Region.ready md ops listed := by
      refine mem_ready.2 ⟨hun, ops[0], by simp [hlt], fun e he _ => ?_⟩
      have := List.all_eq_true.1 hb 0 (by simpa using hlt)
      simp [hlt] at this
      obtain ⟨i, hi, rfl⟩ := Array.mem_iff_getElem.1 he
      exact absurd (this i) (by omega)
    rw [h0] at hm; cases hm
  | succ n ih =>
    intro j hj hlt hun h0
    by_cases hall : ∀ e ∈ ops[j].after, Region.binds md e = true → listed.getD e.on false = true
    · have hm : j ∈ Region.ready md ops listed := mem_ready.2 ⟨hun, ops[j], by simp [hlt], hall⟩
      rw [h0] at hm; cases hm
    · have : ∃ e ∈ ops[j].after, listed.getD e.on false = false := by
        apply Classical.byContradiction
        intro hne
        exact hall fun e he _ => by
          cases hx : listed.getD e.on false
          · exact absurd ⟨e, he, hx⟩ hne
          · rfl
      obtain ⟨e, he, hx⟩ := this
      have hback := List.all_eq_true.1 hb j (by simpa using hlt)
      simp [hlt] at hback
      obtain ⟨i, hi, rfl⟩ := Array.mem_iff_getElem.1 he
      have hlt' := hback i hi
      refine ih (ops[j].after[i].on) (by omega) (by omega) ?_ h0
      have : ops[j].after[i].on < listed.size := by omega
      simp [this] at hx ⊢
      exact hx

theorem any_of_last {P : Program} {md : Region.Mode} {C : World → Prop} {l : List Oper} {o : Oper} {Q : Exit → Act → World → Prop} (hg : o.guard = none) (hd : o.dst = none) (hb : backB (l ++ [o]).toArray = true) (hw : waitsB md l o = true) :
    ∀ (fuel : Nat) (listed : Array Bool) (a : Act) (w : World), C w → listed.size = l.length + 1 → listed.getD l.length true = false →
    wpAnyQ P md (l ++ [idle o]).toArray C (fun a' => ∀ w', C w' → wpList P (l ++ [o]).toArray Q [o] a' w') fuel listed a → wpAny P md (l ++ [o]).toArray Q fuel listed a w := by
  intro fuel
  induction fuel with
  | zero =>
    intro listed a w hC hs hun h
    exact absurd (ready_idle l o listed ▸ h.1) (some_ready hb (by simpa using hs) l.length l.length (Nat.le_refl _) (by simp) hun)
  | succ fuel ih =>
    intro listed a w hC hs hun h
    refine ⟨fun h0 => absurd h0 (some_ready hb (by simpa using hs) l.length l.length (Nat.le_refl _) (by simp) hun), fun i hi => ?_⟩
    have hq := h.2 i (by rw [ready_idle]; exact hi)
    by_cases hil : i = l.length
    · subst hil
      have ho : (l ++ [o]).toArray[l.length]? = some o := by simp
      have ho' : (l ++ [idle o]).toArray[l.length]? = some (idle o) := by simp
      unfold qOp at hq
      simp only [ho'] at hq
      have hwt : Region.wanted (idle o) (yielded (l ++ [idle o]).toArray a.tmps) = true := by simp [Region.wanted, idle, hg]
      simp only [hwt, if_true] at hq
      obtain ⟨v, _, hn⟩ := hq
      have hput : a.put (idle o).dst v = a := by simp [idle, hd, Act.put]
      rw [hput] at hn
      have hr : Region.ready md (l ++ [o]).toArray (listed.setIfInBounds l.length true) = [] := by
        apply List.eq_nil_iff_forall_not_mem.2
        intro j hj
        obtain ⟨hju, oj, hoj, _⟩ := mem_ready.1 hj
        obtain ⟨_, oo, hoo, hall⟩ := mem_ready.1 hi
        obtain rfl : o = oo := by simpa using hoo
        have hjlt : j < l.length + 1 := by
          have := (Array.getElem?_eq_some_iff.1 hoj).1
          simpa using this
        by_cases hjl : j = l.length
        · subst hjl; simp [hs] at hju
        · have h1 := List.all_eq_true.1 hw j (by simp; omega)
          simp only [Array.any_eq_true, Bool.and_eq_true, beq_iff_eq] at h1
          obtain ⟨k, hk, hb1, hb2⟩ := h1
          have h2 := hall _ (Array.getElem_mem hk) hb1
          rw [hb2] at h2
          rw [getD_set_ne true (Ne.symm hjl)] at hju
          have : j < listed.size := by omega
          simp [this] at h2 hju
          rw [hju] at h2; cases h2
      have hQ : ∀ w', C w' → wpList P (l ++ [o]).toArray Q [o] a w' := by
        cases fuel with
        | zero => exact hn.2
        | succ f => exact hn.1 (by rw [ready_idle]; exact hr)
      have hl := hQ w hC
      unfold wpOp
      simp only [ho]
      simp only [wpList] at hl
      have hwt' : Region.wanted o (yielded (l ++ [o]).toArray a.tmps) = true := by simp [Region.wanted, hg]
      simp only [hwt', if_true] at hl ⊢
      refine hl.imp (Oper.wp_mono fun a' w' hQn => ?_) id
      cases fuel with
      | zero => exact ⟨hr, hQn⟩
      | succ f => exact ⟨fun _ => hQn, fun j hj => by rw [hr] at hj; cases hj⟩
    · have hsame : (l ++ [idle o]).toArray[i]? = (l ++ [o]).toArray[i]? := by rw [get_idle]; simp [hil]
      have hq2 : qOp P (l ++ [o]).toArray C i (wpAnyQ P md (l ++ [idle o]).toArray C (fun a' => ∀ w', C w' → wpList P (l ++ [o]).toArray Q [o] a' w') fuel (listed.setIfInBounds i true)) a := by
        unfold qOp at hq ⊢
        rw [hsame, yielded_idle] at hq
        exact hq
      refine wpOp_of_qOp hC (fun a' w' hC' h' => ih _ a' w' hC' (by simpa using hs) ?_ h') hq2
      rw [getD_set_ne true hil]
      exact hun

theorem wp_region_last {P : Program} {id : Nat} {Q : Exit → Act → World → Prop} {a : Act} {w : World} (l : List Oper) (o : Oper) (C : World → Prop) (hm : P.follows .mixedOrders = true)
    (hB : Region.lexB .any (l ++ [idle o]).toArray = true) (hg : o.guard = none) (hd : o.dst = none) (hb : backB (l ++ [o]).toArray = true) (hw : waitsB .any l o = true) (hC : C { w with drawn := w.drawn + 1 })
    (h : wpQuiet P (l ++ [o]).toArray C (fun a' => ∀ w', C w' → wpList P (l ++ [o]).toArray Q [o] a' w') l a) : (Code.region id (l ++ [o]).toArray true).wp P Q a w := by
  refine wp_region_any hm ?_
  have hlex := hB
  simp only [Region.lexB, Bool.and_eq_true] at hlex
  have hq : wpQuiet P (l ++ [idle o]).toArray C (fun a' => ∀ w', C w' → wpList P (l ++ [o]).toArray Q [o] a' w') (l ++ [idle o]) a := by
    refine quiet_append l [idle o] a ?_
    have : ∀ a', (∀ w', C w' → wpList P (l ++ [o]).toArray Q [o] a' w') → wpQuiet P (l ++ [idle o]).toArray C (fun a' => ∀ w', C w' → wpList P (l ++ [o]).toArray Q [o] a' w') [idle o] a' := fun a' ha => by
      have hwt : Region.wanted (idle o) (yielded (l ++ [idle o]).toArray a'.tmps) = true := by simp [Region.wanted, idle, hg]
      refine wpQuiet_step fun K hK => ?_
      rw [if_pos hwt]
      refine ⟨undef, fun w' _ => ?_, ?_⟩
      · unfold Oper.quietAt
        exact ⟨rfl, rfl⟩
      have hput0 : a'.put (idle o).dst undef = a' := by simp [idle, hd, Act.put]
      rw [hput0]
      exact hK _ (wpQuiet_nil ha)
    exact quiet_ops (yielded_idle l o) l a (quiet_mono_last this l a h)
  have hA := wpAnyQ_lex (P := P) (C := C) (md := .any) hlex.1 (l ++ [idle o]) 0 (Array.replicate (l ++ [idle o]).toArray.size false) a (by simp) (by simpa using hlex.2) hq
  have := any_of_last (P := P) (C := C) (Q := Q) hg hd hb hw _ _ a _ hC (by simp) (by simp) hA
  simpa using this

/-- the same, of operations that are written out -/
theorem wp_region_last_lit {P : Program} {id : Nat} {Q : Exit → Act → World → Prop} {a : Act} {w : World} {L : List Oper} (hne : L ≠ []) (C : World → Prop) (hm : P.follows .mixedOrders = true)
    (hB : Region.lexB .any (L.dropLast ++ [idle (L.getLast hne)]).toArray = true) (hg : (L.getLast hne).guard = none) (hd : (L.getLast hne).dst = none) (hb : backB L.toArray = true) (hw : waitsB .any L.dropLast (L.getLast hne) = true)
    (hC : C { w with drawn := w.drawn + 1 })
    (h : wpQuiet P L.toArray C (fun a' => ∀ w', C w' → wpList P L.toArray Q [L.getLast hne] a' w') L.dropLast a) : (Code.region id L.toArray true).wp P Q a w := by
  have e : L.dropLast ++ [L.getLast hne] = L := List.dropLast_concat_getLast hne
  have := wp_region_last (P := P) (id := id) (Q := Q) (a := a) (w := w) L.dropLast (L.getLast hne) C hm hB hg hd (by rw [e]; exact hb) hw hC (by rw [e]; exact h)
  rwa [e] at this
end Go.Proofs.YteghkhdpdeiocaaDoor.E
