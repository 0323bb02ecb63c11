/-
  A scheduler behind its calls, plainly, and how the raw one becomes it.
-/
import Derived.Test.YtgdnklmnchcmeaaQu
namespace Go.Proofs.Ytgdnklmnchcmeaa
open Go.RowKit Go.Maps
set_option linter.unusedVariables false
set_option maxRecDepth 100000
def stF (s : Int) (x : On) : On := ⟨x.id, x.w, x.cr, x.co, s⟩
def pkF (c : Nat) (x : On) : On := ⟨x.id, x.w, x.cr, c, 2⟩
def chF (per z : Int) (x : On) : On := ⟨x.id, x.w, max (x.cr - z) (-per), x.co, x.st⟩
def addS (S : St) (k wt : Int) (c : Nat) : St := ⟨S.L ++ [⟨k, wt, 0, c, 1⟩], addQ S.Q c k, S.R⟩
def remS (S : St) (k : Int) : St := ⟨del S.L k, outQ S.Q k, S.R⟩
def rdyS (S : St) (k : Int) (c : Nat) : St := ⟨mod S.L k (stF 1), addQ S.Q c k, S.R⟩
def blkS (S : St) (k : Int) : St := ⟨mod S.L k (stF 3), outQ S.Q k, S.R⟩
def pickS (S : St) (k : Int) (c : Nat) : St := ⟨mod S.L k (pkF c), outQ S.Q k, fun j => if j = c then 0 else S.R j⟩
def chR (per z : Int) (r : Int) : Int := if r < per then r + z else r
def chgS (per : Int) (S : St) (k : Int) (c : Nat) (z : Int) : St := ⟨mod S.L k (chF per z), S.Q, fun j => if j = c then chR per z (S.R c) else S.R j⟩
theorem SM_mod {L : List On} {k : Int} {x : On} (hx : fnd L k = some x) {f : On → On} (hf : ∀ x, (f x).id = x.id) (q : Int) : SM (mod L k f) q = upd (SM L) k (some (lv (f x))) q := by
  unfold SM upd
  rw [fnd_mod L k q hf]
  by_cases e : q = k
  · subst e; simp [hx]
  · simp [e]
theorem SM_app {L : List On} {x : On} (hx : fnd L x.id = none) (q : Int) : SM (L ++ [x]) q = upd (SM L) x.id (some (lv x)) q := by
  unfold SM upd fnd
  rw [List.find?_append]
  by_cases e : q = x.id
  · subst e
    have : L.find? (fun y => y.id == x.id) = none := hx
    simp [this]
  · have : [x].find? (fun y => y.id == q) = none := by simp [Ne.symm e]
    rw [this, if_neg e]
    simp
theorem SM_del {L : List On} {k : Int} (q : Int) : SM (del L k) q = upd (SM L) k none q := by
  unfold SM upd
  rw [fnd_del]
  split <;> simp_all
theorem cnt_some {N : Nat} {L : List On} {k : Int} {x : On} (hx : fnd L k = some x) : cnt N (SM L) k = N := by unfold cnt SM; rw [hx]; rfl
theorem cnt_none {N : Nat} {L : List On} {k : Int} (hx : fnd L k = none) : cnt N (SM L) k = N + 1 := by unfold cnt SM; rw [hx]; rfl
/-- what the places tell of who runs -/
def PvOk (F : Nat → Pv) (n : Nat) (per : Int) (S : St) : Prop := ∀ i, i < n → (F i).t = tkB S.L i ∧ (F i).i = riI S.L i ∧ (F i).c = chI per S i
section
variable {w w' : World} {c m p n N : Nat} {per : Int} {M : Int → Option Value} {F G : Nat → Pv} {Qf : Nat → List Int} {S S' : St} {k : Int} {x : On} {f : On → On}
theorem PvOk.q (h : PvOk F n per S) (i : Nat) (v : Value) : PvOk (fset F i (qset v)) n per S := fun j hj => by
  have := h j hj
  unfold fset
  split
  · exact this
  · exact this
theorem PvOk.same (h : PvOk F n per S) (hr : ∀ i, rn S'.L i = rn S.L i) (hR : S'.R = S.R) : PvOk F n per S' := fun i hi => by
  have := h i hi
  unfold tkB riI chI tkB at *
  rw [hr i, hR]
  exact this
theorem PvOk.off (h : PvOk F n per S) (i : Nat) (h0 : rn S'.L i = none) (hr : ∀ j, j ≠ i → rn S'.L j = rn S.L j) (hR : ∀ j, j ≠ i → S'.R j = S.R j) : PvOk (fset F i off0) n per S' := fun j hj => by
  have := h j hj
  by_cases e : j = i
  · subst e
    rw [fset_same]
    unfold tkB riI chI tkB
    rw [h0]
    exact ⟨rfl, rfl, rfl⟩
  · rw [fset_other e]
    unfold tkB riI chI tkB at *
    rw [hr j e, hR j e]
    exact this
theorem VR.congr {N' : Nat} {M' : Int → Option Value} {Qf' : Nat → List Int} (h : VR w c m p n per N M F Qf) (hN : N = N') (hM : ∀ k, M k = M' k) (hQ : ∀ i, i < n → Qf i = Qf' i) : VR w c m p n per N' M' F Qf' :=
  ⟨h.ob, h.mp.congr hN hM, h.pr, fun i hi => hQ i hi ▸ h.qs i hi, h.ap, h.nn⟩
/-- what a call leaves -/
def Tu (w w' : World) (c m p n : Nat) (per : Int) (F : Nat → Pv) (S' : St) : Prop := ∃ G, VX w' c m p n per G S' ∧ Trn (Sp m p n F) w w' ∧ Nw w n F G
theorem VX.tu (h : VX w c m p n per F S) (hb : Below w.heap.size w w') : Tu w w' c m p n per F S := ⟨F, h.below hb, Trn.of_below hb, Nw.refl _ _ _⟩
theorem VX.tu0 (h : VX w c m p n per F S) : Tu w w c m p n per F S := h.tu (Below.refl _ _)
theorem Tu.from_below {W : World} (hb : Below W.heap.size W w) (h : Tu w w' c m p n per F S) : Tu W w' c m p n per F S := by
  obtain ⟨G, h1, h2, h3⟩ := h
  exact ⟨G, h1, (Trn.of_below hb).trans h2, fun i hi k hk => (h3 i hi k hk).imp_right fun e => Nat.le_trans hb.size e⟩
theorem stF_ok (h : x.Ok n per) {s : Int} (hs : s = 1 ∨ s = 2 ∨ s = 3) : (stF s x).Ok n per := ⟨h.id, h.w0, h.w1, h.c0, h.c1, h.co, hs⟩
theorem SOk.blk (h : SOk n per S) (hx : fnd S.L k = some x) : SOk n per (blkS S k) :=
  h.outs (f := stF 3) hx (fun _ => rfl) (stF_ok (h.ok x (fnd_mem hx).1) (.inr (.inr rfl))) (by show (3 : Int) ≠ 1; decide) (fun e => absurd (show (3 : Int) = 2 from e) (by decide)) h.r0
theorem SOk.pick (h : SOk n per S) (hx : fnd S.L k = some x) {i : Nat} (hi : i < n) (hr : rn S.L i = none) : SOk n per (pickS S k i) := by
  have ho := h.ok x (fnd_mem hx).1
  refine h.outs (f := pkF i) hx (fun _ => rfl) ⟨ho.id, ho.w0, ho.w1, ho.c0, ho.c1, hi, .inr (.inl rfl)⟩ (by show (2 : Int) ≠ 1; decide) (fun _ z hz _ h2 => rn_none hr z hz h2) (fun j hj => ?_)
  show 0 ≤ (if j = i then 0 else S.R j) ∧ (if j = i then 0 else S.R j) ≤ 2097152
  split
  · decide
  · exact h.r0 j hj
theorem SOk.chg (h : SOk n per S) {i : Nat} (hi : i < n) (hr : rn S.L i = some x) {z : Int} (hz : 0 ≤ z ∧ z ≤ 1048576) : SOk n per (chgS per S x.id i z) := by
  obtain ⟨h1, h2, h3⟩ := rn_mem hr
  have ho := h.ok x h1
  have hp := h.hp
  have hx := fnd_of h.nd h1
  have hc0 := ho.c0
  have hc1 := ho.c1
  refine h.turn (f := chF per z) hx (fun _ => rfl) ⟨ho.id, ho.w0, ho.w1, ?_, ?_, ho.co, ho.st⟩ (fun c hc j => ?_) h.qn (fun e y hy hne hy2 hco => hne ?_) (fun j hj => ?_)
  · show -per ≤ max (x.cr - z) (-per); omega
  · show max (x.cr - z) (-per) ≤ per; omega
  · by_cases e : j = x.id
    · rw [if_pos e, e]
      constructor
      · intro hm
        exact absurd hm (h.notin hx hc (fun e2 => by rw [h2] at e2; exact absurd e2.1 (by decide)))
      · rintro ⟨h4, _⟩
        exact absurd ((show x.st = 1 from h4).symm.trans h2) (by decide)
    · rw [if_neg e]
  · rw [h.run y hy x h1 hy2 h2 hco]
  · show 0 ≤ (if j = i then chR per z (S.R i) else S.R j) ∧ (if j = i then chR per z (S.R i) else S.R j) ≤ 2097152
    have hn8 := h.hn
    have r1 := h.r0 i (by omega)
    have r2 := h.r0 j hj
    unfold chR
    split
    · split <;> omega
    · exact r2
theorem SOk.rdyS (h : SOk n per S) (hx : fnd S.L k = some x) (hs : x.st ≠ 1) : SOk n per (rdyS S k x.co) := h.rdy hx hs
theorem SOk.addS (h : SOk n per S) (hk : KW k) (hx : fnd S.L k = none) {wt : Int} (h0 : 1 ≤ wt) (h1 : wt ≤ 256) {i : Nat} (hi : i < n) (hl : S.L.length < 64) : SOk n per (addS S k wt i) := h.add hk hx h0 h1 hi hl
theorem SOk.remS (h : SOk n per S) (hx : fnd S.L k = some x) : SOk n per (remS S k) := h.rem hx
theorem add_qput {Q : Nat → List Int} {i : Nat} {k : Int} (j : Nat) : qput Q i (Q i ++ [k]) j = addQ Q i k j := by
  unfold qput addQ
  split
  · rename_i e; rw [e]
  · rfl
theorem out_qput (h : SOk n per S) (hx : fnd S.L k = some x) {j : Nat} (hj : j < n) : qput S.Q x.co ((S.Q x.co).filter fun y => !(y == k)) j = outQ S.Q k j := by
  unfold qput outQ
  split
  · rename_i e; rw [e]
  · rename_i e
    symm
    refine List.filter_eq_self.2 fun y hy => ?_
    have : y ≠ k := fun e2 => h.notin hx hj (fun e3 => e e3.2.symm) (e2 ▸ hy)
    simpa using this
theorem out_same (h : SOk n per S) (hx : fnd S.L k = some x) (hs : x.st ≠ 1) {j : Nat} (hj : j < n) : outQ S.Q k j = S.Q j := by
  unfold outQ
  refine List.filter_eq_self.2 fun y hy => ?_
  have : y ≠ k := fun e2 => h.notin hx hj (fun e3 => hs e3.1) (e2 ▸ hy)
  simpa using this
/-- who runs stays, if one that does not run turns into one that does not -/
theorem rn_still (h : SOk n per S) (hx : fnd S.L k = some x) {Q' : Nat → List Int} {R' : Nat → Int} (h' : SOk n per ⟨mod S.L k f, Q', R'⟩) (hf : ∀ x, (f x).id = x.id) (h1 : x.st ≠ 2) (h2 : (f x).st ≠ 2) (i : Nat) : rn (mod S.L k f) i = rn S.L i := by
  rw [rn_turn h hx h' hf, if_neg (fun e => h2 e.1), if_neg (fun e => h1 e.1)]
theorem rn_gone (h : SOk n per S) (hx : fnd S.L k = some x) {Q' : Nat → List Int} {R' : Nat → Int} (h' : SOk n per ⟨mod S.L k f, Q', R'⟩) (hf : ∀ x, (f x).id = x.id) (h1 : x.st = 2) (h2 : (f x).st ≠ 2) :
    rn (mod S.L k f) x.co = none ∧ ∀ j, j ≠ x.co → rn (mod S.L k f) j = rn S.L j := by
  refine ⟨by rw [rn_turn h hx h' hf, if_neg (fun e => h2 e.1), if_pos ⟨h1, rfl⟩], fun j hj => ?_⟩
  rw [rn_turn h hx h' hf, if_neg (fun e => h2 e.1), if_neg (fun e => hj e.2.symm)]
end
end Go.Proofs.Ytgdnklmnchcmeaa
