/-
  Two guests' tables as they are made: what stays true of both, by plain functions.
-/
import Derived.Test.YteghkhdpdeiocaaGreatDoorGU
namespace Go.Proofs.YteghkhdpdeiocaaGreatDoor
set_option linter.unusedVariables false
set_option maxRecDepth 100000

/-- tables whose root is t, and nothing else -/
def xr (t : Int) : Tp := ⟨t, fun _ => -1, fun _ => none⟩
section
variable {n : Nat} {O : Nat → Prop} {m : List Int} {S : Fs} {z : Zs}
theorem takeM_len (hl : m.length = n * 256) (hn : n ≤ 65536) : (takeM n m S).length = n * 256 := by
  unfold takeM
  by_cases h : takeE n S = 0
  · obtain ⟨t, t1, t2, t3, t4, t5, t6⟩ := take_ok h
    rw [if_pos h, t2, clear_len _ (by omega)]
    exact hl
  · rw [if_neg h]; exact hl
theorem Iv.fresh (hn : n ≤ 65536) (hl : m.length = n * 256) (ok : Ok S) (fst : Fst S) (hO : ∀ f, O f → S.cl f = 0) (h0 : takeE n S = 0) : Iv n O ⟨takeM n m S, Go.Proofs.YteghkhdpdeiocaaGreatDoor.takeS n S, xr (alR S 0)⟩ := by
  obtain ⟨t, t1, t2, t3, t4, t5, t6⟩ := take_ok h0
  have fi : S.fi ≤ t := by
    by_cases e : S.fi ≤ t
    · exact e
    · have := fst t (by omega)
      omega
  have nO : ¬ O t := fun e => by have := hO t e; omega
  have eM : takeM n m S = clearV m t := by unfold takeM; rw [if_pos h0, t2]
  rw [eM, t2, t6]
  refine ⟨hn, by rw [clear_len _ (by omega)]; exact hl, ok.set (by decide) ⟨(fun e => absurd e (by decide)), (fun _ => ⟨by decide, by decide⟩)⟩, fst.set (.inl fi), ⟨by show -1 ≤ (t : Int); omega, by show (t : Int) < n; omega⟩, fun k hk => ⟨by show (-1 : Int) ≤ -1; omega, by show (-1 : Int) < n; omega⟩, fun k j _ _ h => ?_, fun _ k hk => ?_, fun _ _ _ => rfl, fun p a _ h => ?_, fun f hf => ?_, fun k f _ hf => ?_, fun k l _ _ h => ?_, fun h => ?_, fun f hf => ?_⟩
  · have : (0 : Int) ≤ -1 := h
    omega
  · show e8 (clearV m t) ((t : Int)).toNat k = loN (-1)
    rw [Int.toNat_natCast, e8_clear m (by omega) hk, if_pos rfl]
    rfl
  · cases h
  · have : (t : Int) = f := hf
    have : f = t := by omega
    subst this
    exact ⟨t4, upd_self _ _ _, upd_self _ _ _, fi, nO⟩
  · have : (-1 : Int) = f := hf
    omega
  · have : (0 : Int) ≤ -1 := h
    omega
  · have : (t : Int) < 0 := h
    omega
  · show upd S.cl t 0 f = 0
    rw [upd_other _ _ _ (fun (e : f = t) => nO (e ▸ hf))]
    exact hO f hf
/-- another guest's root taken -/
theorem Iv.next (h : Iv n O z) (h0 : takeE n z.S = 0) : Iv n (fun f => O f ∨ TF (xr (alR z.S 0)) f) ⟨takeM n z.m z.S, Go.Proofs.YteghkhdpdeiocaaGreatDoor.takeS n z.S, z.x⟩ := by
  obtain ⟨t, t1, t2, t3, t4, t5, t6⟩ := take_ok h0
  obtain ⟨k1, k2, k3⟩ := h.takeS
  have hlen := h.len
  have eM : takeM n z.m z.S = clearV z.m t := by unfold takeM; rw [if_pos h0, t2]
  have nt : ∀ f, TF z.x f → f ≠ t := fun f hf e => by
    have := (h.tf hf).c
    rw [e] at this
    omega
  have E1 := fun f j (hj : j < 32) => e8_clear z.m (f := t) (f' := f) (j := j) (by omega) hj
  have hT : ∀ f, TF z.x f → Tf z.S O f → Tf (Go.Proofs.YteghkhdpdeiocaaGreatDoor.takeS n z.S) (fun f => O f ∨ TF (xr (alR z.S 0)) f) f := fun f hf hx => by
    have q := hx.kp k3 (.inr hf)
    refine ⟨q.n, q.c, q.t, q.fi, ?_⟩
    rintro (e | e | ⟨k, _, e⟩)
    · exact hx.o e
    · have e' : alR z.S 0 = (f : Int) := e
      exact nt f hf (by omega)
    · have : (-1 : Int) = f := e
      omega
  refine ⟨h.n2, by rw [show (Zs.mk (takeM n z.m z.S) (Go.Proofs.YteghkhdpdeiocaaGreatDoor.takeS n z.S) z.x).m = clearV z.m t from eM, clear_len _ (by omega)]; exact hlen, k1, k2, h.rt, h.lo, fun k j hk hj h1 => ?_, fun h1 k hk => ?_, h.pn, h.pf, fun f hf => hT f (.inl hf) (h.ro f hf), fun k f hk hf => ⟨hT f (.inr ⟨k, hk, hf⟩) (h.lw k f hk hf).1, (h.lw k f hk hf).2⟩, h.inj, h.cls, fun f hf => ?_⟩
  · obtain ⟨F, hF⟩ := Int.eq_ofNat_of_zero_le h1
    show e8 (takeM n z.m z.S) (z.x.lo k).toNat j = _
    rw [eM, E1 _ _ hj, if_neg (by rw [show (z.x.lo k).toNat = F by have : z.x.lo k = F := hF; omega]; exact nt F (.inr ⟨k, hk, hF⟩))]
    exact h.pe k j hk hj h1
  · obtain ⟨F, hF⟩ := Int.eq_ofNat_of_zero_le h1
    show e8 (takeM n z.m z.S) z.x.rt.toNat k = _
    rw [eM, E1 _ _ hk, if_neg (by rw [show z.x.rt.toNat = F by have : z.x.rt = F := hF; omega]; exact nt F (.inl hF))]
    exact h.re h1 k hk
  · show (Go.Proofs.YteghkhdpdeiocaaGreatDoor.takeS n z.S).cl f = 0
    rcases hf with hf | hf
    · exact (k3.cl f (.inl hf)).trans (h.oth f hf)
    · rcases hf with e | ⟨k, _, e⟩
      · have e' : alR z.S 0 = (f : Int) := e
        have : f = t := by omega
        subst this
        rw [t6]
        exact upd_self _ _ _
      · have : (-1 : Int) = f := e
        omega
end
end Go.Proofs.YteghkhdpdeiocaaGreatDoor
