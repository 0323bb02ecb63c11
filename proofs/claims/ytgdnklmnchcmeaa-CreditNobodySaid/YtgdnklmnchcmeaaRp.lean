/-
  A store at a key that is there, within a range over the map.
-/
import Derived.Test.YtgdnklmnchcmeaaBase
namespace Go.Proofs.Ytgdnklmnchcmeaa
open Go.RowKit Go.Maps
open Go.ChangeMaps Go.MapKept Go.WideShapes
open Go.WideElems (Fit rd rg pl rd_key rd_val rg_of rd_mk other_key)
set_option linter.unusedVariables false
set_option maxRecDepth 100000
section
variable {P : Program} {k : TypeId} {R : Value → Option (DataW Value × List MemPlace)} {w : World} {b r n : Nat} {D : DataW Value} {left : Lit → Bool} {cnt : Nat}
theorem ranges_put {t e : TypeId} (h : w.ranges P k R b r n D left cnt) (K : Keyed P k) (ht : P.underlying t = some (.map k e)) (hn : n < maxLen) {key val : Value} {kl : Lit} {d : DataW Value} {ps : List MemPlace} (hkey : keyOf P k key = some kl) (hv : R val = some (d, ps)) (hin : Maps.has D kl = true) :
    ∃ w', (Instr.mapUpdate t (.map (some b)) key val).run P w = .ok () w' ∧ w'.ranges P k R b r n (D.put kl d) left cnt ∧ w.mapTurned w' b := by
  have hne := h.ne
  obtain ⟨es, clock, since, seen, c0, hb, F, hs, rfl, hr, hold, rfl, hl1, hl2, hsc, hsk⟩ := h
  obtain ⟨es', clock', hrun, F', hput, _⟩ := Maps.fit_store (R' := R) K ht hb F (Nat.lt_of_le_of_lt hs hn) (fun _ _ _ _ hz => hz) hkey hv
  rcases K.find w hkey es.toList F.keys with ⟨h1, h2⟩ | ⟨j, e0, h1, h2, h3⟩
  · exfalso
    have hin' : (((es.toList.map (rg P k R)).foldr DataW.insert []).any fun p => p.1.sameKey kl) = true := hin
    obtain ⟨p, hp, hpk⟩ := List.any_eq_true.1 hin'
    obtain ⟨x, hx, rfl⟩ := List.mem_map.1 (mem_sorted.1 hp)
    obtain ⟨y, hy⟩ := F.reads x hx
    rw [rg_of hy] at hpk
    have e1 := WideAt.sameKey_eq hpk
    exact h2 x hx (K.inj (e1 ▸ rd_key hy) hkey)
  · have hj : es[j]? = some e0 := by simpa using h2
    have hjl : j < es.toList.length := (List.getElem?_eq_some_iff.1 h2).1
    have hrun2 : (Instr.mapUpdate t (.map (some b)) key val).run P w = .ok () (setBlock w b (.map (es.modify j fun e' => { e' with key := key, val := val }) clock)) := by
      simp [Instr.mapUpdate, run_underlying ht, MapKept.run_getObj_map hb, K.check w false hkey, h1, hj, h3, K.stays w hkey, MapKept.run_setObj_map _ hb, Result.andThen, setBlock]
    have heq : es' = (es.modify j fun e' => { e' with key := key, val := val }) ∧ clock' = clock := by
      rw [hrun] at hrun2
      have e1 : setBlock w b (.map es' clock') = setBlock w b (.map (es.modify j fun e' => { e' with key := key, val := val }) clock) := by simpa using hrun2
      have a1 := heap_setBlock_same hb (.map es' clock')
      rw [e1, heap_setBlock_same hb] at a1
      cases a1
      exact ⟨rfl, rfl⟩
    obtain ⟨rfl, rfl⟩ := heq
    have hlist : (es.modify j (fun e' => { e' with key := key, val := val })).toList = es.toList.set j { e0 with key := key, val := val } := by rw [Array.toList_modify, modify_eq_set _ _ _ _ h2]
    have who : ∀ x ∈ es.toList.set j { e0 with key := key, val := val }, x = { e0 with key := key, val := val } ∨ x ∈ es.toList := by
      intro x hx
      rcases List.mem_or_eq_of_mem_set hx with h | h
      · exact .inr h
      · exact .inl h
    have e0m : e0 ∈ es.toList := List.mem_of_getElem? h2
    have hk0 : (rg P k R e0).1 = kl := by
      obtain ⟨y, hy⟩ := F.reads e0 e0m
      rw [rg_of hy]
      have m1 := rd_key hy
      rw [h3, hkey] at m1
      exact (Option.some.inj m1).symm
    have hkn : rg P k R { e0 with key := key, val := val } = (kl, d) := by rw [rg_of (rd_mk hkey hv)]
    refine ⟨_, hrun, ⟨_, clock', since, seen, c0, heap_setBlock_same hb _, F', by simpa using hs, by rw [DataW.put_eq, hput], (heap_setBlock_other hb _ hne).trans hr, fun x hx => ?_, ?_, fun x hx => ?_, fun x0 hx0 => ?_, hsc, hsk⟩, ⟨es, clock', _, clock', hb, rfl⟩⟩
    · rw [hlist] at hx
      rcases who x hx with rfl | hx
      · exact hold e0 e0m
      · exact hold x hx
    · have e1 : ∀ a : Array MapEntry, (leftOf a seen).size = ((a.toList.map (·.born)).filter fun e => !seen.contains e).length := fun a => by
        unfold leftOf
        rw [← Array.length_toList, Array.toList_filter, List.filter_map, List.length_map]
        rfl
      rw [e1, e1, hlist, List.map_set]
      congr 2
      have hb0 : (es.toList.map (·.born))[j]? = some e0.born := by rw [List.getElem?_map, h2]; rfl
      obtain ⟨hq, e9⟩ := List.getElem?_eq_some_iff.1 hb0
      show (es.toList.map (·.born)).set j e0.born = _
      rw [← e9]
      exact List.set_getElem_self hq
    · rw [hlist] at hx
      rcases who x hx with rfl | hx
      · rw [hkn, ← hk0]
        exact hl1 e0 e0m
      · exact hl1 x hx
    · obtain ⟨x, hx, rfl⟩ := hl2 x0 hx0
      obtain ⟨i, hi⟩ := List.getElem?_of_mem hx
      rw [hlist]
      by_cases e : i = j
      · subst e
        rw [h2] at hi
        cases hi
        refine ⟨_, List.mem_of_getElem? (i := i) (List.getElem?_set_self hjl), ?_⟩
        rw [hkn, hk0]
      · exact ⟨x, List.mem_of_getElem? (i := i) (by rw [List.getElem?_set_ne (fun e2 => e e2.symm)]; exact hi), rfl⟩
end
theorem KD.put {D : DataW Value} {M : Int → Option Value} (h : KD D M) (hm : IsMap D) (p : Int) (v : Value) : KD (D.put (.int .i64 p) (.held v)) (upd M p (some v)) := ⟨fun q hq => by
  unfold upd
  by_cases e : q = p
  · subst e
    simp only [if_true]
    exact ⟨Maps.has_put_same hm (law.key (key_of q hq)) _, fun z => Maps.atKey_put_same hm (law.key (key_of q hq)) _ _⟩
  · rw [if_neg e]
    exact ⟨(Maps.has_put_other (kl_ne e) _).trans (h.at_ q hq).1, fun z => (Maps.atKey_put_other (kl_ne e) _ _).trans ((h.at_ q hq).2 z)⟩⟩
theorem ranges_n {P : Program} {k : TypeId} {R : Value → Option (DataW Value × List MemPlace)} {w : World} {b r n : Nat} {D : DataW Value} {left : Lit → Bool} {cnt : Nat} (h : w.ranges P k R b r n D left cnt) : w.ranges P k R b r (Maps.size D) D left cnt := by
  obtain ⟨es, clock, since, seen, c0, hb, F, hs, rfl, rest⟩ := h
  exact ⟨es, clock, since, seen, c0, hb, F, by simp [Maps.size, length_sorted], rfl, rest⟩
theorem rput_run {t e : TypeId} {w : World} {m r : Nat} {M : Int → Option Value} {left : Int → Bool} {cnt : Nat} (hu : Try.prog.underlying t = some (.map 3 e)) (h : Rg w m r M left cnt) (p : Int) (hp : KW p) (v : Value) (hM : (M p).isSome = true) (K : List Int) (hK : ∀ k, KW k → (M k).isSome = true → k ∈ K) (hl : K.length < maxLen) :
    ∃ w', (Instr.mapUpdate t (.map (some m)) (.int .i64 p) v).run Try.prog w = .ok () w' ∧ Rg w' m r (upd M p (some v)) left cnt ∧ w.mapTurned w' m := by
  obtain ⟨n, D, lf, hr, hD, hlf⟩ := h
  have hn : Maps.size D ≤ K.length := MapIs.le (w := w) (m := m) (M := M) ⟨D, owns_size hr.owns, rfl, hD⟩ K hK
  obtain ⟨w', hrun, hr', ht⟩ := ranges_put (ranges_n hr) law hu (Nat.lt_of_le_of_lt hn hl) (key_of p hp) (show RV v = some (.held v, []) from rfl) (by rw [(hD.at_ p hp).1]; exact hM)
  exact ⟨w', hrun, ⟨_, _, _, hr', hD.put hr.owns.isMap p v, hlf⟩, ht⟩
end Go.Proofs.Ytgdnklmnchcmeaa
