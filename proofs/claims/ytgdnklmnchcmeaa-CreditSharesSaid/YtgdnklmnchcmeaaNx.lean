/-
  Who comes first for a core: plainly, and what next tells.
-/
import Derived.Test.YtgdnklmnchcmeaaCe
namespace Go.Proofs.Ytgdnklmnchcmeaa
open Go.RowKit Go.Maps
set_option linter.unusedVariables false
set_option maxRecDepth 100000
/-- n lists, one behind the other -/
def flat (g : Nat → List Int) : Nat → List Int
  | 0 => []
  | n + 1 => flat g n ++ g n
theorem flat_none {g : Nat → List Int} : ∀ {n : Nat}, (∀ i, i < n → g i = []) → flat g n = []
  | 0, _ => rfl
  | n + 1, h => by
    show flat g n ++ g n = []
    rw [flat_none fun i hi => h i (by omega), h n (by omega)]
    rfl
theorem flat_some {g : Nat → List Int} {j : Nat} {k : Int} : ∀ {n : Nat}, (∀ i, i < j → g i = []) → (g j).head? = some k → j < n → (flat g n).head? = some k
  | 0, _, _, h => by omega
  | n + 1, h, hk, hj => by
    show (flat g n ++ g n).head? = _
    rw [List.head?_append]
    rcases Nat.lt_succ_iff_lt_or_eq.1 hj with h1 | rfl
    · rw [flat_some h hk h1]
      rfl
    · rw [flat_none h]
      simpa using hk
/-- the queue so many behind a core's -/
def rot (Q : Nat → List Int) (n core i : Nat) : List Int := Q ((core + i) % n)
def nxt (S : St) (n core : Nat) : List Int := flat (fun i => (rot S.Q n core i).filter (und S.L)) n ++ flat (fun i => rot S.Q n core i) n
theorem cf43 (args : Array Value) (w : World) : (callFunc 43 args).run Try.prog w = .ok (.enter 43 args) w := by kernel_rfl
theorem cf50 (args : Array Value) (w : World) : (callFunc 50 args).run Try.prog w = .ok (.enter 50 args) w := by kernel_rfl
theorem cf48 (args : Array Value) (w : World) : (callFunc 48 args).run Try.prog w = .ok (.enter 48 args) w := by kernel_rfl
section
variable {w w' : World} {c m p n N : Nat} {per : Int} {M : Int → Option Value} {F : Nat → Pv} {S : St} {k : Int} {x : On}
theorem SOk.kw (h : SOk n per S) {i : Nat} (hi : i < n) {k : Int} (hk : k ∈ S.Q i) : KW k := by
  obtain ⟨x, hx, rfl, _⟩ := (h.q1 i hi k).1 hk
  exact (h.ok x hx).id
theorem asks_under (h : VX w c m p n per F S) {i : Nat} (hi : i < n) : Asks (.func (.func 43) #[.pointer (some ⟨c, 0, none⟩)] #[]) 43 #[.pointer (some ⟨c, 0, none⟩)] #[] (S.Q i) (und S.L) w :=
  ⟨rfl, cf43, fun W hb k hk => (under_vx (h.below hb) k (h.ok.kw hi hk)).mono fun e w' ⟨h1, h2⟩ => ⟨h1, h2 ▸ Below.refl _ _⟩⟩
theorem yes_any (k : Int) (w : World) : Calls Try.prog 50 #[.int .i64 k] w fun e w' => e = .returned (.bool true) ∧ w' = w := by
  go_enter Try.func50, Try.ntmps50
  go_wp2_with fail
  go_ret
  exact ⟨rfl, rfl⟩
theorem asks_all (xs : List Int) (w : World) : Asks (.func (.func 50) #[] #[]) 50 #[] #[] xs (fun _ => true) w :=
  ⟨rfl, cf50, fun W hb k hk => (yes_any k W).mono fun e w' ⟨h1, h2⟩ => ⟨h1, h2 ▸ Below.refl _ _⟩⟩
theorem Asks.mono {fv : Value} {f : FuncId} {pre post : Array Value} {xs : List Int} {P : Int → Bool} (A : Asks fv f pre post xs P w) (hb : Below w.heap.size w w') : Asks fv f pre post xs P w' :=
  ⟨A.val, A.enter, fun W h k hk => A.call W (hb.trans (h.mono hb.size)) k hk⟩
/-- what first tells, P asked of each -/
def FsP (w : World) (Q : Nat → List Int) (n core : Nat) (P : Int → Bool) (e : Ending) (w' : World) : Prop :=
  Below w.heap.size w w' ∧ ((e = .returned (.tuple #[.int .i64 0, .bool false]) ∧ ∀ i, i < n → (rot Q n core i).filter P = []) ∨
    ∃ k j, e = .returned (.tuple #[.int .i64 k, .bool true]) ∧ j < n ∧ (∀ i, i < j → (rot Q n core i).filter P = []) ∧ ((rot Q n core j).filter P).head? = some k)
set_option maxHeartbeats 1600000 in
theorem first_any (h : VX w c m p n per F S) {b1 b2 core : Nat} (hc : core < n) (h1 : w.cell? ⟨b1, 0, none⟩ = some (.pointer (some ⟨c, 0, none⟩))) (h2 : w.cell? ⟨b2, 0, none⟩ = some (.int .i64 core)) {fv : Value} {f : FuncId} {pre post : Array Value} {P : Int → Bool}
    (A : ∀ i, i < n → Asks fv f pre post (S.Q i) P w) : Calls Try.prog 48 #[fv, .pointer (some ⟨b1, 0, none⟩), .pointer (some ⟨b2, 0, none⟩)] w (FsP w S.Q n core P) := by
  have hl1 := lt_cell h1
  have hl2 := lt_cell h2
  have c1 := h.vr.c1
  have cl := h.vr.lt
  have nn := h.vr.nn
  have HV : Hid (VX w c m p n per F S) := h
  have HA : Hid (∀ i, i < n → Asks fv f pre post (S.Q i) P w) := A
  have HB0 : Hid (w.cell? ⟨b1, 0, none⟩ = some (.pointer (some ⟨c, 0, none⟩)) ∧ w.cell? ⟨b2, 0, none⟩ = some (.int .i64 core)) := ⟨h1, h2⟩
  clear h A
  go_enter Try.func48, Try.ntmps48
  go_wp2_with fail
  go_loopw [14] (fun q wr => ∃ j : Nat, j ≤ n ∧ q = .int .i64 j ∧ Hid (Below w.heap.size w wr ∧ ∀ i, i < j → (rot S.Q n core i).filter P = [])) (fun q _ => n - (intOf q).toNat)
  case atStart => exact ⟨0, by omega, rfl, Below.refl _ _, fun i hi => absurd hi (by omega)⟩
  case round =>
    obtain ⟨j, hj, rfl, HJ⟩ := hrel
    clear h1 h2 c1 cl
    by_cases hjn : j < n
    · have hjn' : (j : Int) < (n : Int) := by omega
      have hq := HV.out.below HJ.out.1
      have d1 := HJ.out.1.cell (p := ⟨b1, 0, none⟩) hl1
      have d2 := HJ.out.1.cell (p := ⟨b2, 0, none⟩) hl2
      rw [HB0.out.1] at d1
      rw [HB0.out.2] at d2
      have e1 : b1 < wr.heap.size := Nat.lt_of_lt_of_le hl1 HJ.out.1.size
      have e2 : b2 < wr.heap.size := Nat.lt_of_lt_of_le hl2 HJ.out.1.size
      have c1 := hq.vr.c1
      have cl := hq.vr.lt
      have hn0 : 0 < n := by omega
      obtain ⟨i, hi⟩ : ∃ i, (core + j) % n = i := ⟨_, rfl⟩
      have hin : i < n := by rw [← hi]; exact Nat.mod_lt _ hn0
      have hrem : Int.tmod ((core : Int) + (j : Int)) (n : Int) = (i : Int) := by
        rw [← hi, show ((core : Int) + (j : Int)) = ((core + j : Nat) : Int) by omega]
        rfl
      obtain ⟨p0, _⟩ := hq.vr.pr.all hin
      have pl := hq.vr.pr.lt
      have hnz : ¬ (n : Int) = 0 := by omega
      have hnz2 : ((n : Int) == 0) = false := by simpa using hnz
      have hwr : IntKind.i64.wrap ((core : Int) + (j : Int)) = (core : Int) + (j : Int) := by rw [IntKind.wrap_i64]; omega
      have hwr2 : IntKind.i64.wrap (i : Int) = (i : Int) := by rw [IntKind.wrap_i64]; omega
      go_wp2_with fail
      go_quiet (fail)
      have HY : Hid (Below w.heap.size w (World.drewN wr nq)) := below_drewN HJ.out.1 nq
      generalize World.drewN wr nq = y at *
      have hqs := (HV.out.below HY.out).vr.qs i hin
      have K := indexf_qs hqs ((HA.out i hin).mono HY.out) (by have := HV.out.ok.qlen hin; omega)
      obtain ⟨ad, cc, hform⟩ := hqs.form
      have HQ : Hid (Qs y (.slice ad (S.Q i).length cc) (S.Q i)) := hform ▸ hqs
      have HI0 : rot S.Q n core j = S.Q i := by unfold rot; rw [hi]
      have HI : Hid (_) := HI0
      clear HI0
      rw [hform] at K ⊢
      clear hqs hform hq d1 d2 e1 e2 c1 cl p0 pl hrem hi hwr hwr2
      have hl64 := HV.out.ok.qlen hin
      obtain ⟨ln, hln⟩ : ∃ ln, (S.Q i).length = ln := ⟨_, rfl⟩
      have HL : Hid ((S.Q i).length = ln) := hln
      rw [hln] at K hl64 ⊢
      clear hln
      go_wp2_with fail
      refine K.mono ?_
      rintro e y1 ⟨hb1, ⟨rfl, hno⟩ | ⟨at_, hat, rfl, hfi⟩⟩
      · have H1 : Hid (Below w.heap.size w y1 ∧ ∀ a, a < j + 1 → (rot S.Q n core a).filter P = []) := ⟨HY.out.trans (hb1.mono HY.out.size), fun a ha => by
          rcases Nat.lt_succ_iff_lt_or_eq.1 ha with h | rfl
          · exact HJ.out.2 a h
          · rw [HI.out]
            exact List.filter_eq_nil_iff.2 fun b hb => by simp [hno b hb]⟩
        clear hno hb1 K HJ HY
        go_wp2_with fail
        go_roundw
        case rel => exact ⟨j + 1, by omega, by go_num, H1.out⟩
        case measure => simp [intOf]; omega
      · obtain ⟨g, c', e9, hr⟩ := HQ.out.pos (by omega)
        cases e9
        have hr1 := hr.keep (hb1.block g hr.lt)
        have x0 := hr1.at_ hat
        have xl := hr1.lt
        have hat' : (at_ : Int) < (ln : Int) := by have := HL.out; omega
        have H1 : Hid (FsP w S.Q n core P (.returned (.tuple #[.int .i64 ((S.Q i).getD at_ 0), .bool true])) y1) := ⟨HY.out.trans (hb1.mono HY.out.size), .inr ⟨_, j, rfl, hjn, HJ.out.2, by rw [HI.out, List.head?_filter]; exact hfi⟩⟩
        generalize (S.Q i).getD at_ 0 = kk at *
        clear hr hr1 hfi hb1 K HJ HY HQ
        go_wp2_with fail
        go_ret2
        exact H1.out
    · obtain rfl : j = n := by omega
      have H1 : Hid (FsP w S.Q j core P (.returned (.tuple #[.int .i64 0, .bool false])) wr) := ⟨HJ.out.1, .inl ⟨rfl, HJ.out.2⟩⟩
      clear HJ
      go_wp2_with fail
      go_ret2
      exact H1.out
theorem filter_all' (l : List Int) : (l.filter fun _ => true) = l := List.filter_eq_self.2 fun _ _ => rfl
theorem nxt_under {Q : Nat → List Int} {n core j : Nat} {k : Int} (hQ : S.Q = Q) (hj : j < n) (h1 : ∀ i, i < j → (rot Q n core i).filter (und S.L) = []) (h2 : ((rot Q n core j).filter (und S.L)).head? = some k) : (nxt S n core).head? = some k := by
  subst hQ
  unfold nxt
  rw [List.head?_append, flat_some (g := fun i => (rot S.Q n core i).filter (und S.L)) h1 h2 hj]
  rfl
theorem nxt_rest {n core : Nat} (h1 : ∀ i, i < n → (rot S.Q n core i).filter (und S.L) = []) : nxt S n core = flat (fun i => rot S.Q n core i) n := by
  unfold nxt
  rw [flat_none h1]
  rfl
def nxI (o : Option Int) : Int := o.getD 0
/-- next -/
theorem next_vx (h : VX w c m p n per F S) {core : Nat} (hc : core < n) : Calls Try.prog 40 #[.pointer (some ⟨c, 0, none⟩), .int .i64 core] w fun e w' => e = .returned (.tuple #[.int .i64 (nxI (nxt S n core).head?), .bool (nxt S n core).head?.isSome]) ∧ Below w.heap.size w w' := by
  have b1 : Below w.heap.size w (w.alloc (.cells #[.pointer (some ⟨c, 0, none⟩)] 23)) := below_box w _
  have b2 : Below w.heap.size w ((w.alloc (.cells #[.pointer (some ⟨c, 0, none⟩)] 23)).alloc (.cells #[.int .i64 core] 3)) := b1.alloc (by simp) _
  have g1 : ((w.alloc (.cells #[.pointer (some ⟨c, 0, none⟩)] 23)).alloc (.cells #[.int .i64 core] 3)).heap[w.heap.size]? = some (.cells #[.pointer (some ⟨c, 0, none⟩)] 23) := (heap_alloc_past _ _ (by simp)).trans (heap_alloc_at w _)
  have g2 : ((w.alloc (.cells #[.pointer (some ⟨c, 0, none⟩)] 23)).alloc (.cells #[.int .i64 core] 3)).heap[w.heap.size + 1]? = some (.cells #[.int .i64 core] 3) := by
    have := heap_alloc_at (w.alloc (.cells #[.pointer (some ⟨c, 0, none⟩)] 23)) (.cells #[.int .i64 core] 3)
    simpa using this
  have K1 := first_any (h.below b2) hc (cell_at g1 0) (cell_at g2 0) (fun i hi => asks_under (h.below b2) hi)
  have K2 : Hid (∀ w1, Below ((w.alloc (.cells #[.pointer (some ⟨c, 0, none⟩)] 23)).alloc (.cells #[.int .i64 core] 3)).heap.size ((w.alloc (.cells #[.pointer (some ⟨c, 0, none⟩)] 23)).alloc (.cells #[.int .i64 core] 3)) w1 →
      Calls Try.prog 48 #[.func (.func 50) #[] #[], .pointer (some ⟨w.heap.size, 0, none⟩), .pointer (some ⟨w.heap.size + 1, 0, none⟩)] w1 (FsP w1 S.Q n core (fun _ => true))) := fun w1 hb =>
    first_any ((h.below b2).below hb) hc (cell_at ((hb.block _ (lt_of_heap g1)).trans g1) 0) (cell_at ((hb.block _ (lt_of_heap g2)).trans g2) 0) (fun i hi => asks_all _ _)
  have c48 := cf48
  have HB : Hid (Below w.heap.size w ((w.alloc (.cells #[.pointer (some ⟨c, 0, none⟩)] 23)).alloc (.cells #[.int .i64 core] 3))) := b2
  have hsz : w.heap.size < ((w.alloc (.cells #[.pointer (some ⟨c, 0, none⟩)] 23)).alloc (.cells #[.int .i64 core] 3)).heap.size := lt_of_heap g1
  have r1 := cell_at g1 0
  simp at r1
  clear h b1 b2 g1 g2
  go_enter Try.func40, Try.ntmps40
  go_wp2_with fail
  refine K1.mono ?_
  rintro e w1 ⟨hb1, ⟨rfl, hno⟩ | ⟨k, j, rfl, hj, hp1, hp2⟩⟩
  · have K3 := K2.out w1 hb1
    have HB1 : Hid (Below w.heap.size w w1) := HB.out.trans (hb1.mono HB.out.size)
    have HN : Hid (nxt S n core = flat (fun i => rot S.Q n core i) n) := nxt_rest hno
    clear K1 K2 hb1 hno HB r1
    go_wp2_with fail
    refine K3.mono ?_
    rintro e w2 ⟨hb2, ⟨rfl, hno⟩ | ⟨k, j, rfl, hj, hp1, hp2⟩⟩
    · have HF : Hid ((nxt S n core).head? = none ∧ Below w.heap.size w w2) := ⟨by rw [HN.out, flat_none fun i hi => by rw [← filter_all' (rot S.Q n core i)]; exact hno i hi]; rfl, HB1.out.trans (hb2.mono HB1.out.size)⟩
      clear hb2 hno K3 HB1
      go_wp2_with fail
      go_ret2
      rw [HF.out.1]
      exact ⟨rfl, HF.out.2⟩
    · have HF : Hid ((nxt S n core).head? = some k ∧ Below w.heap.size w w2) := ⟨by rw [HN.out]; exact flat_some (fun i hi => by rw [← filter_all' (rot S.Q n core i)]; exact hp1 i hi) (by rw [filter_all'] at hp2; exact hp2) hj, HB1.out.trans (hb2.mono HB1.out.size)⟩
      clear hb2 hp1 hp2 K3 HB1
      go_wp2_with fail
      go_ret2
      rw [HF.out.1]
      exact ⟨rfl, HF.out.2⟩
  · have HF : Hid ((nxt S n core).head? = some k ∧ Below w.heap.size w w1) := ⟨nxt_under rfl hj hp1 hp2, HB.out.trans (hb1.mono HB.out.size)⟩
    clear hb1 hp1 hp2 K1 K2 HB
    go_wp2_with fail
    go_ret2
    rw [HF.out.1]
    exact ⟨rfl, HF.out.2⟩
end
end Go.Proofs.Ytgdnklmnchcmeaa
