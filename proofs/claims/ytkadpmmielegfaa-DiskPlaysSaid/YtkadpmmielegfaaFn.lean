/-
  Closures that are asked request by request; what slices.IndexFunc, ContainsFunc and DeleteFunc do with them.
-/
import Derived.Test.YtkadpmmielegfaaRw
namespace Go.Proofs.Ytkadpmmielegfaa
open Go.RowKit
set_option linter.unusedVariables false
set_option maxRecDepth 20000

/-- a closure that is asked request by request, and tells P of each; it has caught block q, and turns nothing -/
structure Asks (f : FuncId) (q : Nat) (o : Obj) (P : Rq → Bool) : Prop where
  enter : ∀ (args : Array Value) (w : World), (callFunc f args).run Try.prog w = .ok (.enter f args) w
  call : ∀ r w, w.heap[q]? = some o → Calls Try.prog f (#[rv r] ++ #[.pointer (some ⟨q, 0, none⟩)]) w fun e w' => e = .returned (.bool (P r)) ∧ Below w.heap.size w w'

theorem asks_id (q : Nat) (id : Int) : Asks 38 q (.cells #[.int .i64 id] 3 (0, 0)) (fun r => r.i == id) := by
  refine ⟨fun args w => by kernel_rfl, fun r w hq => ?_⟩
  have hl := lt_of_heap hq
  have hc : w.cell? ⟨q, 0, none⟩ = some (.int .i64 id) := by simp [World.cell?, hq]
  clear hq
  unfold rv
  go_enter Try.func38, Try.ntmps38
  go_wp2
  go_ret
  exact ⟨rfl, (Below.refl _ _).alloc (Nat.le_refl _) _⟩
theorem asks_same (q : Nat) (p : Rq) : Asks 41 q (.cells (rc p).toArray 38 (0, 0)) (fun r => decide (r = p)) := by
  refine ⟨fun args w => by kernel_rfl, fun r w hq => ?_⟩
  have hl := lt_of_heap hq
  have c0 : w.cell? ⟨q, 0, none⟩ = some (.int .i64 p.i) := by simp [World.cell?, hq, rc]
  have c1 : w.cell? ⟨q, 1, none⟩ = some (.bool p.w) := by simp [World.cell?, hq, rc]
  have c2 : w.cell? ⟨q, 2, none⟩ = some (.int .i64 p.b) := by simp [World.cell?, hq, rc]
  have c3 : w.cell? ⟨q, 3, none⟩ = some (.int .i64 p.f) := by simp [World.cell?, hq, rc]
  have he : decide (r = p) = ((r.i == p.i) && ((r.w == p.w) && ((r.b == p.b) && (r.f == p.f)))) := by
    rw [Bool.eq_iff_iff]
    obtain ⟨a, b, c, d⟩ := r
    obtain ⟨a', b', c', d'⟩ := p
    simp
  have HE : Hid (_) := he
  clear hq he
  unfold rv
  go_enter Try.func41, Try.ntmps41
  go_wp2
  all_goals
    go_ret
    refine ⟨ret_bool ?_, (Below.refl _ _).alloc (Nat.le_refl _) _⟩
    rw [HE.out]
    simp [*]

theorem index_nil (f : FuncId) (q : Nat) (w : World) :
    Calls Try.prog 45 #[.slice none 0 0, .func (.func f) #[] #[.pointer (some ⟨q, 0, none⟩)]] w fun e w' => e = .returned (.int .i64 (-1)) ∧ w' = w := by
  go_enter Try.func45, Try.ntmps45
  go_wp2_with fail
  go_loopw [8] (fun i wr => i = .int .i64 0 ∧ wr = w) (fun _ _ => 0)
  case atStart => exact ⟨rfl, rfl⟩
  case round =>
    obtain ⟨rfl, rfl⟩ := hrel
    go_wp2_with fail
    go_ret
    exact ⟨rfl, rfl⟩

set_option maxHeartbeats 800000 in
theorem index_any (f : FuncId) (q g n c : Nat) (o : Obj) (G : Nat → Rq) (P : Rq → Bool) (w : World)
    (D : Asks f q o P) (hr : Row 38 w g c n G) (hq : w.heap[q]? = some o) :
    Calls Try.prog 45 #[.slice (some ⟨g, 0, none⟩) n c, .func (.func f) #[] #[.pointer (some ⟨q, 0, none⟩)]] w fun e w' => Below w.heap.size w w' ∧
      ((e = .returned (.int .i64 (-1)) ∧ ∀ k, k < n → P (G k) = false) ∨ ∃ i, i < n ∧ e = .returned (.int .i64 i) ∧ P (G i) = true ∧ ∀ k, k < i → P (G k) = false) := by
  have hcf := D.enter
  have hcap := hr.cap
  have hmx : maxLen < 9223372036854775808 := by decide
  have HD : Hid (Asks f q o P) := D
  have HR : Hid (Row 38 w g c n G) := hr
  have HQ : Hid (w.heap[q]? = some o) := hq
  clear D hr hq
  go_enter Try.func45, Try.ntmps45
  go_wp2_with fail
  go_loopw [8] (fun i wr => ∃ j : Nat, j ≤ n ∧ i = .int .i64 j ∧ Hid (Below w.heap.size w wr ∧ (∀ k, k < j → P (G k) = false))) (fun i _ => n - (intOf i).toNat)
  case atStart => exact ⟨0, by omega, rfl, Below.refl _ _, fun k hk => absurd hk (by omega)⟩
  case round =>
    obtain ⟨j, hj, rfl, HJ⟩ := hrel
    by_cases hjn : j < n
    · have hjn' : (j : Int) < (n : Int) := by omega
      have hr1 : Row 38 wr g c n G := Row.keep HR.out (HJ.out.1.block g (Row.lt HR.out))
      have hq1 : wr.heap[q]? = some o := (HJ.out.1.block q (lt_of_heap HQ.out)).trans HQ.out
      obtain ⟨c0, c1, c2, c3⟩ := hr1.c j hjn
      have hlt := hr1.lt
      have C := HD.out.call (G j) wr hq1
      clear hr1 hq1
      unfold rv at *
      go_wp2_with fail
      refine C.mono ?_
      rintro e y1 ⟨rfl, hb1⟩
      have HG : Hid (Below w.heap.size w y1) := HJ.out.1.trans (hb1.mono HJ.out.1.size)
      clear hb1 C
      cases hP : P (G j)
      · go_wp2_with fail
        go_roundw
        case rel => exact ⟨j + 1, by omega, by go_num, HG.out, fun k hk => by
          rcases Nat.lt_succ_iff_lt_or_eq.1 hk with h | rfl
          · exact HJ.out.2 k h
          · exact hP⟩
        case measure => simp [intOf]; omega
      · go_wp2_with fail
        go_ret
        exact ⟨HG.out, .inr ⟨j, hjn, rfl, hP, HJ.out.2⟩⟩
    · obtain rfl : j = n := by omega
      go_wp2_with fail
      go_ret
      exact ⟨HJ.out.1, .inl ⟨rfl, HJ.out.2⟩⟩

theorem contains_any (f : FuncId) (q B : Nat) (v : Value) (o : Obj) (os : List Rq) (P : Rq → Bool) (w : World)
    (D : Asks f q o P) (hr : Ord 38 B w v os) (hq : w.heap[q]? = some o) :
    Calls Try.prog 37 #[v, .func (.func f) #[] #[.pointer (some ⟨q, 0, none⟩)]] w fun e w' => e = .returned (.bool (os.any P)) ∧ Below w.heap.size w w' := by
  rcases hr with ⟨rfl, rfl⟩ | ⟨g, c, rfl, hB, hr⟩
  · go_enter Try.func37, Try.ntmps37
    go_wp2_with fail
    refine (index_nil f q _).mono ?_
    rintro e w1 ⟨rfl, rfl⟩
    go_wp2_with fail
    go_ret
    exact ⟨rfl, Below.refl _ _⟩
  · have C := index_any f q g os.length c o _ P w D hr hq
    clear D hr hq
    go_enter Try.func37, Try.ntmps37
    go_wp2_with fail
    refine C.mono ?_
    rintro e w1 ⟨hb, ⟨rfl, hall⟩ | ⟨i, hin, rfl, hPi, hall⟩⟩
    · have ha : os.any P = false := by
        rw [List.any_eq_false]
        intro x hx
        obtain ⟨k, hk, rfl⟩ := List.getElem_of_mem hx
        have := hall k hk
        simp [List.getD, List.getElem?_eq_getElem hk] at this
        simp [this]
      have HA : Hid (_) := ha
      clear ha hall
      go_wp2_with fail
      go_ret
      exact ⟨ret_bool HA.out.symm, hb⟩
    · have ha : os.any P = true := by
        rw [List.any_eq_true]
        refine ⟨os[i], List.getElem_mem _, ?_⟩
        simpa [List.getD, List.getElem?_eq_getElem hin] using hPi
      have HA : Hid (_) := ha
      clear hall ha hPi
      go_wp2_with fail
      go_ret
      exact ⟨ret_bool HA.out.symm, hb⟩

/-- of the first j requests those that stay -/
def keptL (G : Nat → Rq) (P : Rq → Bool) (j : Nat) : List Rq := ((List.range j).map G).filter (fun p => !P p)
theorem kept_succ (G : Nat → Rq) (P : Rq → Bool) (j : Nat) : keptL G P (j + 1) = keptL G P j ++ (if P (G j) then [] else [G j]) := by
  unfold keptL
  rw [List.range_succ]
  simp [List.filter_cons]
  cases P (G j) <;> simp
theorem kept_le (G : Nat → Rq) (P : Rq → Bool) (j : Nat) : (keptL G P j).length ≤ j := by
  unfold keptL
  have := List.length_filter_le (fun p => !P p) ((List.range j).map G)
  simpa using this
theorem kept_all (G : Nat → Rq) (P : Rq → Bool) : ∀ j, (∀ k, k < j → P (G k) = false) → keptL G P j = (List.range j).map G
  | 0, _ => rfl
  | j + 1, h => by
    rw [kept_succ, kept_all G P j (fun k hk => h k (by omega)), h j (by omega), List.range_succ]
    simp
theorem range_getD (os : List Rq) : (List.range os.length).map (fun i => os.getD i q0) = os := by
  apply List.ext_getElem (by simp)
  intro i h1 h2
  simp [List.getD, List.getElem?_eq_getElem h2]

theorem deleteFunc_nil (f : FuncId) (q : Nat) (w : World) :
    Calls Try.prog 40 #[.slice none 0 0, .func (.func f) #[] #[.pointer (some ⟨q, 0, none⟩)]] w fun e w' => e = .returned (.slice none 0 0) ∧ w' = w := by
  go_enter Try.func40, Try.ntmps40
  go_wp2_with fail
  refine (index_nil _ _ _).mono ?_
  rintro e w1 ⟨rfl, rfl⟩
  go_wp2_with fail
  go_ret
  exact ⟨rfl, rfl⟩

/-- the state between the rounds: j requests are asked, those that stay lie ahead -/
structure FS (w wr : World) (q g c n : Nat) (o : Obj) (G : Nat → Rq) (P : Rq → Bool) (j : Nat) : Prop where
  q : wr.heap[q]? = some o
  turn : w.grownBy wr (some g)
  row : ∃ F, Row 38 wr g c n F ∧ (∀ k, k < (keptL G P j).length → F k = (keptL G P j).getD k q0) ∧ ∀ k, j ≤ k → k < n → F k = G k
  lt : (keptL G P j).length < j

set_option maxHeartbeats 1600000 in
theorem deleteFunc_any (f : FuncId) (q g n c : Nat) (o : Obj) (G : Nat → Rq) (P : Rq → Bool) (w : World)
    (D : Asks f q o P) (hr : Row 38 w g c n G) (hq : w.heap[q]? = some o) (hqg : q ≠ g) :
    Calls Try.prog 40 #[.slice (some ⟨g, 0, none⟩) n c, .func (.func f) #[] #[.pointer (some ⟨q, 0, none⟩)]] w fun e w' => e = .returned (.slice (some ⟨g, 0, none⟩) (keptL G P n).length c) ∧
      Row 38 w' g c (keptL G P n).length (fun k => (keptL G P n).getD k q0) ∧ w.grownBy w' (some g) := by
  have hcf := D.enter
  have hcap := hr.cap
  have hmx : maxLen < 9223372036854775808 := by decide
  have C := index_any f q g n c o G P w D hr hq
  have HD : Hid (Asks f q o P) := D
  have HR : Hid (Row 38 w g c n G) := hr
  have HQ : Hid (w.heap[q]? = some o) := hq
  clear D hr hq
  go_enter Try.func40, Try.ntmps40
  go_wp2_with fail
  refine C.mono ?_
  rintro e w1 ⟨hg1, ⟨rfl, hall⟩ | ⟨i, hin, rfl, hPi, hall⟩⟩
  · have hk := kept_all G P n hall
    have hfin : Row 38 w1 g c (keptL G P n).length (fun k => (keptL G P n).getD k q0) := by
      rw [hk]
      simp only [List.length_map, List.length_range]
      refine (Row.keep HR.out (hg1.block g (Row.lt HR.out))).congr (fun k hkn => ?_)
      simp [hkn]
    have hlen : (keptL G P n).length = n := by rw [hk]; simp
    have HF : Hid (Row 38 w1 g c (keptL G P n).length (fun k => (keptL G P n).getD k q0) ∧ w.grownBy w1 (some g)) := ⟨hfin, grown_some hg1 _⟩
    clear hfin hg1 hk C
    go_wp2_with fail
    go_ret
    exact ⟨congrArg (fun q => Ending.returned (.slice (some ⟨g, 0, none⟩) q c)) hlen.symm, HF.out⟩
  · have E0 : Hid (FS w w1 q g c n o G P (i + 1)) := by
      have hk := kept_all G P i hall
      have hk1 : keptL G P (i + 1) = (List.range i).map G := by rw [kept_succ, hPi, hk]; simp
      refine ⟨(hg1.block q (lt_of_heap HQ.out)).trans HQ.out, grown_some hg1 _, ⟨G, Row.keep HR.out (hg1.block g (Row.lt HR.out)), fun k hkl => ?_, fun k _ _ => rfl⟩, by rw [hk1]; simp⟩
      rw [hk1] at hkl ⊢
      have hki : k < i := by simpa using hkl
      simp [hki]
    have hkl : (keptL G P (i + 1)).length = i := by rw [kept_succ, hPi, kept_all G P i hall]; simp
    have hne : ((i : Int) == -1) = false := beq_false_of_ne (by omega)
    clear hg1 C hall
    go_wp2_with fail
    go_loopw [5, 6] (fun a b wr => ∃ j : Nat, j ≤ n ∧ b = .int .i64 j ∧ a = .int .i64 (keptL G P j).length ∧ Hid (FS w wr q g c n o G P j)) (fun _ b _ => n - (intOf b).toNat)
    case atStart => exact ⟨i + 1, by omega, by simp, by rw [hkl], E0⟩
    case round =>
      obtain ⟨j, hj, rfl, rfl, HJ⟩ := hrel
      by_cases hjn : j < n
      · have hjn' : (j : Int) < (n : Int) := by omega
        obtain ⟨F, hF, hF1, hF2⟩ := HJ.out.row
        have hlt := HJ.out.lt
        have e1 := hF2 j (Nat.le_refl _) hjn
        obtain ⟨c0, c1, c2, c3⟩ := hF.c j hjn
        rw [e1] at c0 c1 c2 c3
        have hgl := hF.lt
        have hb7 : Below wr.heap.size wr (wr.alloc (.cells #[.int .i64 (G j).i, .bool (G j).w, .int .i64 (G j).b, .int .i64 (G j).f] 38)) := (Below.refl _ _).alloc (Nat.le_refl _) _
        have hq7 : (wr.alloc (.cells #[.int .i64 (G j).i, .bool (G j).w, .int .i64 (G j).b, .int .i64 (G j).f] 38)).heap[q]? = some o := (hb7.block q (lt_of_heap HJ.out.q)).trans HJ.out.q
        have C := HD.out.call (G j) _ hq7
        have HX : Hid (Row 38 wr g c n F ∧ (∀ k, k < (keptL G P j).length → F k = (keptL G P j).getD k q0) ∧ (∀ k, j ≤ k → k < n → F k = G k) ∧ Below wr.heap.size wr (wr.alloc (.cells #[.int .i64 (G j).i, .bool (G j).w, .int .i64 (G j).b, .int .i64 (G j).f] 38))) := ⟨hF, hF1, hF2, hb7⟩
        have HQ7 : Hid (_) := hq7
        clear hF hF1 hF2 e1 hb7 hq7
        have hks := kept_succ G P j
        unfold rv at C
        go_wp2_with fail
        refine C.mono ?_
        rintro e y1 ⟨rfl, hg1⟩
        obtain ⟨hF, hF1, hF2, hb7⟩ := HX.out
        have hF' : Row 38 y1 g c n F := Row.keep (Row.keep hF (hb7.block g hgl)) (hg1.block g (by simp; omega))
        have hq' : y1.heap[q]? = some o := (hg1.block q (lt_of_heap HQ7.out)).trans HQ7.out
        have ht' : w.grownBy y1 (some g) := grown_trans (grown_trans HJ.out.turn (grown_some hb7 _)) (grown_some hg1 _)
        have d0 : y1.heap[wr.heap.size]? = _ := hg1.block wr.heap.size (by simp)
        have d1 : ∀ o, y1.cell? ⟨wr.heap.size, o, none⟩ = _ := fun o => World.cell?_of_block (a := ⟨wr.heap.size, o, none⟩) d0
        have hy : wr.heap.size < y1.heap.size := by have := hg1.size; simp at this; omega
        clear d0 hg1 C
        cases hP : P (G j)
        · rw [hP] at hks
          simp only [Bool.false_eq_true, if_false] at hks
          have hlj : (keptL G P j).length < n := by omega
          have hlj' : ((keptL G P j).length : Int) < (n : Int) := by omega
          obtain ⟨hs1, hs2⟩ := hF'.set (keptL G P j).length hlj (G j)
          obtain ⟨w0, w1, w2, w3⟩ := hF'.c _ hlj
          have wf := hF'.fz
          have HN : Hid (FS w (y1.setCells g ((keptL G P j).length * 4) (rc (G j))) q g c n o G P (j + 1)) := by
            refine ⟨(gr_keep hs2 (lt_of_heap hq') hqg).trans hq', grown_trans ht' hs2, ⟨_, hs1, fun k hk => ?_, fun k hk hkn => ?_⟩, by rw [hks]; simp; omega⟩
            · rw [hks] at hk ⊢
              simp only [List.length_append, List.length_singleton] at hk
              by_cases hkl : k = (keptL G P j).length
              · rw [if_pos hkl, hkl]
                simp
              · rw [if_neg hkl, hF1 k (by omega)]
                simp [List.getElem?_append_left (show k < (keptL G P j).length by omega)]
            · rw [if_neg (by omega)]
              exact hF2 k (by omega) hkn
          have hll : (keptL G P (j + 1)).length = (keptL G P j).length + 1 := by rw [hks]; simp
          rw [set4] at HN
          clear hs1 hs2 hF' ht' hF hF1 hF2 hb7 hks HX hq'
          generalize keptL G P j = K at *
          go_wp2_with fail
          go_roundw
          case rel => exact ⟨j + 1, by omega, by go_num, by rw [hll]; go_num, HN⟩
          case measure => simp [intOf]; omega
        · rw [hP] at hks
          simp only [if_true, List.append_nil] at hks
          have HN : Hid (FS w y1 q g c n o G P (j + 1)) :=
            ⟨hq', ht', ⟨F, hF', fun k hk => by rw [hks] at hk ⊢; exact hF1 k hk, fun k hk hkn => hF2 k (by omega) hkn⟩, by rw [hks]; omega⟩
          have hll : (keptL G P (j + 1)).length = (keptL G P j).length := by rw [hks]
          clear hF' ht' hF hF1 hF2 hb7 hks HX hq'
          generalize keptL G P j = K at *
          go_wp2_with fail
          go_roundw
          case rel => exact ⟨j + 1, by omega, by go_num, by rw [hll], HN⟩
          case measure => simp [intOf]; omega
      · obtain rfl : j = n := by omega
        obtain ⟨F, hF, hF1, hF2⟩ := HJ.out.row
        have hlt := HJ.out.lt
        obtain ⟨w2, q1, q2, q3⟩ := clear_run (.inl ⟨rfl, rfl⟩) hF 0 (keptL G P j).length (j - (keptL G P j).length) (c - (keptL G P j).length) (by omega) (by omega) (by omega)
        have HF : Hid (Row 38 w2 g c (keptL G P j).length (fun k => (keptL G P j).getD k q0) ∧ w.grownBy w2 (some g)) :=
          ⟨q2.congr hF1, grown_trans HJ.out.turn q3⟩
        clear q2 q3 hF hF1 hF2
        generalize hKK : keptL G P j = K at *
        have hk1 : (K.length : Int) ≤ (j : Int) := by omega
        go_wp2_with fail
        go_ret
        subst hKK
        exact ⟨rfl, HF.out⟩

/-- what is left of what is pending -/
theorem delete_ord (f : FuncId) (q B : Nat) (v : Value) (o : Obj) (os : List Rq) (P : Rq → Bool) (w : World)
    (D : Asks f q o P) (hr : Ord 38 B w v os) (hq : w.heap[q]? = some o) (hqg : v.ownBlock ≠ some q) :
    Calls Try.prog 40 #[v, .func (.func f) #[] #[.pointer (some ⟨q, 0, none⟩)]] w fun e w' => ∃ v', e = .returned v' ∧ v'.ownBlock = v.ownBlock ∧ Ord 38 B w' v' (os.filter (fun r => !P r)) ∧ w.grownBy w' v.ownBlock := by
  rcases hr with ⟨rfl, rfl⟩ | ⟨g, c, rfl, hB, hr⟩
  · refine (deleteFunc_nil f q w).mono ?_
    rintro e w1 ⟨rfl, rfl⟩
    exact ⟨_, rfl, rfl, .inl ⟨rfl, rfl⟩, grown_refl _ _⟩
  · refine (deleteFunc_any f q g os.length c o _ P w D hr hq (fun e => hqg (by rw [e]; rfl))).mono ?_
    rintro e w1 ⟨rfl, h1, h2⟩
    have e : keptL (fun i => os.getD i q0) P os.length = os.filter (fun r => !P r) := by
      unfold keptL
      rw [range_getD]
    rw [e] at h1
    rw [e]
    exact ⟨_, rfl, rfl, .inr ⟨g, c, rfl, hB, h1⟩, h2⟩
end Go.Proofs.Ytkadpmmielegfaa
