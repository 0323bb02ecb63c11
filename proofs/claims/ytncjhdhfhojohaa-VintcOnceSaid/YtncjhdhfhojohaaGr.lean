/-
  The walk of VintcGreatest.
-/
import Derived.Test.YtncjhdhfhojohaaCl
import Derived.Test.YtncjhdhfhojohaaNw
import Derived.Test.YtncjhdhfhojohaaOpens
namespace Go.Proofs.Ytncjhdhfhojohaa
open Go.RowKit
set_option linter.unusedVariables false
set_option maxRecDepth 100000
theorem and_low (v m : Int) (k : Nat) (hk : (BitVec.ofInt 64 m).toNat = k) (hb : k < 9223372036854775808) : ∃ i : Nat, i ≤ k ∧ bits .and .i64 v m = (i : Int) := by
  refine ⟨(BitVec.ofInt 64 v &&& BitVec.ofInt 64 m).toNat, ?_, ?_⟩
  · rw [BitVec.toNat_and, hk]
    exact Nat.and_le_right
  · show IntKind.i64.wrap ((BitVec.ofInt 64 v &&& BitVec.ofInt 64 m).toNat : Int) = _
    have h : (BitVec.ofInt 64 v &&& BitVec.ofInt 64 m).toNat ≤ k := by rw [BitVec.toNat_and, hk]; exact Nat.and_le_right
    rw [IntKind.wrap_i64]
    omega
theorem and_wgt (x : Int) : wgt (bits .and .i64 x 7) = true := by
  obtain ⟨i, h, e⟩ := and_low x 7 7 (by decide) (by decide)
  unfold wgt
  rw [e]
  exact decide_eq_true (by omega)
theorem src_at (j : Nat) (h1 : 1 ≤ j) (h2 : j < 17) : src (j : Int) = true := decide_eq_true (by omega)
theorem weiP_at (z : Z) (j : Nat) (n : Int) (h1 : 1 ≤ j) (h2 : j < 17) (hn : wgt n = true) : weiP z j n = z.setW j n := by
  unfold weiP weiF
  rw [src_at j h1 h2, hn, if_pos (show (true && true) = true from rfl), Int.toNat_natCast]
theorem raiP_at (z : Z) (j : Nat) (h1 : 1 ≤ j) (h2 : j < 17) : raiP z j = z.setP j true := by
  unfold raiP
  rw [src_at j h1 h2, if_pos rfl, Int.toNat_natCast]
theorem enaP_at (z : Z) (v j : Nat) (on : Bool) (h1 : 1 ≤ j) (h2 : j < 17) (hv : v < z.n) : enaP z v j on = z.setE j v on := by
  unfold enaP enaF hasV
  rw [src_at j h1 h2, decide_eq_true (show (0 : Int) ≤ v ∧ (v : Int) < z.n by omega), if_pos (show (true && true) = true from rfl), Int.toNat_natCast, Int.toNat_natCast]
theorem barP_at (z : Z) (v : Nat) (n : Int) (hv : v < z.n) (hn : wgt n = true) : barP z v n = z.setB v n := by
  unfold barP barF hasV
  rw [hn, decide_eq_true (show (0 : Int) ≤ v ∧ (v : Int) < z.n by omega), if_pos (show (true && true) = true from rfl), Int.toNat_natCast]
theorem up_same {α : Type} (f : Nat → α) (k : Nat) (v : α) : up f k v k = v := if_pos rfl
theorem up_ne {α : Type} (f : Nat → α) (k : Nat) (v : α) (i : Nat) (h : i ≠ k) : up f k v i = f i := if_neg h
/-- what is made of the sources below j: priorities p, raised R -/
structure GI (p : Nat → Int) (R : Nat → Bool) (z : Z) (j : Nat) : Prop where
  n : z.n = 1
  ok : Ok z
  t : ∀ s, s < 17 → z.T s = -1
  lo : ∀ s, 1 ≤ s → s < j → z.P s = R s ∧ z.W s = p s ∧ z.E s 0 = true
  hi : ∀ s, j ≤ s → z.P s = false
section
variable {p : Nat → Int} {R : Nat → Bool} {z : Z} {j : Nat}
theorem gi_1 : GI p R (nz 1 17) 1 := ⟨rfl, nz_ok 1 (by decide) (by decide), fun s hs => if_pos hs, fun s h1 h2 => by omega, fun s h => rfl⟩
theorem GI.no (h : GI p R z j) (h1 : 1 ≤ j) (h2 : j < 17) (hR : R j = false) : GI p R ((z.setW j (p j)).setE j 0 true) (j + 1) := by
  refine ⟨h.n, ⟨h.ok.n1, h.ok.n4, h.ok.p0, h.ok.t⟩, h.t, fun s s1 s2 => ?_, fun s hs => h.hi s (by omega)⟩
  by_cases e : s = j
  · subst e
    exact ⟨(h.hi s (Nat.le_refl _)).trans hR.symm, up_same _ _ _, (congrFun (up_same _ _ _) 0).trans (up_same _ _ _)⟩
  · obtain ⟨a, b, c⟩ := h.lo s s1 (by omega)
    exact ⟨a, (up_ne _ _ _ _ e).trans b, (congrFun (up_ne _ _ _ _ e) 0).trans c⟩
theorem GI.yes (h : GI p R z j) (h1 : 1 ≤ j) (h2 : j < 17) (hR : R j = true) : GI p R (((z.setW j (p j)).setE j 0 true).setP j true) (j + 1) := by
  refine ⟨h.n, (⟨h.ok.n1, h.ok.n4, h.ok.p0, h.ok.t⟩ : Ok ((z.setW j (p j)).setE j 0 true)).setP j h1 true, h.t, fun s s1 s2 => ?_, fun s hs => (up_ne _ _ _ _ (by omega)).trans (h.hi s (by omega))⟩
  by_cases e : s = j
  · subst e
    exact ⟨(up_same _ _ _).trans hR.symm, up_same _ _ _, (congrFun (up_same _ _ _) 0).trans (up_same _ _ _)⟩
  · obtain ⟨a, b, c⟩ := h.lo s s1 (by omega)
    exact ⟨(up_ne _ _ _ _ e).trans a, (up_ne _ _ _ _ e).trans b, (congrFun (up_ne _ _ _ _ e) 0).trans c⟩
/-- the law's own best -/
def lb (p : Nat → Int) (R : Nat → Bool) (bar : Int) : Nat → Nat
  | 0 => 0
  | i + 1 => if (R (i + 1) = true ∧ bar < p (i + 1)) ∧ (lb p R bar i = 0 ∨ p (lb p R bar i) < p (i + 1)) then i + 1 else lb p R bar i
theorem lb_le (bar : Int) (i : Nat) : lb p R bar i ≤ i := by
  induction i with
  | zero => exact Nat.le_refl _
  | succ i ih =>
    unfold lb
    split <;> omega
theorem lb_succ (bar : Int) (j : Nat) (h : 1 ≤ j) : lb p R bar j = if (R j = true ∧ bar < p j) ∧ (lb p R bar (j - 1) = 0 ∨ p (lb p R bar (j - 1)) < p j) then j else lb p R bar (j - 1) := by
  obtain ⟨i, rfl⟩ : ∃ i, j = i + 1 := ⟨j - 1, by omega⟩
  rfl
theorem GI.is_best (h : GI p R z 17) (bar : Int) (i : Nat) (hi : i ≤ 16) : best (z.setB 0 bar) 0 i = lb p R bar i := by
  induction i with
  | zero => rfl
  | succ i ih =>
    have ih := ih (by omega)
    obtain ⟨a, b, c⟩ := h.lo (i + 1) (by omega) (by omega)
    have hm : (may (z.setB 0 bar) (i + 1) 0 = true) ↔ (R (i + 1) = true ∧ bar < p (i + 1)) := by
      show ((z.P (i + 1) && (decide (z.T (i + 1) = -1) && (z.E (i + 1) 0 && decide (up z.B 0 bar 0 < z.W (i + 1))))) = true) ↔ _
      rw [up_same, a, b, c, h.t (i + 1) (by omega)]
      simp
    have hl := lb_le (p := p) (R := R) bar i
    show (if may (z.setB 0 bar) (i + 1) 0 = true ∧ (best (z.setB 0 bar) 0 i = 0 ∨ z.W (best (z.setB 0 bar) 0 i) < z.W (i + 1)) then i + 1 else best (z.setB 0 bar) 0 i) = if (R (i + 1) = true ∧ bar < p (i + 1)) ∧ (lb p R bar i = 0 ∨ p (lb p R bar i) < p (i + 1)) then i + 1 else lb p R bar i
    rw [ih, b]
    by_cases e : lb p R bar i = 0
    · rw [e]
      exact ite_congr (propext (and_congr hm (by simp))) (fun _ => rfl) (fun _ => rfl)
    · rw [(h.lo (lb p R bar i) (by omega) (by omega)).2.1]
      exact ite_congr (propext (and_congr hm Iff.rfl)) (fun _ => rfl) (fun _ => rfl)
end
set_option maxHeartbeats 6400000 in
theorem gwalk (cs : Array Value) (N : Nat → Int) (hcs : cs.size = 16) (hN : ∀ i, i < 16 → cs[i]? = some (.int .i64 (N i))) (rs br : Int) (w : World) : Calls Try.prog 6 #[.agg cs, .int .i64 rs, .int .i64 br] w fun e w' => e = .returned (.bool true) ∧ Below w.heap.size w w' := by
  have C1 := new_is 1 (by decide) (by decide) (w.alloc (.cells cs 59))
  have bx := below_box w (.cells cs 59)
  have ax := heap_alloc_at w (.cells cs 59)
  have HB : Hid (Below w.heap.size w (w.alloc (.cells cs 59)) ∧ (w.alloc (.cells cs 59)).heap[w.heap.size]? = some (.cells cs 59 (0, 0)) ∧ (w.alloc (.cells cs 59)).heap.size = w.heap.size + 1) := ⟨bx, ax, by simp⟩
  obtain ⟨bar, hbar⟩ : ∃ bar, bits .and .i64 br 7 = bar := ⟨_, rfl⟩
  have HW : Hid (wgt bar = true) := by rw [← hbar]; exact and_wgt br
  go_enter Try.func6, Try.ntmps6
  go_wp2_with fail
  generalize w.alloc (.cells cs 59) = y at *
  rw [HB.out.2.2] at C1
  refine C1.mono ?_
  rintro e w1 ⟨rfl, h1, b1⟩
  obtain ⟨p, hp⟩ : ∃ p : Nat → Int, p = fun j => bits .and .i64 (N (j - 1)) 7 := ⟨_, rfl⟩
  have HP : Hid (∀ j, bits .and .i64 (N (j - 1)) 7 = p j) := fun j => by rw [hp]
  have HPW : Hid (∀ j, wgt (p j) = true) := fun j => by rw [hp]; exact and_wgt _
  have H1 : Hid (Below w.heap.size w w1 ∧ w1.heap[w.heap.size]? = some (.cells cs 59 (0, 0)) ∧ IS 50 w1 (w.heap.size + 1) (nz 1 17)) := by
    have z := HB.out.2.2
    exact ⟨HB.out.1.trans (b1.mono (by omega)), (b1.block _ (by omega)).trans HB.out.2.1, h1⟩
  clear h1 b1 C1 HB bx ax hp
  go_wp2_with fail
  obtain ⟨R, hR⟩ : ∃ R : Nat → Bool, R = fun j => bits .and .i64 (rs / 2 ^ j) 1 == 1 := ⟨_, rfl⟩
  have HR : Hid (∀ j, (bits .and .i64 (rs / 2 ^ j) 1 == 1) = R j) := fun j => by rw [hR]
  clear hR
  go_loopw [9, 10] (fun p' q wr => ∃ j : Nat, 1 ≤ j ∧ j ≤ 17 ∧ q = .int .i64 j ∧ p' = .int .i64 (lb p R bar (j - 1)) ∧ ∃ z, Hid (Below w.heap.size w wr ∧ wr.heap[w.heap.size]? = some (.cells cs 59 (0, 0)) ∧ IS 50 wr (w.heap.size + 1) z ∧ GI p R z j)) (fun _ q _ => 17 - (intOf q).toNat)
  case atStart => exact ⟨1, by omega, by omega, rfl, rfl, _, H1.out.1, H1.out.2.1, H1.out.2.2, gi_1⟩
  case round =>
    obtain ⟨j, hj1, hj, rfl, rfl, z, HJ⟩ := hrel
    clear H1
    by_cases hjn : j < 17
    · obtain ⟨i, rfl⟩ : ∃ i, j = i + 1 := ⟨j - 1, by omega⟩
      have hjn' : ((i + 1 : Nat) : Int) < 17 := by omega
      have hi : ((((i + 1 : Nat) : Int) - 1 : Int)).toNat = i := by omega
      obtain ⟨jb, ja, ji, jg⟩ := HJ.out
      have c1 : wr.cell? ⟨w.heap.size, i, none⟩ = some (.int .i64 (N i)) := (cell_at ja i).trans (hN i (by omega))
      have l1 := lt_of_heap ja
      have hp : bits .and .i64 (N i) 7 = p (i + 1) := HP.out (i + 1)
      have K1 := weigh_is ji jg.ok ((i + 1 : Nat) : Int) (p (i + 1))
      have hf : weiF ((i + 1 : Nat) : Int) (p (i + 1)) = true := by unfold weiF; rw [src_at _ hj1 hjn, HPW.out _]; rfl
      rw [hf, weiP_at z (i + 1) _ hj1 hjn (HPW.out _)] at K1
      clear hf
      have HS : Hid (_) := lb_succ (p := p) (R := R) bar (i + 1) hj1
      have HLE : Hid (lb p R bar (i + 1 - 1) ≤ i) := lb_le bar i
      generalize lb p R bar (i + 1 - 1) = f at *
      have HJ1 : Hid (Below w.heap.size w wr ∧ wr.heap[w.heap.size]? = some (.cells cs 59 (0, 0)) ∧ GI p R z (i + 1)) := ⟨jb, ja, jg⟩
      clear HJ jb ja ji jg
      go_wp2_with fail
      refine K1.mono ?_
      rintro e w2 ⟨rfl, i2, t2⟩
      have hs2 := t2.size
      have ok2 : Ok (z.setW (i + 1) (p (i + 1))) := (fun k => ⟨k.n1, k.n4, k.p0, k.t⟩ : Ok z → _) HJ1.out.2.2.ok
      have n2 : (z.setW (i + 1) (p (i + 1))).n = 1 := HJ1.out.2.2.n
      have K2 := enable_is i2 ok2 0 ((i + 1 : Nat) : Int) true
      have hf : enaF (z.setW (i + 1) (p (i + 1))) 0 ((i + 1 : Nat) : Int) = true := by unfold enaF hasV; rw [src_at _ hj1 hjn, n2]; rfl
      rw [hf, show (0 : Int) = ((0 : Nat) : Int) from rfl, enaP_at _ 0 (i + 1) _ hj1 hjn (by rw [n2]; decide)] at K2
      have HJ2 : Hid (Below w.heap.size w w2 ∧ w2.heap[w.heap.size]? = some (.cells cs 59 (0, 0))) := by
        have l1' := l1
        exact ⟨bel_trn HJ1.out.1 (Nat.le_refl _) (Nat.le_succ _) t2, (t2.block _ l1 (by omega)).trans HJ1.out.2.1⟩
      clear hf i2 t2 ok2 n2 c1 K1
      unfold chk at *
      go_wp2_with fail
      refine K2.mono ?_
      rintro e w3 ⟨rfl, i3, t3⟩
      have hs3 := t3.size
      have HJ3 : Hid (Below w.heap.size w w3 ∧ w3.heap[w.heap.size]? = some (.cells cs 59 (0, 0)) ∧ IS 50 w3 (w.heap.size + 1) ((z.setW (i + 1) (p (i + 1))).setE (i + 1) 0 true)) :=
        ⟨bel_trn HJ2.out.1 (Nat.le_refl _) (Nat.le_succ _) t3, (t3.block _ (by omega) (by omega)).trans HJ2.out.2, i3⟩
      clear HJ2 i3 t3 K2
      obtain ⟨r, hr⟩ : ∃ r, R (i + 1) = r := ⟨_, rfl⟩
      have HRR : Hid (_) := hr
      have hb := HR.out (i + 1)
      rw [hr] at hb
      clear hr
      cases r
      · have HG : Hid (_) := HJ1.out.2.2.no hj1 hjn HRR.out
        go_wp2_with fail
        go_roundw
        case rel =>
          refine ⟨i + 1 + 1, by omega, by omega, by go_num, ?_, _, HJ3.out.1, HJ3.out.2.1, HJ3.out.2.2, HG.out⟩
          rw [Nat.add_sub_cancel, HS.out, if_neg (fun h => by rw [HRR.out] at h; exact Bool.noConfusion h.1.1)]
        case measure => simp [intOf]; omega
      · have HG : Hid (_) := HJ1.out.2.2.yes hj1 hjn HRR.out
        have K3 := raise_is HJ3.out.2.2 ((fun k => ⟨k.n1, k.n4, k.p0, k.t⟩ : Ok z → _) HJ1.out.2.2.ok) ((i + 1 : Nat) : Int)
        rw [src_at _ hj1 hjn, raiP_at _ _ hj1 hjn] at K3
        unfold chk at K3
        go_wp2_with fail
        refine K3.mono ?_
        rintro e w4 ⟨rfl, i4, t4⟩
        have hs4 := t4.size
        have HJ4 : Hid (Below w.heap.size w w4 ∧ w4.heap[w.heap.size]? = some (.cells cs 59 (0, 0)) ∧ IS 50 w4 (w.heap.size + 1) (((z.setW (i + 1) (p (i + 1))).setE (i + 1) 0 true).setP (i + 1) true)) :=
          ⟨bel_trn HJ3.out.1 (Nat.le_refl _) (Nat.le_succ _) t4, (t4.block _ (by omega) (by omega)).trans HJ3.out.2.1, i4⟩
        have l4 := lt_of_heap HJ4.out.2.1
        clear HJ3 i4 t4 K3 hp hb HJ1
        by_cases cb : bar < p (i + 1)
        · have hcb : decide (bar < p (i + 1)) = true := decide_eq_true cb
          by_cases cf : f = 0
          · subst cf
            have HC : Hid (_) := cb
            clear cb
            go_wp2_with fail
            go_roundw
            case rel =>
              refine ⟨i + 1 + 1, by omega, by omega, by go_num, ?_, _, HJ4.out.1, HJ4.out.2.1, HJ4.out.2.2, HG.out⟩
              rw [Nat.add_sub_cancel, HS.out, if_pos ⟨⟨HRR.out, HC.out⟩, .inl (by first | trivial | rfl)⟩]
              go_num
            case measure => simp [intOf]; omega
          · have hf0 : ((f : Int) == 0) = false := by simp; omega
            have hfi : ((f : Int) - 1).toNat = f - 1 := by omega
            have c1 : w4.cell? ⟨w.heap.size, f - 1, none⟩ = some (.int .i64 (N (f - 1))) := (cell_at HJ4.out.2.1 _).trans (hN _ (by have := HLE.out; omega))
            have hp := HP.out f
            have hf1 : (1 : Int) ≤ f := by omega
            have hf17 : (f : Int) < 17 := by have := HLE.out; omega
            by_cases co : p f < p (i + 1)
            · have hco : decide (p f < p (i + 1)) = true := decide_eq_true co
              have HC : Hid (_) := And.intro cb co
              clear cb co
              go_wp2_with fail
              go_roundw
              case rel =>
                refine ⟨i + 1 + 1, by omega, by omega, by go_num, ?_, _, HJ4.out.1, HJ4.out.2.1, HJ4.out.2.2, HG.out⟩
                rw [Nat.add_sub_cancel, HS.out, if_pos ⟨⟨HRR.out, HC.out.1⟩, .inr HC.out.2⟩]
                go_num
              case measure => simp [intOf]; omega
            · have hco : decide (p f < p (i + 1)) = false := decide_eq_false co
              have HC : Hid (_) := And.intro co cf
              clear cb co cf
              go_wp2_with fail
              go_roundw
              case rel =>
                refine ⟨i + 1 + 1, by omega, by omega, by go_num, ?_, _, HJ4.out.1, HJ4.out.2.1, HJ4.out.2.2, HG.out⟩
                rw [Nat.add_sub_cancel, HS.out, if_neg (fun h => h.2.elim HC.out.2 (fun l => by have := HC.out.1; omega))]
              case measure => simp [intOf]; omega
        · have hcb : decide (bar < p (i + 1)) = false := decide_eq_false cb
          have HC : Hid (_) := cb
          clear cb
          go_wp2_with fail
          go_roundw
          case rel =>
            refine ⟨i + 1 + 1, by omega, by omega, by go_num, ?_, _, HJ4.out.1, HJ4.out.2.1, HJ4.out.2.2, HG.out⟩
            rw [Nat.add_sub_cancel, HS.out, if_neg (fun h => HC.out h.1.2)]
          case measure => simp [intOf]; omega
    · obtain rfl : j = 17 := by omega
      obtain ⟨jb, ja, ji, jg⟩ := HJ.out
      have K1 := bar_is ji jg.ok ((0 : Nat) : Int) bar
      have hf : barF z ((0 : Nat) : Int) bar = true := by unfold barF hasV; rw [jg.n, HW.out]; rfl
      rw [hf, barP_at z 0 bar (by rw [jg.n]; decide) HW.out] at K1
      have HF : Hid (_) := jg.is_best bar 16 (by decide)
      have HK : Hid (Ok (z.setB 0 bar)) := (fun k => ⟨k.n1, k.n4, k.p0, k.t⟩ : Ok z → _) jg.ok
      have HN : Hid ((z.setB 0 bar).n = 1) := jg.n
      have HB1 : Hid (Below w.heap.size w wr) := jb
      have HLE : Hid (lb p R bar 16 ≤ 16) := lb_le bar 16
      clear HJ jb ja ji jg hf
      unfold chk at K1
      generalize z.setB 0 bar = z1 at *
      generalize lb p R bar (17 - 1) = f at *
      go_wp2_with fail
      refine K1.mono ?_
      rintro e w2 ⟨rfl, i2, t2⟩
      have hs2 := t2.size
      have HB2 : Hid (_) := bel_trn HB1.out (Nat.le_refl _) (Nat.le_succ _) t2
      have K2 := claim_is i2 HK.out ((0 : Nat) : Int)
      have hv : hasV z1 ((0 : Nat) : Int) = true := by unfold hasV; rw [HN.out]; rfl
      unfold claK claP at K2
      rw [hv, if_pos rfl, Int.toNat_natCast] at K2
      unfold fst at K2
      rw [HF.out] at K2
      clear t2 i2 K1
      by_cases cf : f = 0
      · subst cf
        rw [if_neg (fun h => h.2 rfl)] at K2
        have HO : Hid (∀ w3, IS 50 w3 (w.heap.size + 1) z1 → Calls Try.prog 14 #[.pointer (some ⟨w.heap.size + 1, 0, none⟩), .int .i64 (0 : Nat)] w3 fun e w' => e = .returned (.tuple #[.bool false, .int .i64 (-1)]) ∧ ∃ m, w' = w3.drewN m) := fun w3 h => told_no h HK.out _ rfl
        unfold chk at K2
        go_wp2_with fail
        refine K2.mono ?_
        rintro e w3 ⟨rfl, i3, t3⟩
        have HB3 : Hid (_) := bel_trn HB2.out (Nat.le_refl _) (Nat.le_succ _) t3
        have K3 := HO.out _ i3
        clear i3 t3 K2
        go_wp2_with fail
        refine K3.mono ?_
        rintro e w4 ⟨rfl, m, rfl⟩
        go_wp2_with fail
        go_ret
        exact ⟨rfl, below_drewN HB3.out _⟩
      · rw [if_pos ⟨rfl, cf⟩] at K2
        have f17 : f < 17 := by have := HLE.out; omega
        have hfs : src (f : Int) = true := src_at f (by omega) f17
        have ok3 : Ok ((z1.setP f false).setT f ((0 : Nat) : Int)) := (HK.out.setP f (by omega) false).setT f _ (by decide)
        have eP : ((z1.setP f false).setT f ((0 : Nat) : Int)).P f = false := up_same _ _ _
        have eT : ((z1.setP f false).setT f ((0 : Nat) : Int)).T f = 0 := up_same _ _ _
        have eC : comE ((z1.setP f false).setT f ((0 : Nat) : Int)) ((0 : Nat) : Int) f = 0 := by
          unfold comE enaF
          rw [hfs]
          have : hasV ((z1.setP f false).setT f ((0 : Nat) : Int)) ((0 : Nat) : Int) = true := hv
          rw [this, if_pos (show (true && true) = true from rfl), Int.toNat_natCast, eT, if_pos (show (0 : Int) = ((0 : Nat) : Int) from rfl)]
        generalize (z1.setP f false).setT f ((0 : Nat) : Int) = z3 at *
        have HO : Hid (∀ w3, IS 50 w3 (w.heap.size + 1) z3 → Calls Try.prog 14 #[.pointer (some ⟨w.heap.size + 1, 0, none⟩), .int .i64 f] w3 fun e w' => e = .returned (.tuple #[.bool false, .int .i64 0]) ∧ ∃ m, w' = w3.drewN m) := fun w3 h => by
          have := told_is h ok3 f (by omega) (by omega)
          rw [eP, eT] at this
          exact this
        have HM : Hid (∀ w3, IS 50 w3 (w.heap.size + 1) z3 → Calls Try.prog 21 #[.pointer (some ⟨w.heap.size + 1, 0, none⟩), .int .i64 ((0 : Nat) : Int), .int .i64 f] w3 fun e w' => e = .returned (.int .i64 0) ∧ Trn (fun k => k = w.heap.size + 1) w3 w') := fun w3 h =>
          (complete_is h ok3 ((0 : Nat) : Int) f).mono fun e w' q => by rw [eC] at q; exact ⟨q.1, q.2.2⟩
        have hf0 : ((f : Int) == 0) = false := by simp; omega
        have hf1 : ¬ (f : Int) = 0 := by omega
        clear eP eT eC ok3 hfs f17
        unfold chk at K2
        go_wp2_with fail
        refine K2.mono ?_
        rintro e w3 ⟨rfl, i3, t3⟩
        have HB3 : Hid (_) := bel_trn HB2.out (Nat.le_refl _) (Nat.le_succ _) t3
        have HI3 : Hid (_) := i3
        have K3 := HO.out _ i3
        have l3 := i3.lt
        clear i3 t3 K2
        go_wp2_with fail
        refine K3.mono ?_
        rintro e w4 ⟨rfl, m, rfl⟩
        have K4 := HM.out _ (HI3.out.keep (w' := w3.drewN m) rfl)
        go_wp2_with fail
        refine K4.mono ?_
        rintro e w5 ⟨rfl, t5⟩
        have HB5 : Hid (_) := bel_trn (below_drewN HB3.out m) (Nat.le_refl _) (Nat.le_succ _) t5
        clear t5
        go_wp2_with fail
        go_ret
        exact ⟨rfl, HB5.out⟩
end Go.Proofs.Ytncjhdhfhojohaa
