/-
  What least and pass do.
-/
import Derived.Test.YteghkhdpdeiocaaDoorSm
import Derived.WalkSpells
namespace Go.Proofs.YteghkhdpdeiocaaDoor
open Go.RowKit Go.ChangeMaps
set_option linter.unusedVariables false
set_option maxRecDepth 100000

section
variable {B : Nat → Prop} {w w' : World} {D r s : Nat} {S : Fs} {C : Nat → Nat}
/-- a world that differs in the block of 38 cells alone -/
theorem FR.turn {s' : Nat} (h : FR B w D r S C s) (t : Trn (fun b => b = D) w w') (ho : OB w' D r S.n S.fi s' (fun k => (S.ct k : Int)) S.qu) (h1 : s' < S.n) (h2 : ∀ i, i < s' → S.cl i ≠ 17) : FR B w' D r S C s' :=
  ⟨ho, h.row.keep (t.block r h.row.lt (Ne.symm h.ne)), fun i hi hc => (h.mp i hi hc).keep (t.block _ (h.mp i hi hc).lt (h.mne hi hc).1), h.inj, h1, h2, h.ok, h.lo⟩
theorem FR.tuD (h : FR B w D r S C s) (t : Trn (fun b => b = D) w w') : Tu Of B w w' := Tu.of_trn t fun k e => by
  subst e
  obtain ⟨cs, h1, _⟩ := h.ob.blk
  exact ⟨h.lo.1, fun o ho => by rw [h1] at ho; cases ho; exact .inl rfl⟩
theorem mv_nil {cl C : Nat → Nat} {i : Nat} (h : cl i = 17) : mv cl C i = .map none := by simp [mv, h]
theorem mv_map {cl C : Nat → Nat} {i : Nat} (h : cl i ≠ 17) : mv cl C i = .map (some (C i)) := by simp [mv, h]
theorem least_fr (h : FR B w D r S C s) (h0 : 0 < S.ct 17) : Calls Tryd.prog 51 #[.pointer (some ⟨D, 0, none⟩)] w fun e w' => e = .returned (.int .i64 S.lst) ∧ FR B w' D r S C S.lst ∧ Tu Of B w w' := by
  obtain ⟨l1, l2, l3⟩ := S.lst_of h0
  have hs : s ≤ S.lst := by
    rcases Nat.lt_or_ge S.lst s with h1 | h1
    · exact absurd l2 (h.s2 _ h1)
    · exact h1
  have hn2 := h.ok.n2
  generalize hL : S.lst = L at *
  have q0 : ∀ w : World, (binOp .neq 29 (.map none) (.map none)).run Tryd.prog w = .ok (.bool false) w := fun w => by simpa using run_neq_map_nil w 29 3 3 none Tryd.underlying29
  have q1 : ∀ (w : World) (m : Nat), (binOp .neq 29 (.map (some m)) (.map none)).run Tryd.prog w = .ok (.bool true) w := fun w m => by simpa using run_neq_map_nil w 29 3 3 (some m) Tryd.underlying29
  have HF : Hid (FR B w D r S C s) := h
  have H3 : Hid (∀ i, i < L → S.cl i ≠ 17) := l3
  clear h l3
  go_enter Tryd.func51, Tryd.ntmps51
  go_wp2_with fail
  go_loopw [14] (fun _ wr => ∃ s', s' ≤ L ∧ Hid (FR B wr D r S C s' ∧ Tu Of B w wr)) (fun _ wr => L - (match wr.cell? ⟨D, 2, none⟩ with | some (.int _ x) => x.toNat | _ => 0))
  case atStart => exact ⟨s, hs, HF.out, Tu.refl _ _ _⟩
  case round =>
    obtain ⟨s', hs', HJ⟩ := hrel
    have c0 := HJ.out.1.ob.c0
    have c2 := HJ.out.1.ob.c2
    have f2 := HJ.out.1.ob.fz 2
    have hl := HJ.out.1.ob.lt
    have hrl := HJ.out.1.row.lt
    have cr := HJ.out.1.row.c (i := s') (by omega)
    have hsn : (s' : Int) < S.n := by omega
    by_cases e : s' = L
    · subst e
      rw [mv_nil l2] at cr
      go_wp2_with fail
      go_quiet (fail)
      go_wp2_with fail
      go_ret
      exact ⟨rfl, HJ.out.1.below (below_drewN (Below.refl _ _) _), HJ.out.2.trans (Tu.of_below (below_drewN (Below.refl _ _) _))⟩
    · rw [mv_map (H3.out s' (by omega))] at cr
      have hs2 : s' + 1 ≤ L := by omega
      have HS : Hid (∀ x : World, Below wr.heap.size wr x → FR B (x.setCell ⟨D, 2, none⟩ (.int .i64 ((s' + 1 : Nat) : Int))) D r S C (s' + 1) ∧ Tu Of B w (x.setCell ⟨D, 2, none⟩ (.int .i64 ((s' + 1 : Nat) : Int)))) := fun x hx => by
        have hf := HJ.out.1.below hx
        obtain ⟨o1, o2⟩ := hf.ob.setS (s' + 1)
        exact ⟨hf.turn o2 o1 (by omega) (fun i hi => H3.out i (by omega)), (HJ.out.2.trans (Tu.of_below hx)).trans (hf.tuD o2)⟩
      go_wp2_with fail
      go_quiet (fail)
      go_wp2_with fail
      go_roundw
      case rel => exact ⟨s' + 1, hs2, HS.out _ (below_drewN (Below.refl _ _) _)⟩
      case measure =>
        have e1 := (HS.out _ (below_drewN (Below.refl _ _) nq)).1.ob.c2
        rw [show (((s' + 1 : Nat) : Nat) : Int) = (s' : Int) + 1 from rfl] at e1
        rw [e1, c2]
        show L - Int.toNat _ < L - Int.toNat _
        omega
/-- the plain end of pass -/
theorem set_ct (S : Fs) {i b t : Nat} (hi : i < S.n) (hb : b ≠ S.cl i) (k : Nat) : (((S.set i b t).ct k : Nat) : Int) = upd (upd (fun k => (S.ct k : Int)) (S.cl i) (S.ct (S.cl i) - 1)) b (S.ct b + 1) k := by
  have h := cn_upd S.cl S.n k i b hi
  have hp := cn_pos S.cl S.n i hi
  show ((cn (upd S.cl i b) S.n k : Nat) : Int) = _
  unfold Fs.ct upd at *
  by_cases e1 : k = b
  · subst e1
    rw [if_pos rfl]
    rw [if_neg (Ne.symm hb), if_pos rfl] at h
    omega
  · rw [if_neg e1]
    rw [if_neg (Ne.symm e1)] at h
    by_cases e2 : k = S.cl i
    · rw [if_pos e2]
      rw [if_pos e2.symm] at h
      rw [← e2]
      omega
    · rw [if_neg e2]
      rw [if_neg (Ne.symm e2)] at h
      show ((_ : Nat) : Int) = ((cn S.cl S.n k : Nat) : Int)
      omega
/-- the row and a map more: a frame given -/
theorem FR.give (h : FR B w D r S C s) {i b : Nat} (hi : i < S.n) (hb : b ≠ S.cl i) (hb1 : b ≤ 16) {w2 w3 : World} {m : Nat} (t : Trn (fun k => k = D ∨ k = r) w w3)
    (ho : OB w3 D r S.n S.fi s (upd (upd (fun k => (S.ct k : Int)) (S.cl i) (S.ct (S.cl i) - 1)) b (S.ct b + 1)) S.qu) (hr : RB w3 r S.n (upd S.cl i b) (upd C i m)) (hm : M1 w3 m b 1) (hlt : w.heap.size ≤ m) (hB : ∀ k, w.heap.size ≤ k → ¬ B k) : FX B w3 D (S.set i b 1) ∧ Tu Of B w w3 := by
  obtain ⟨l1, l2, l3⟩ := h.lo
  refine ⟨⟨r, upd C i m, s, ho.congr (fun k _ => (set_ct S hi hb k).symm) (fun _ _ => rfl), hr, fun j hj hc => ?_, fun j k hj hk cj ck e => ?_, h.s1, fun j hj => ?_, h.ok.set (by omega) ⟨by omega, fun _ => ⟨by omega, by omega⟩⟩, ⟨l1, l2, fun j hj hc => ?_⟩⟩, ?_⟩
  · show M1 w3 (upd C i m j) (upd S.cl i b j) (upd S.ti i 1 j)
    by_cases e : j = i
    · subst e; rw [upd_self, upd_self, upd_self]; exact hm
    · have hc' : S.cl j ≠ 17 := by
        have : upd S.cl i b j ≠ 17 := hc
        rwa [upd_other _ _ _ e] at this
      rw [upd_other _ _ _ e, upd_other _ _ _ e, upd_other _ _ _ e]
      have hne := h.mne hj hc'
      exact (h.mp j hj hc').keep (t.block _ (h.mp j hj hc').lt (by rintro (e1 | e1); exact hne.1 e1; exact hne.2 e1))
  · have cj : upd S.cl i b j ≠ 17 := cj
    have ck : upd S.cl i b k ≠ 17 := ck
    have hj : j < S.n := hj
    have hk : k < S.n := hk
    by_cases e1 : j = i
    · by_cases e2 : k = i
      · omega
      · rw [e1, upd_self, upd_other _ _ _ e2] at e
        rw [upd_other _ _ _ e2] at ck
        have := (h.mp k hk ck).lt
        omega
    · rw [upd_other _ _ _ e1] at e cj
      by_cases e2 : k = i
      · rw [e2, upd_self] at e
        have := (h.mp j hj cj).lt
        omega
      · rw [upd_other _ _ _ e2] at e ck
        exact h.inj j k hj hk cj ck e
  · show upd S.cl i b j ≠ 17
    by_cases e : j = i
    · subst e; rw [upd_self]; omega
    · rw [upd_other _ _ _ e]; exact h.s2 j hj
  · have hc : upd S.cl i b j ≠ 17 := hc
    have hj : j < S.n := hj
    by_cases e : j = i
    · subst e; rw [upd_self]; exact hB m hlt
    · rw [upd_other _ _ _ e] at hc ⊢
      exact l3 j hj hc
  · refine Tu.of_trn t fun k e => ?_
    rcases e with rfl | rfl
    · obtain ⟨cs, h1, _⟩ := h.ob.blk
      exact ⟨l1, fun o ho => by rw [h1] at ho; cases ho; exact .inl rfl⟩
    · obtain ⟨cs, h1, _⟩ := h.row.blk
      exact ⟨l2, fun o ho => by rw [h1] at ho; cases ho; exact .inr rfl⟩
theorem pass_give (h : FR B w D r S C s) {i b : Nat} (hi : i < S.n) (hb : b ≠ S.cl i) (hb1 : b ≤ 16) (hB : ∀ k, w.heap.size ≤ k → ¬ B k) : Calls Tryd.prog 36 #[.pointer (some ⟨D, 0, none⟩), .int .i64 i, .int .i64 (S.cl i), .int .i64 b] w fun e w' => e = .returned (.tuple #[]) ∧ FX B w' D (S.set i b 1) ∧ Tu Of B w w' := by
  have hc := h.ok.c i
  have hca : ((S.cl i : Nat) : Int) < 18 := by omega
  have hcb : (b : Int) < 18 := by omega
  have hi' : (i : Int) < S.n := by omega
  have ca := h.ob.cc (k := S.cl i) (by omega)
  have fa := h.ob.fz (3 + S.cl i)
  have hl := h.ob.lt
  have hp := cn_pos S.cl S.n i hi
  have hle := cn_le S.cl S.n (S.cl i)
  have hle2 := cn_le S.cl S.n b
  have hn2 := h.ok.n2
  have hct : (0 : Int) < S.ct (S.cl i) := by unfold Fs.ct; omega
  have hct2 : ((S.ct (S.cl i) : Nat) : Int) ≤ 65536 := by unfold Fs.ct; omega
  have hct3 : ((S.ct b : Nat) : Int) ≤ 65536 := by unfold Fs.ct; omega
  have HF : Hid (∀ w3 m, Trn (fun k => k = D ∨ k = r) w w3 → OB w3 D r S.n S.fi s (upd (upd (fun k => (S.ct k : Int)) (S.cl i) (S.ct (S.cl i) - 1)) b (S.ct b + 1)) S.qu → RB w3 r S.n (upd S.cl i b) (upd C i m) → M1 w3 m b 1 → w.heap.size ≤ m → FX B w3 D (S.set i b 1) ∧ Tu Of B w w3) := fun w3 m t ho hr hm hlt => h.give hi hb hb1 (w2 := w3) t ho hr hm hlt hB
  have hmm : ∀ w : World, (Instr.makeMap 29 none).run Tryd.prog w = .ok (.map (some w.heap.size)) (w.alloc (.map #[] 0)) := fun w => by kernel_rfl
  have hmk : ∀ x : World, (Instr.mapUpdate 29 (.map (some x.heap.size)) (.int .i64 b) (.int .i64 1)).run Tryd.prog (x.alloc (.map #[] 0)) = .ok () (x.alloc (.map #[⟨.int .i64 b, .int .i64 1, 0⟩] 1)) := fun x => make_one x b 1
  have R0 := h.row
  have O0 := h.ob
  have hne := h.ne
  clear h hp hle hle2
  generalize ha : S.cl i = a at *
  go_enter Tryd.func36, Tryd.ntmps36
  go_wp2_with fail
  go_region
  obtain ⟨o1, t1⟩ := O0.setC (k := a) (by omega) (S.ct a - 1)
  have O1 : OB (w.setCell ⟨D, 3 + a, none⟩ (.int .i64 (S.ct a - 1))).drew D r S.n S.fi s (upd (fun k => (S.ct k : Int)) a (S.ct a - 1)) S.qu := o1.keep rfl
  have T1 : Trn (fun k => k = D) w (w.setCell ⟨D, 3 + a, none⟩ (.int .i64 (S.ct a - 1))).drew := t1.drew
  have R1 := R0.keep (T1.block r R0.lt (Ne.symm hne))
  clear o1 t1 ca fa hl O0
  generalize (w.setCell ⟨D, 3 + a, none⟩ (.int .i64 (S.ct a - 1))).drew = w1 at *
  have cb := O1.cc (k := b) (by omega)
  rw [upd_other _ _ _ hb] at cb
  have fb := O1.fz (3 + b)
  have hl := O1.lt
  go_wp2_with fail
  go_region
  obtain ⟨o1, t1⟩ := O1.setC (k := b) (by omega) (S.ct b + 1)
  have O2 : OB (w1.setCell ⟨D, 3 + b, none⟩ (.int .i64 (S.ct b + 1))).drew D r S.n S.fi s (upd (upd (fun k => (S.ct k : Int)) a (S.ct a - 1)) b (S.ct b + 1)) S.qu := o1.keep rfl
  have T2 : Trn (fun k => k = D) w (w1.setCell ⟨D, 3 + b, none⟩ (.int .i64 (S.ct b + 1))).drew := T1.trans t1.drew
  have R2 := R0.keep (T2.block r R0.lt (Ne.symm hne))
  clear o1 t1 cb fb hl O1 T1 R1 R0
  generalize (w1.setCell ⟨D, 3 + b, none⟩ (.int .i64 (S.ct b + 1))).drew = w2 at *
  have c0 := O2.c0
  have hl := O2.lt
  have hrl := R2.lt
  have cr := R2.c hi
  have fr := R2.fz i
  have HE : Hid (FX B ((w2.setCell ⟨r, i, none⟩ (.map (some w2.heap.size))).alloc (.map #[⟨.int .i64 b, .int .i64 1, 0⟩] 1)) D (S.set i b 1) ∧ Tu Of B w ((w2.setCell ⟨r, i, none⟩ (.map (some w2.heap.size))).alloc (.map #[⟨.int .i64 b, .int .i64 1, 0⟩] 1))) := by
    obtain ⟨r1, t1⟩ := R2.set hi b w2.heap.size (.map (some w2.heap.size)) (by rw [if_neg (by omega)])
    have hsz : (w2.setCell ⟨r, i, none⟩ (.map (some w2.heap.size))).heap.size = w2.heap.size := by simp
    have hal := heap_alloc_at (w2.setCell ⟨r, i, none⟩ (.map (some w2.heap.size))) (.map #[⟨.int .i64 b, .int .i64 1, 0⟩] 1)
    rw [hsz] at hal
    have A : Below w2.heap.size (w2.setCell ⟨r, i, none⟩ (.map (some w2.heap.size))) ((w2.setCell ⟨r, i, none⟩ (.map (some w2.heap.size))).alloc (.map #[⟨.int .i64 b, .int .i64 1, 0⟩] 1)) := (Below.refl _ _).alloc (Nat.le_of_eq hsz.symm) _
    refine HF.out _ w2.heap.size (((T2.mono (fun k _ e => .inl e)).trans (t1.mono (fun k _ e => .inr e))).trans (Trn.of_below (hsz.symm ▸ A))) ((O2.keep (t1.block D hl hne)).keep (A.block D hl)) (r1.keep (A.block r hrl)) ⟨0, 1, hal, by omega⟩ T2.size
  clear O2 T2 R2 HF
  go_wp2_with fail
  exact bodyPost_end (v := .tuple #[]) (by simp [results, Tryd.results36]) rfl ⟨rfl, HE.out⟩
/-- a frame that is nobody's now -/
theorem FR.free (h : FR B w D r S C s) {i : Nat} (hi : i < S.n) (hb : 17 ≠ S.cl i) {w3 : World} (t : Trn (fun k => k = D ∨ k = r) w w3)
    (ho : OB w3 D r S.n S.fi (min s i) (upd (upd (fun k => (S.ct k : Int)) (S.cl i) (S.ct (S.cl i) - 1)) 17 (S.ct 17 + 1)) S.qu) (hr : RB w3 r S.n (upd S.cl i 17) (upd C i 0)) : FX B w3 D (S.set i 17 0) ∧ Tu Of B w w3 := by
  obtain ⟨l1, l2, l3⟩ := h.lo
  have old : ∀ j, upd S.cl i 17 j ≠ 17 → j ≠ i ∧ S.cl j ≠ 17 := fun j hj => by
    have hji : j ≠ i := fun e => hj (by rw [e, upd_self])
    exact ⟨hji, by rwa [upd_other _ _ _ hji] at hj⟩
  refine ⟨⟨r, upd C i 0, min s i, ho.congr (fun k _ => (set_ct S hi hb k).symm) (fun _ _ => rfl), hr, fun j hj hc => ?_, fun j k hj hk cj ck e => ?_, ?_, fun j hj => ?_, h.ok.set (by omega) ⟨fun _ => rfl, fun h => absurd rfl h⟩, ⟨l1, l2, fun j hj hc => ?_⟩⟩, ?_⟩
  · obtain ⟨e, hc'⟩ := old j hc
    show M1 w3 (upd C i 0 j) (upd S.cl i 17 j) (upd S.ti i 0 j)
    rw [upd_other _ _ _ e, upd_other _ _ _ e, upd_other _ _ _ e]
    have hne := h.mne hj hc'
    exact (h.mp j hj hc').keep (t.block _ (h.mp j hj hc').lt (by rintro (e1 | e1); exact hne.1 e1; exact hne.2 e1))
  · obtain ⟨e1, cj'⟩ := old j cj
    obtain ⟨e2, ck'⟩ := old k ck
    rw [upd_other _ _ _ e1, upd_other _ _ _ e2] at e
    exact h.inj j k hj hk cj' ck' e
  · have := h.s1
    show min s i < S.n
    omega
  · show upd S.cl i 17 j ≠ 17
    rw [upd_other _ _ _ (by omega)]
    exact h.s2 j (by omega)
  · obtain ⟨e, hc'⟩ := old j hc
    rw [upd_other _ _ _ e]
    exact l3 j hj hc'
  · refine Tu.of_trn t fun k e => ?_
    rcases e with rfl | rfl
    · obtain ⟨cs, h1, _⟩ := h.ob.blk
      exact ⟨l1, fun o ho => by rw [h1] at ho; cases ho; exact .inl rfl⟩
    · obtain ⟨cs, h1, _⟩ := h.row.blk
      exact ⟨l2, fun o ho => by rw [h1] at ho; cases ho; exact .inr rfl⟩
theorem pass_free (h : FR B w D r S C s) {i : Nat} (hi : i < S.n) (hb : 17 ≠ S.cl i) : Calls Tryd.prog 36 #[.pointer (some ⟨D, 0, none⟩), .int .i64 i, .int .i64 (S.cl i), .int .i64 17] w fun e w' => e = .returned (.tuple #[]) ∧ FX B w' D (S.set i 17 0) ∧ Tu Of B w w' := by
  have hc := h.ok.c i
  have hca : ((S.cl i : Nat) : Int) < 18 := by omega
  have hi' : (i : Int) < S.n := by omega
  have ca := h.ob.cc (k := S.cl i) (by omega)
  have fa := h.ob.fz (3 + S.cl i)
  have hl := h.ob.lt
  have hp := cn_pos S.cl S.n i hi
  have hle := cn_le S.cl S.n (S.cl i)
  have hle2 := cn_le S.cl S.n 17
  have hn2 := h.ok.n2
  have hs1 := h.s1
  have hct : (0 : Int) < S.ct (S.cl i) := by unfold Fs.ct; omega
  have hct2 : ((S.ct (S.cl i) : Nat) : Int) ≤ 65536 := by unfold Fs.ct; omega
  have hct3 : ((S.ct 17 : Nat) : Int) ≤ 65536 := by unfold Fs.ct; omega
  have HF : Hid (∀ w3, Trn (fun k => k = D ∨ k = r) w w3 → OB w3 D r S.n S.fi (min s i) (upd (upd (fun k => (S.ct k : Int)) (S.cl i) (S.ct (S.cl i) - 1)) 17 (S.ct 17 + 1)) S.qu → RB w3 r S.n (upd S.cl i 17) (upd C i 0) → FX B w3 D (S.set i 17 0) ∧ Tu Of B w w3) := fun w3 t ho hr => h.free hi hb t ho hr
  have R0 := h.row
  have O0 := h.ob
  have hne := h.ne
  clear h hp hle hle2
  generalize ha : S.cl i = a at *
  go_enter Tryd.func36, Tryd.ntmps36
  go_wp2_with fail
  go_region
  obtain ⟨o1, t1⟩ := O0.setC (k := a) (by omega) (S.ct a - 1)
  have O1 : OB (w.setCell ⟨D, 3 + a, none⟩ (.int .i64 (S.ct a - 1))).drew D r S.n S.fi s (upd (fun k => (S.ct k : Int)) a (S.ct a - 1)) S.qu := o1.keep rfl
  have T1 : Trn (fun k => k = D) w (w.setCell ⟨D, 3 + a, none⟩ (.int .i64 (S.ct a - 1))).drew := t1.drew
  clear o1 t1 ca fa hl O0
  generalize (w.setCell ⟨D, 3 + a, none⟩ (.int .i64 (S.ct a - 1))).drew = w1 at *
  have cb := O1.cc (k := 17) (by omega)
  rw [upd_other _ _ _ hb] at cb
  have fb := O1.fz (3 + 17)
  have hl := O1.lt
  go_wp2_with fail
  go_region
  obtain ⟨o1, t1⟩ := O1.setC (k := 17) (by omega) (S.ct 17 + 1)
  have O2 : OB (w1.setCell ⟨D, 3 + 17, none⟩ (.int .i64 (S.ct 17 + 1))).drew D r S.n S.fi s (upd (upd (fun k => (S.ct k : Int)) a (S.ct a - 1)) 17 (S.ct 17 + 1)) S.qu := o1.keep rfl
  have T2 : Trn (fun k => k = D) w (w1.setCell ⟨D, 3 + 17, none⟩ (.int .i64 (S.ct 17 + 1))).drew := T1.trans t1.drew
  have R2 := R0.keep (T2.block r R0.lt (Ne.symm hne))
  clear o1 t1 cb fb hl O1 T1 R0
  simp only [Nat.reduceAdd] at O2 T2 R2
  generalize (w1.setCell ⟨D, 20, none⟩ (.int .i64 (S.ct 17 + 1))).drew = w2 at *
  obtain ⟨R3, T3⟩ := R2.set hi 17 0 (.map none) (by rw [if_pos rfl])
  have O3 := O2.keep (T3.block D O2.lt hne)
  have T4 := (T2.mono (S' := fun k => k = D ∨ k = r) (fun k _ e => .inl e)).trans (T3.mono (fun k _ e => .inr e))
  have c0 := O2.c0
  have hl := O2.lt
  have hrl := R2.lt
  have cr := R2.c hi
  have fr := R2.fz i
  have c2 := O3.c2
  have f2 := O3.fz 2
  have hl3 := O3.lt
  obtain ⟨O4, T5⟩ := O3.setS (min s i)
  have HE : Hid (FX B ((w2.setCell ⟨r, i, none⟩ (.map none)).setCell ⟨D, 2, none⟩ (.int .i64 ((min s i : Nat) : Int))) D (S.set i 17 0) ∧ Tu Of B w ((w2.setCell ⟨r, i, none⟩ (.map none)).setCell ⟨D, 2, none⟩ (.int .i64 ((min s i : Nat) : Int)))) :=
    HF.out _ (T4.trans (T5.mono (fun k _ e => .inl e))) O4 (R3.keep (T5.block r R3.lt (Ne.symm hne)))
  clear O2 T2 R2 HF O3 T3 R3 T4 O4 T5
  go_wp2_with fail
  all_goals
    first
      | (rw [show min s i = i by omega] at HE
         exact bodyPost_ret (v := .tuple #[]) (by simp [results, Tryd.results36]) rfl ⟨rfl, HE.out⟩)
      | (rw [show min s i = s by omega] at HE
         exact bodyPost_ret (v := .tuple #[]) (by simp [results, Tryd.results36]) rfl ⟨rfl, HE.out⟩)
end
end Go.Proofs.YteghkhdpdeiocaaDoor
