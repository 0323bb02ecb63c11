/-
  The program's Next: the least of all that go on, in whatever order they come.
-/
import Derived.Test.YtgiafngiledmbaaCm
namespace Go.Proofs.Ytgiafngiledmbaa
open Go.RowKit Go.Maps
set_option linter.unusedVariables false
set_option maxRecDepth 100000
section
variable {w : World} {t ms mt : Nat} {L : List Tm}
/-- the least so far, of those that have come -/
structure NS (L : List Tm) (left : Int → Bool) (n : Int) (f : Bool) : Prop where
  no : f = false → n = 0 ∧ ∀ x ∈ L, x.set = true → left x.id = false → el x = false
  yes : f = true → (∃ x ∈ L, el x = true ∧ wn x = n) ∧ ∀ x ∈ L, left x.id = false → el x = true → n ≤ wn x
theorem el_set {x : Tm} (h : el x = true) : x.set = true := by unfold el at h; simp at h; exact h.1
theorem NS.start (ok : LOk L) : NS L (fun k => (TM L k).isSome) 0 false := by
  refine ⟨fun _ => ⟨rfl, fun x hx hs hl => ?_⟩, fun e => (by cases e)⟩
  rw [TM_eq, fnd_of ok hx] at hl
  simp [tmv, hs] at hl
/-- who is halted changes nothing -/
theorem NS.skip {left : Int → Bool} {n : Int} {f : Bool} (h : NS L left n f) (ok : LOk L) {x : Tm} (hx : x ∈ L) (hh : el x = false) : NS L (fun z => left z && !(z == x.id)) n f := by
  have key : ∀ y ∈ L, (left y.id && !(y.id == x.id)) = false → left y.id = false ∨ y = x := fun y hy h1 => by
    by_cases e : y.id = x.id
    · exact .inr (srt_inj ok.srt hy hx e)
    · left
      have : (y.id == x.id) = false := by simpa using e
      rw [this] at h1
      simpa using h1
  refine ⟨fun e => ⟨(h.no e).1, fun y hy hs h1 => ?_⟩, fun e => ⟨(h.yes e).1, fun y hy h1 he => ?_⟩⟩
  · rcases key y hy h1 with h2 | rfl
    · exact (h.no e).2 y hy hs h2
    · exact hh
  · rcases key y hy h1 with h2 | rfl
    · exact (h.yes e).2 y hy h2 he
    · rw [hh] at he; cases he
theorem NS.take {left : Int → Bool} {n : Int} {f : Bool} (h : NS L left n f) (ok : LOk L) {x : Tm} (hx : x ∈ L) (hh : el x = true) (hl : f = false ∨ wn x < n) : NS L (fun z => left z && !(z == x.id)) (wn x) true := by
  refine ⟨(fun e => by cases e), fun _ => ⟨⟨x, hx, hh, rfl⟩, fun y hy h1 he => ?_⟩⟩
  by_cases e : y.id = x.id
  · rw [srt_inj ok.srt hy hx e]; omega
  · have : (y.id == x.id) = false := by simpa using e
    rw [this] at h1
    have h2 : left y.id = false := by simpa using h1
    rcases hl with hf | hl
    · rw [(h.no hf).2 y hy (el_set he) h2] at he; cases he
    · cases f with
      | false => rw [(h.no rfl).2 y hy (el_set he) h2] at he; cases he
      | true => have := (h.yes rfl).2 y hy h2 he; omega
theorem NS.leave {left : Int → Bool} {n : Int} {f : Bool} (h : NS L left n f) (ok : LOk L) {x : Tm} (hx : x ∈ L) (hh : el x = true) (hf : f = true) (hl : n ≤ wn x) : NS L (fun z => left z && !(z == x.id)) n f := by
  subst hf
  refine ⟨(fun e => by cases e), fun _ => ⟨(h.yes rfl).1, fun y hy h1 he => ?_⟩⟩
  by_cases e : y.id = x.id
  · rw [srt_inj ok.srt hy hx e]; exact hl
  · have : (y.id == x.id) = false := by simpa using e
    rw [this] at h1
    exact (h.yes rfl).2 y hy (by simpa using h1) he
/-- what Next tells -/
def nxI (r : Option Int) : Int := r.getD 0
theorem NS.done {left : Int → Bool} {n : Int} {f : Bool} (h : NS L left n f) (ok : LOk L) (hl : ∀ k, KW k → left k = false) : ∃ r, Nx L r ∧ n = nxI r ∧ f = r.isSome := by
  cases f with
  | false =>
    refine ⟨none, ⟨fun _ x hx => ?_, (fun v e => by cases e)⟩, (h.no rfl).1, rfl⟩
    cases he : el x with
    | false => rfl
    | true => rw [(h.no rfl).2 x hx (el_set he) (hl _ (ok.ok x hx).id)] at he; cases he
  | true => exact ⟨some n, ⟨fun e => (by cases e), fun v e => (by cases e; exact ⟨(h.yes rfl).1, fun x hx he => (h.yes rfl).2 x hx (hl _ (ok.ok x hx).id) he⟩)⟩, rfl, rfl⟩
/-- what stands in a round: the timers and the range -/
structure NR (W wr : World) (t ms mt r : Nat) (L : List Tm) (left : Int → Bool) (cnt : Nat) : Prop where
  vx : VX wr t ms mt L
  rg : Rg wr mt r (TM L) left cnt
  be : Below W.heap.size W wr
theorem NR.below {W wr w' : World} {r : Nat} {left : Int → Bool} {cnt : Nat} (h : NR W wr t ms mt r L left cnt) (hb : Below wr.heap.size wr w') : NR W w' t ms mt r L left cnt :=
  ⟨h.vx.below hb, h.rg.keep (grown_of_below (m := none) hb) (by simp) (by simp), h.be.trans (hb.mono h.be.size)⟩

theorem TM_some {L : List Tm} {k : Int} {v : Value} (h : TM L k = some v) : ∃ x, fnd L k = some x ∧ x ∈ L ∧ x.id = k ∧ x.set = true ∧ v = .int .u64 x.due := by
  rw [TM_eq] at h
  cases hx : fnd L k with
  | none => rw [hx] at h; cases h
  | some x =>
    rw [hx] at h
    simp only [Option.bind_some, tmv] at h
    cases hs : x.set with
    | false => rw [hs] at h; cases h
    | true => rw [hs] at h; cases h; exact ⟨x, rfl, (fnd_mem hx).1, (fnd_mem hx).2, hs, rfl⟩
theorem NR.step {W wr w1 : World} {t ms mt : Nat} {L : List Tm} {left left' : Int → Bool} {cnt cnt' : Nat} (h : NR W wr t ms mt W.heap.size L left cnt) (hl : t < W.heap.size ∧ ms < W.heap.size ∧ mt < W.heap.size) (hg : wr.grownBy w1 (some W.heap.size)) (hr : Rg w1 mt W.heap.size (TM L) left' cnt') : NR W w1 t ms mt W.heap.size L left' cnt' :=
  ⟨h.vx.keep fun k hk => gr_keep hg (by rcases hk with rfl | rfl | rfl; exact h.vx.lt; exact h.vx.lts; exact h.vx.ltt) (by rcases hk with rfl | rfl | rfl <;> omega), hr, h.be.trans (gr_below hg (Nat.le_refl _) h.be.size)⟩
set_option maxHeartbeats 1600000 in
theorem next_vx (h : VX w t ms mt L) : Calls Try.prog 12 #[.pointer (some ⟨t, 0, none⟩)] w fun e w' => (∃ r, Nx L r ∧ e = .returned (.tuple #[.int .u64 (nxI r), .bool r.isSome])) ∧ Below w.heap.size w w' := by
  have c1 := h.c1
  have hl := h.lt
  obtain ⟨N, hN⟩ := h.nt
  obtain ⟨w0, hrr, hrg, hg0, hs0⟩ := range_run Try.underlying39 hN
  have hb0 : Below w.heap.size w w0 := ⟨hg0.os, hg0.tape, hg0.output, hg0.size, fun k hk => hg0.block k hk (by simp)⟩
  have H0 : Hid (NR w w0 t ms mt w.heap.size L (fun k => (TM L k).isSome) N ∧ NS L (fun k => (TM L k).isSome) 0 false) := ⟨⟨h.below hb0, hrg, hb0⟩, NS.start h.ok⟩
  have HO : Hid (LOk L ∧ t < w.heap.size ∧ ms < w.heap.size ∧ mt < w.heap.size) := ⟨h.ok, h.lt, h.lts, h.ltt⟩
  clear h hN hrg hg0 hb0
  go_enter Try.func12, Try.ntmps12
  go_wp2_with fail
  go_loopw [4, 5] (fun q4 q5 wr => ∃ left cnt n f, q4 = .int .u64 n ∧ q5 = .bool f ∧ Hid (NR w wr t ms mt w.heap.size L left cnt ∧ NS L left n f)) (fun _ _ wr => wr.rangeLeft mt w.heap.size)
  case atStart => exact ⟨_, _, _, _, rfl, rfl, H0⟩
  case round =>
    obtain ⟨left, cnt, n, f, rfl, rfl, HR⟩ := hrel
    rcases next_run HR.out.1.rg 0 with ⟨hc0, hl0, hnr⟩ | ⟨k, v, w1, cnt1, hk, hlk, hM, hnr, hrg1, hlt1, hg1, hs1, hen⟩
    · obtain ⟨r, hr, rfl, rfl⟩ := HR.out.2.done HO.out.1 hl0
      have HF : Hid (Nx L r ∧ Below w.heap.size w wr) := ⟨hr, HR.out.1.be⟩
      clear hr HR H0 hl0
      go_wp2_with fail
      go_ret2
      exact ⟨⟨r, HF.out.1, rfl⟩, HF.out.2⟩
    · obtain ⟨x, hx, hxm, rfl, hxs, rfl⟩ := TM_some hM
      have hm0 : wr.rangeLeft mt w.heap.size = cnt := HR.out.1.rg.left_eq
      have H1 : Hid (NR w w1 t ms mt w.heap.size L (fun z => left z && !(z == x.id)) cnt1) := HR.out.1.step HO.out.2 hg1 hrg1
      have HN : Hid (NS L left n f) := HR.out.2
      have ho := HO.out.1.ok x hxm
      have d0 := H1.out.vx.c0
      have dl := H1.out.vx.lt
      have hlu := look_run Try.underlying38 (zeroS w1) H1.out.vx.sm x.id hk
      have hsp : (SM L x.id).getD (.agg #[.int .u64 0, .bool false, .int .u64 0]) = spv x := by unfold SM; rw [hx]; rfl
      rw [hsp] at hlu
      unfold spv at hlu
      have hb0 := ho.b0
      have hb1 := ho.b1
      have hd0 := ho.d0
      have hd1 := ho.d1
      clear hg1 hrg1 hM HR H0 hsp ho hlk c1 hrr
      cases hh : x.halted with
      | true =>
        rw [hh] at hlu
        simp only [if_true] at hlu
        have hel : el x = false := by unfold el; rw [hh]; simp
        have H2 : Hid (NR w (w1.alloc (.cells #[.int .u64 0, .bool true, .int .u64 x.still] 57)) t ms mt w.heap.size L (fun z => left z && !(z == x.id)) cnt1 ∧ NS L (fun z => left z && !(z == x.id)) n f) := ⟨H1.out.below (below_box _ _), HN.out.skip HO.out.1 hxm hel⟩
        clear H1 HN hel
        go_wp2_with fail
        go_roundw
        case rel => exact ⟨_, _, _, _, rfl, rfl, H2⟩
        case measure => rw [H2.out.1.rg.left_eq, hm0]; exact hlt1
      | false =>
        rw [hh] at hlu
        simp only [Bool.false_eq_true, if_false] at hlu
        have hel : el x = true := by unfold el; rw [hh, hxs]; rfl
        have H2 : Hid (NR w (w1.alloc (.cells #[.int .u64 x.base, .bool false, .int .u64 0] 57)) t ms mt w.heap.size L (fun z => left z && !(z == x.id)) cnt1) := H1.out.below (below_box _ _)
        have hwr : IntKind.u64.wrap (x.base + x.due) = x.base + x.due := by rw [IntKind.wrap_u64]; omega
        have hwn : wn x = min (x.base + x.due) 4611686018427387904 := rfl
        cases f with
        | false =>
          have H3 : Hid (NS L (fun z => left z && !(z == x.id)) (min (x.base + x.due) 4611686018427387904) true) := hwn ▸ HN.out.take HO.out.1 hxm hel (.inl rfl)
          clear H1 HN hel hwn
          go_wp2_with fail
          go_roundw
          case rel => exact ⟨_, _, _, _, rfl, rfl, H2.out, H3.out⟩
          case measure => rw [H2.out.rg.left_eq, hm0]; exact hlt1
        | true =>
          by_cases hlt : wn x < n
          · have H3 : Hid (NS L (fun z => left z && !(z == x.id)) (min (x.base + x.due) 4611686018427387904) true) := hwn ▸ HN.out.take HO.out.1 hxm hel (.inr hlt)
            rw [hwn] at hlt
            clear H1 HN hel hwn
            go_wp2_with fail
            go_roundw
            case rel => exact ⟨_, _, _, _, rfl, rfl, H2.out, H3.out⟩
            case measure => rw [H2.out.rg.left_eq, hm0]; exact hlt1
          · have H3 : Hid (NS L (fun z => left z && !(z == x.id)) n true) := HN.out.leave HO.out.1 hxm hel rfl (by omega)
            rw [hwn] at hlt
            clear H1 HN hel hwn
            go_wp2_with fail
            go_roundw
            case rel => exact ⟨_, _, _, _, rfl, rfl, H2.out, H3.out⟩
            case measure => rw [H2.out.rg.left_eq, hm0]; exact hlt1
end
end Go.Proofs.Ytgiafngiledmbaa
