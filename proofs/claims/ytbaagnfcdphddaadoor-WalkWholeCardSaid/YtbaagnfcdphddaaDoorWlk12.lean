/-
  What the closure of the first stage tells: its contract.
-/
import Derived.Test.YtbaagnfcdphddaaDoorWlk11
namespace Go.Proofs.YtbaagnfcdphddaaDoor
open Go.RowKit
set_option linter.unusedVariables false
set_option maxRecDepth 20000

theorem BT.kept {w w' : World} (h : BT w) {g : Nat} (hg : 1 < g) (hb : w.grownBy w' (some g)) : BT w' := by
  have hp := h.pos
  have hk := hb.block 1 hp (by simp; omega)
  have e : ∀ k, w'.cell? ⟨1, k, none⟩ = w.cell? ⟨1, k, none⟩ := fun k => World.cell?_of_block (a := ⟨1, k, none⟩) hk
  exact ⟨(e 0).trans h.c0, (e 1).trans h.c1, (e 2).trans h.c2, (e 3).trans h.c3, (e 4).trans h.c4, (e 5).trans h.c5, (e 6).trans h.c6, Nat.lt_of_lt_of_le hp hb.size⟩
theorem St.kept {w w' : World} {b g lv : Nat} {zs : List Int} (h : St w b g zs) (h1 : 1 < lv) (hb : b ≠ lv) (hg : g ≠ lv) (hk : w.grownBy w' (some lv)) : St w' b g zs :=
  ⟨h.sz.kept (by omega) hk, h.bt.kept h1 hk, h.mm.kept hk (by simpa using hb) (by simpa using hg)⟩

theorem walkR_frame {R : Int → Int → Rr} {root t a : Int} {u : Bool} {e : En} (hR : ∀ f p e, R f p = .ok e → 0 ≤ e.f ∧ e.f < 65536) (h : walkR R root t a u = .ok e) : 0 ≤ e.f ∧ e.f < 65536 := by
  unfold walkR refR at h
  split at h
  · split at h
    · cases h
    · split at h
      · split at h
        · cases h
        · split at h
          · rename_i hn _; cases h; exact hR _ _ _ hn
          · cases h
      · cases h
  · cases h
theorem oneP_frame {zs : List Int} {root t a : Int} {u : Bool} {e : En} (h : oneP zs root t a u = some e) : 0 ≤ e.f ∧ e.f < 65536 := by
  unfold oneP at h
  split at h
  · cases h
  · split at h
    · rename_i hn; cases h; exact walkR_frame (fun f p e h => rdR_frame h) hn
    · cases h

/-- an entry of the first stage: its address goes through the second one -/
def fsR (zs : List Int) (second t a f p : Int) : Rr :=
  if f ≤ 72057594037927935 then match oneP zs second (atP f p) 1 true with
    | none => .no (faultP a 20 21 23) t (atP f p)
    | some e => rdR zs t a e.f p
  else .no (faultP a 20 21 23) t (atP f p)

theorem fault_ne2 (a : Int) : faultP a 20 21 23 ≠ 0 := by
  unfold faultP
  split
  · decide
  · split <;> decide
theorem fsR_no {zs : List Int} {second t a f p c v g : Int} (h : fsR zs second t a f p = .no c v g) : c ≠ 0 := by
  unfold fsR at h
  split at h
  · split at h
    · cases h; exact fault_ne2 a
    · exact rdR_no h
  · cases h; exact fault_ne2 a
theorem fsR_frame {zs : List Int} {second t a f p : Int} {e : En} (h : fsR zs second t a f p = .ok e) : 0 ≤ e.f ∧ e.f < 65536 := by
  unfold fsR at h
  split at h
  · split at h
    · cases h
    · exact rdR_frame h
  · cases h

theorem lev_next (k : Nat) : wrap64 (wrap64 (3 * k) + 3) = wrap64 (3 * ((k + 1 : Nat) : Int)) := by
  unfold wrap64
  omega

/-- the cells that the closure holds -/
structure Caps (w : World) (b c m sc : Nat) (t a : Int) (u : Bool) (second : Int) : Prop where
  c0 : w.cell? ⟨c, 0, none⟩ = some (.int .u64 t)
  c1 : w.cell? ⟨c, 1, none⟩ = some (.int .i64 a)
  c2 : w.cell? ⟨c, 2, none⟩ = some (.bool u)
  m0 : w.cell? ⟨m, 0, none⟩ = some (.iface 26 (.pointer (some ⟨b, 0, none⟩)))
  s0 : w.cell? ⟨sc, 0, none⟩ = some (.int .i64 second)
  cl : c < w.heap.size
  ml : m < w.heap.size
  sl : sc < w.heap.size

theorem fs_no (t a : Int) (u : Bool) (second f p : Int) (b g c m sc lv : Nat) (zs : List Int) (w : World) (hS : St w b g zs) (hC : Caps w b c m sc t a u second) (hs1 : second < 9223372036854775808)
    (hf0 : 0 ≤ f) (hf1 : f < 9223372036854775808) (hp0 : 0 ≤ p) (hp1 : p < 32) (hn : f ≤ 72057594037927935 → oneP zs second (atP f p) 1 true = none) :
    Calls Tryd.prog 30 #[.int .i64 f, .int .i64 p, .pointer (some ⟨m, 0, none⟩), .pointer (some ⟨sc, 0, none⟩), .pointer (some ⟨c, 0, none⟩), .pointer (some ⟨lv, 0, none⟩)] w fun e w' => e = .returned (Rr.no (faultP a 20 21 23) t (atP f p)).val ∧ Below w.heap.size w w' := by
  have C1 := entryAt_any f p hf0 hf1 hp0 hp1
  have C2 := fun w h => second_any (atP f p) 1 second b g zs (at_range f p).1 (at_range f p).2 hs1 w h
  have C3 := beyond_any t a (atP f p) u
  obtain ⟨c0, c1, c2, m0, s0, cl, ml, sl⟩ := hC
  have HS : Hid (St w b g zs) := hS
  have hd : decide (f ≤ 72057594037927935) = false ∨ oneP zs second (atP f p) 1 true = none := by
    by_cases h : f ≤ 72057594037927935
    · exact .inr (hn h)
    · exact .inl (decide_eq_false h)
  clear hS hn
  unfold Rr.val En.zero En.val ent trapV askV at *
  simp only
  generalize faultP a 20 21 23 = x at *
  generalize atP f p = q at *
  generalize decide (f ≤ 72057594037927935) = fits at *
  generalize oneP zs second q 1 true = o at *
  obtain ⟨of, or, ow, ox, ou, ol, ok, e, he⟩ : ∃ f r w x u l k, oneV o = .tuple #[.agg #[.int .i64 f, .bool r, .bool w, .bool x, .bool u, .int .i64 l], .bool k] ∧ (fits = false ∨ k = false) := by
    cases o
    · exact ⟨_, _, _, _, _, _, _, rfl, .inr rfl⟩
    · rcases hd with hd | hd
      · exact ⟨_, _, _, _, _, _, _, rfl, .inl hd⟩
      · cases hd
  rw [e] at C2
  clear e hd
  have tail : (fits = false) ∨ (fits = true ∧ ok = false) := by cases fits <;> simp_all
  clear he
  rcases tail with rfl | ⟨rfl, rfl⟩
  all_goals
    go_enter Tryd.func30, Tryd.ntmps30
    go_wp2_with fail
    refine (C1 _).mono ?_
    rintro e w1 ⟨rfl, rfl⟩
    go_wp2_with fail
    refine (C2 _ (HS.out.below (((Below.refl _ _).alloc (Nat.le_refl _) _).alloc (by simp) _))).mono ?_
    rintro e w2 ⟨rfl, hb2⟩
    have HB2 : Hid (Below w.heap.size w w2) := (((Below.refl _ _).alloc (Nat.le_refl _) _).alloc (by simp) _).trans (hb2.mono (by simp; omega))
    obtain ⟨n0, o0⟩ := bel_cell hb2 (b := w.heap.size) (by simp; omega)
    obtain ⟨n1, o1⟩ := bel_cell hb2 (b := w.heap.size + 1) (by simp)
    obtain ⟨nc, oc⟩ := bel_cell HB2.out cl
    have hz1 : w.heap.size + 1 < w2.heap.size := by have := hb2.size; simp at this; omega
    have hcl : c < w2.heap.size := by omega
    clear hb2 C1 C2
    go_wp2_with fail
    refine (C3 _).mono ?_
    rintro e w3 ⟨rfl, hb3⟩
    have HB3 : Hid (Below w.heap.size w w3) := (HB2.out.alloc (by omega) _).trans (hb3.mono (by simp; omega))
    have HC3 : Below w2.heap.size w2 w3 := ((Below.refl _ _).alloc (Nat.le_refl _) _).trans (hb3.mono (by simp))
    obtain ⟨k0, l0⟩ := bel_cell HC3 (b := w.heap.size) (by omega)
    obtain ⟨k1, l1⟩ := bel_cell HC3 (b := w.heap.size + 1) (by omega)
    have hz3 : w.heap.size + 1 < w3.heap.size := by have := hb3.size; simp at this; omega
    clear hb3 HC3 C3 HB2
    go_wp2_with fail
    refine bodyPost_ret (v := _) ?h1 rfl ⟨rfl, below_set83 HB3.out (Nat.le_refl _) (by omega) _ _ _ _ _ _ _ _ _ _ _⟩
    case h1 => simp [results, Tryd.results30, go_sem, k0, k1, n0, n1]
end Go.Proofs.YtbaagnfcdphddaaDoor
