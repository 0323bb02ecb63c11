/-
  The document's control registers as a block of twelve cells; the memory that a hart's world begins with, as a plain function of pokes and words; the law's world as one structure.
-/
import Derived.Test.YtkckobbedpccfaaGreatDoorQRef
import Derived.Test.YtkckobbedpccfaaGreatDoorQF
import Derived.Test.YtkckobbedpccfaaGreatDoorQI6
import Derived.ArgAppend
namespace Go.Proofs.YtkckobbedpccfaaGreatDoor
open Go.RowKit
set_option linter.unusedVariables false
set_option maxRecDepth 100000

/-- the document's control registers, in the block G -/
structure GF (w : World) (G : Nat) (R : Nat → Int) : Prop where
  blk : ∃ cs : Array Value, w.heap[G]? = some (.cells cs 126 (0, 0)) ∧ cs.size = 12 ∧ ∀ n, n < 12 → cs[n]? = some (.int .u64 (R n))
theorem GF.lt {w : World} {G : Nat} {R : Nat → Int} (h : GF w G R) : G < w.heap.size := by
  obtain ⟨cs, h, _⟩ := h
  exact lt_of_heap h
theorem GF.keep {w w' : World} {G : Nat} {R : Nat → Int} (h : GF w G R) (hk : w'.heap[G]? = w.heap[G]?) : GF w' G R := by
  obtain ⟨cs, h, r⟩ := h
  exact ⟨cs, hk.trans h, r⟩
theorem GF.below {w w' : World} {G : Nat} {R : Nat → Int} (h : GF w G R) (hk : Below w.heap.size w w') : GF w' G R := h.keep (hk.block G h.lt)
theorem GF.c {w : World} {G : Nat} {R : Nat → Int} (h : GF w G R) (n : Nat) (hn : n < 12) : w.cell? ⟨G, n, none⟩ = some (.int .u64 (R n)) := by
  obtain ⟨cs, h, h1, h3⟩ := h
  rw [C.cell_at h, h3 n hn]
theorem GF.f {w : World} {G : Nat} {R : Nat → Int} (h : GF w G R) (o : Nat) : w.frozen? ⟨G, o, none⟩ = false := by
  obtain ⟨cs, h, h1, h3⟩ := h
  simp [World.frozen?, h]
theorem GF.set {w : World} {G : Nat} {R : Nat → Int} (h : GF w G R) (n : Nat) (hn : n < 12) (v : Int) : GF (w.setCell ⟨G, n, none⟩ (.int .u64 v)) G (C.upd R n v) ∧ w.grownBy (w.setCell ⟨G, n, none⟩ (.int .u64 v)) (some G) := by
  obtain ⟨cs, h, h1, h3⟩ := h
  have e := setCell_eq_setRow w G n cs 126 (0, 0) (.int .u64 v) h
  rw [e]
  have hh : (w.setRow G (cs.setIfInBounds n (.int .u64 v))).heap[G]? = _ := setRow_heap w G cs _ 126 _ h
  refine ⟨⟨_, hh, by simpa using h1, fun k hk => ?_⟩, ?_⟩
  · rw [Array.getElem?_setIfInBounds]
    unfold C.upd
    by_cases e : k = n
    · subst e
      rw [if_pos rfl, if_pos (by omega), if_pos rfl]
    · rw [if_neg (by omega), if_neg e]
      exact h3 k hk
  · exact ⟨rfl, rfl, rfl, by simp [World.setRow], fun k hk hne => setRow_other w G k _ (fun e => hne (by rw [e]))⟩

theorem gnew_gf (w : World) : Calls Tryz.prog 32 #[.int .i64 0] w fun e w' => ∃ G, e = .returned (.pointer (some ⟨G, 0, none⟩)) ∧ w.heap.size ≤ G ∧ GF w' G (fun _ => 0) ∧ Below w.heap.size w w' := by
  have HF : Hid (GF (w.alloc (.cells #[.int .u64 0, .int .u64 0, .int .u64 0, .int .u64 0, .int .u64 0, .int .u64 0, .int .u64 0, .int .u64 0, .int .u64 0, .int .u64 0, .int .u64 0, .int .u64 0] 126)) w.heap.size (fun _ => 0) ∧
    Below w.heap.size w (w.alloc (.cells #[.int .u64 0, .int .u64 0, .int .u64 0, .int .u64 0, .int .u64 0, .int .u64 0, .int .u64 0, .int .u64 0, .int .u64 0, .int .u64 0, .int .u64 0, .int .u64 0] 126))) := by
    refine ⟨⟨_, C.heap_alloc_at w _, rfl, fun n hn => ?_⟩, (Below.refl _ _).alloc (Nat.le_refl _) _⟩
    match n, hn with
    | 0, _ | 1, _ | 2, _ | 3, _ | 4, _ | 5, _ | 6, _ | 7, _ | 8, _ | 9, _ | 10, _ | 11, _ => rfl
  go_enter Tryz.func32, Tryz.ntmps32
  go_wp2
  go_ret
  exact ⟨_, rfl, Nat.le_refl _, HF.out⟩
theorem gset_gf (G : Nat) (R : Nat → Int) (n : Nat) (hn : n < 12) (v : Int) (w : World) (h : GF w G R) : Calls Tryz.prog 35 #[.pointer (some ⟨G, 0, none⟩), .int .i64 n, .int .u64 v] w fun e w' => e = .returned (.int .i64 0) ∧ GF w' G (C.upd R n v) ∧ w.grownBy w' (some G) := by
  have c := h.c n hn
  have f := h.f n
  have l := h.lt
  have HF : Hid (_) := h.set n hn v
  have i1 : (0 : Int) ≤ (n : Int) ∧ (n : Int) < 12 := by omega
  clear h
  go_enter Tryz.func35, Tryz.ntmps35
  go_wp2
  go_ret
  exact ⟨rfl, HF.out⟩
theorem storeV_len (zs : List Int) (t n v : Int) (ht : 0 ≤ t) : (storeV zs t n v).length = zs.length := by
  unfold storeV
  split
  · rename_i h
    obtain ⟨h1, h2, h3⟩ := numE_zero h
    rw [length_splice]
    rw [bytesOf_len]
    unfold isW at h1
    omega
  · rfl

/-- pokes, stored one behind the other -/
def memP (ps : List (Int × Int)) (zs : List Int) (k : Nat) : List Int := (List.range k).foldl (fun zs i => storeV zs ((ps.getD i (0, 0)).1 % 3072 / 8 * 8) 8 (ps.getD i (0, 0)).2) zs
theorem memP_next (ps : List (Int × Int)) (zs : List Int) (k : Nat) : memP ps zs (k + 1) = storeV (memP ps zs k) ((ps.getD k (0, 0)).1 % 3072 / 8 * 8) 8 (ps.getD k (0, 0)).2 := by
  simp [memP, List.range_succ, List.foldl_append]
/-- words, stored from an address on -/
def memW (pc : Int) (ws : List Int) (zs : List Int) (k : Nat) : List Int := (List.range k).foldl (fun zs (i : Nat) => storeV zs (pc % 3072 / 4 * 4 + 4 * (i : Int)) 4 (ws.getD i 0)) zs
theorem memW_next (pc : Int) (ws : List Int) (zs : List Int) (k : Nat) : memW pc ws zs (k + 1) = storeV (memW pc ws zs k) (pc % 3072 / 4 * 4 + 4 * (k : Int)) 4 (ws.getD k 0) := by
  simp [memW, List.range_succ, List.foldl_append]
theorem memP_len (ps : List (Int × Int)) (zs : List Int) (k : Nat) : (memP ps zs k).length = zs.length := by
  induction k with
  | zero => rfl
  | succ k ih => rw [memP_next, storeV_len _ _ _ _ (by omega), ih]
theorem memW_len (pc : Int) (ws : List Int) (zs : List Int) (k : Nat) : (memW pc ws zs k).length = zs.length := by
  induction k with
  | zero => rfl
  | succ k ih => rw [memW_next, storeV_len _ _ _ _ (by omega), ih]

/-- an instruction's five numbers -/
structure I5 where
  op : Int
  rd : Int
  rs1 : Int
  rs2 : Int
  imm : Int
def I5.enc (x : I5) : Int := I.encW x.op x.rd x.rs1 x.rs2 x.imm
def I5.zero : I5 := ⟨0, 0, 0, 0, 0⟩

/-- pokes that lie in a slice -/
def PokesIn (w : World) (ad : Option Addr) (n : Nat) (ps : List (Int × Int)) : Prop :=
  ps.length = n ∧ (n = 0 ∨ ∃ B off, ad = some ⟨B, off, none⟩ ∧ B < w.heap.size ∧ ∀ i, i < n → w.cell? ⟨B, off + i * 2, none⟩ = some (.int .u64 (ps.getD i (0, 0)).1) ∧ w.cell? ⟨B, off + i * 2 + 1, none⟩ = some (.int .u64 (ps.getD i (0, 0)).2)) ∧ ∀ i, C.U (ps.getD i (0, 0)).1 ∧ C.U (ps.getD i (0, 0)).2
/-- words that lie in a slice -/
def WordsIn (w : World) (ad : Option Addr) (n : Nat) (ws : List Int) : Prop :=
  ws.length = n ∧ (n = 0 ∨ ∃ B off, ad = some ⟨B, off, none⟩ ∧ B < w.heap.size ∧ ∀ i, i < n → w.cell? ⟨B, off + i, none⟩ = some (.int .u32 (ws.getD i 0))) ∧ ∀ i, 0 ≤ ws.getD i 0 ∧ ws.getD i 0 ≤ 4294967295
/-- instructions that lie in a slice -/
def InsnsIn (w : World) (ad : Option Addr) (n : Nat) (xs : List I5) : Prop :=
  xs.length = n ∧ (n = 0 ∨ ∃ B off, ad = some ⟨B, off, none⟩ ∧ B < w.heap.size ∧ ∀ i, i < n →
    w.cell? ⟨B, off + i * 5, none⟩ = some (.int .i64 (xs.getD i .zero).op) ∧ w.cell? ⟨B, off + i * 5 + 1, none⟩ = some (.int .i64 (xs.getD i .zero).rd) ∧ w.cell? ⟨B, off + i * 5 + 2, none⟩ = some (.int .i64 (xs.getD i .zero).rs1) ∧
    w.cell? ⟨B, off + i * 5 + 3, none⟩ = some (.int .i64 (xs.getD i .zero).rs2) ∧ w.cell? ⟨B, off + i * 5 + 4, none⟩ = some (.int .i64 (xs.getD i .zero).imm))
theorem PokesIn.below {w w' : World} {ad : Option Addr} {n N : Nat} {ps : List (Int × Int)} (h : PokesIn w ad n ps) (hN : N = w.heap.size) (hb : Below N w w') : PokesIn w' ad n ps := by
  subst hN
  obtain ⟨h1, h2, h3⟩ := h
  refine ⟨h1, ?_, h3⟩
  rcases h2 with h2 | ⟨B, off, e, hB, hc⟩
  · exact .inl h2
  · exact .inr ⟨B, off, e, Nat.lt_of_lt_of_le hB hb.size, fun i hi => ⟨((bcell hb).1 B _ hB).trans (hc i hi).1, ((bcell hb).1 B _ hB).trans (hc i hi).2⟩⟩
theorem WordsIn.below {w w' : World} {ad : Option Addr} {n N : Nat} {ws : List Int} (h : WordsIn w ad n ws) (hN : N = w.heap.size) (hb : Below N w w') : WordsIn w' ad n ws := by
  subst hN
  obtain ⟨h1, h2, h3⟩ := h
  refine ⟨h1, ?_, h3⟩
  rcases h2 with h2 | ⟨B, off, e, hB, hc⟩
  · exact .inl h2
  · exact .inr ⟨B, off, e, Nat.lt_of_lt_of_le hB hb.size, fun i hi => ((bcell hb).1 B _ hB).trans (hc i hi)⟩
theorem InsnsIn.below {w w' : World} {ad : Option Addr} {n N : Nat} {xs : List I5} (h : InsnsIn w ad n xs) (hN : N = w.heap.size) (hb : Below N w w') : InsnsIn w' ad n xs := by
  subst hN
  obtain ⟨h1, h2⟩ := h
  refine ⟨h1, ?_⟩
  rcases h2 with h2 | ⟨B, off, e, hB, hc⟩
  · exact .inl h2
  · refine .inr ⟨B, off, e, Nat.lt_of_lt_of_le hB hb.size, fun i hi => ?_⟩
    obtain ⟨c0, c1, c2, c3, c4⟩ := hc i hi
    exact ⟨((bcell hb).1 B _ hB).trans c0, ((bcell hb).1 B _ hB).trans c1, ((bcell hb).1 B _ hB).trans c2, ((bcell hb).1 B _ hB).trans c3, ((bcell hb).1 B _ hB).trans c4⟩

/-- where a hart begins, as thirty-four cells -/
def stCells (X R : Nat → Int) (pc mode sec : Int) (vi vw vp : Value) : Array Value :=
  #[.int .u64 (X 0), .int .u64 (X 1), .int .u64 (X 2), .int .u64 (X 3), .int .u64 (X 4), .int .u64 (X 5), .int .u64 (X 6), .int .u64 (X 7), .int .u64 (X 8), .int .u64 (X 9), .int .u64 (X 10), .int .u64 (X 11), .int .u64 (X 12), .int .u64 (X 13), .int .u64 (X 14), .int .u64 (X 15),
    .int .u64 pc, .int .i64 mode, .int .u64 (R 0), .int .u64 (R 1), .int .u64 (R 2), .int .u64 (R 3), .int .u64 (R 4), .int .u64 (R 5), .int .u64 (R 6), .int .u64 (R 7), .int .u64 (R 8), .int .u64 (R 9), .int .u64 (R 10), .int .u64 (R 11), vi, vw, vp, .int .i64 sec]
theorem st_csr (X R : Nat → Int) (pc mode sec : Int) (vi vw vp : Value) (n : Nat) (hn : n < 12) : (stCells X R pc mode sec vi vw vp)[18 + n]? = some (.int .u64 (R n)) := by
  match n, hn with
  | 0, _ | 1, _ | 2, _ | 3, _ | 4, _ | 5, _ | 6, _ | 7, _ | 8, _ | 9, _ | 10, _ | 11, _ => rfl

/-- the law's world: the state, both memories, both files -/
structure BW (W w : World) (A b g c h F G : Nat) (cs : Array Value) (zs : List Int) (Rf Rg : Nat → Int) : Prop where
  a : w.heap[A]? = some (.cells cs 31 (0, 0))
  mm : MM w b g zs
  rm : RM w c h zs
  ff : C.FF w F Rf
  gf : GF w G Rg
  bl : Below W.heap.size W w
  lA : W.heap.size ≤ A
  oA : A < b ∧ A < g
  o1 : b < c ∧ b < h ∧ g < c ∧ g < h
  o2 : c < F ∧ h < F
  o3 : F < G
theorem BW.below {W w w' : World} {A b g c h F G : Nat} {cs : Array Value} {zs : List Int} {Rf Rg : Nat → Int} (H : BW W w A b g c h F G cs zs Rf Rg) (hb : Below w.heap.size w w') : BW W w' A b g c h F G cs zs Rf Rg :=
  ⟨(hb.block A (lt_of_heap H.a)).trans H.a, H.mm.below hb, H.rm.below hb, H.ff.below hb, H.gf.below hb, H.bl.trans (hb.mono H.bl.size), H.lA, H.oA, H.o1, H.o2, H.o3⟩
theorem BW.stored {W w w1 w2 : World} {A b g c h F G : Nat} {cs : Array Value} {zs ys : List Int} {Rf Rg : Nat → Int} (H : BW W w A b g c h F G cs zs Rf Rg)
    (m1 : MM w1 b g ys) (g1 : w.grownBy w1 (some g)) (r2 : RM w2 c h ys) (g2 : w1.grownBy w2 (some h)) : BW W w2 A b g c h F G cs ys Rf Rg := by
  have ⟨oA1, oA2⟩ := H.oA
  have ⟨o1, o2, o3, o4⟩ := H.o1
  have ⟨o5, o6⟩ := H.o2
  have o7 := H.o3
  have lA := H.lA
  have hs := H.bl.size
  have hm := H.mm.ne
  have kk : ∀ k, k < w.heap.size → k ≠ g → k ≠ h → w2.heap[k]? = w.heap[k]? := fun k hk h1 h2 =>
    (g2.block k (Nat.lt_of_lt_of_le hk g1.size) (fun e => h2 (by cases e; rfl))).trans (g1.block k hk (fun e => h1 (by cases e; rfl)))
  refine ⟨(kk A (lt_of_heap H.a) (by omega) (by omega)).trans H.a, m1.kept g2 (by simp; omega) (by simp; omega), r2, H.ff.keep (kk F H.ff.lt (by omega) (by omega)), H.gf.keep (kk G H.gf.lt (by omega) (by omega)), ?_, H.lA, H.oA, H.o1, H.o2, H.o3⟩
  exact (H.bl.grown g1 hs (by intro j hj; cases hj; omega)).grown g2 (Nat.le_trans hs g1.size) (by intro j hj; cases hj; omega)
theorem BW.filed {W w w1 w2 : World} {A b g c h F G : Nat} {cs : Array Value} {zs : List Int} {Rf Rg Rf' Rg' : Nat → Int} (H : BW W w A b g c h F G cs zs Rf Rg)
    (f1 : C.FF w1 F Rf') (g1 : w.grownBy w1 (some F)) (r2 : GF w2 G Rg') (g2 : w1.grownBy w2 (some G)) : BW W w2 A b g c h F G cs zs Rf' Rg' := by
  have ⟨oA1, oA2⟩ := H.oA
  have ⟨o1, o2, o3, o4⟩ := H.o1
  have ⟨o5, o6⟩ := H.o2
  have o7 := H.o3
  have lA := H.lA
  have hs := H.bl.size
  have kk : ∀ k, k < w.heap.size → k ≠ F → k ≠ G → w2.heap[k]? = w.heap[k]? := fun k hk h1 h2 =>
    (g2.block k (Nat.lt_of_lt_of_le hk g1.size) (fun e => h2 (by cases e; rfl))).trans (g1.block k hk (fun e => h1 (by cases e; rfl)))
  refine ⟨(kk A (lt_of_heap H.a) (by omega) (by omega)).trans H.a, (H.mm.kept g1 (by simp; omega) (by simp; omega)).kept g2 (by simp; omega) (by simp; omega), (H.rm.kept g1 (by simp; omega) (by simp; omega)).kept g2 (by simp; omega) (by simp; omega), f1.keep (g2.block F (Nat.lt_of_lt_of_le H.ff.lt g1.size) (fun e => by cases e; omega)), r2, ?_, H.lA, H.oA, H.o1, H.o2, H.o3⟩
  exact (H.bl.grown g1 hs (by intro j hj; cases hj; omega)).grown g2 (Nat.le_trans hs g1.size) (by intro j hj; cases hj; omega)
end Go.Proofs.YtkckobbedpccfaaGreatDoor
