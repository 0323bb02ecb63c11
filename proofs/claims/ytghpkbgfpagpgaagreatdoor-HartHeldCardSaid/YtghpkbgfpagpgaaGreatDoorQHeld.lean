/-
  Plain facts of a hold and of the stores behind it: three instructions of a memory, and what each step does.
  The law HartHeld: a store that is only done if its address is held is done once behind each hold, and not when another one has stored there.
-/
import Derived.Test.YtghpkbgfpagpgaaGreatDoorQTr
import Derived.Test.YtghpkbgfpagpgaaGreatDoorQMath
namespace Go.Proofs.YtghpkbgfpagpgaaGreatDoor
open Go.RowKit
set_option linter.unusedVariables false
set_option maxRecDepth 20000

def heldI : List I5 := [⟨37, 3, 1, 0, 0⟩, ⟨38, 4, 1, 2, 0⟩, ⟨38, 5, 1, 2, 0⟩]
def e37 : Int := I.encW 37 3 1 0 0
def e38 : Int := I.encW 38 4 1 2 0
def e39 : Int := I.encW 38 5 1 2 0
theorem held_lr : I.validW e37 = true ∧ I.opW e37 = 37 ∧ I.rdW e37 = 3 ∧ I.rs1W e37 = 1 ∧ I.immW e37 = 0 ∧ 0 ≤ e37 ∧ e37 ≤ 4294967295 := by decide +kernel
theorem held_sc : I.validW e38 = true ∧ I.opW e38 = 38 ∧ I.rdW e38 = 4 ∧ I.rs1W e38 = 1 ∧ I.rs2W e38 = 2 ∧ I.immW e38 = 0 ∧ 0 ≤ e38 ∧ e38 ≤ 4294967295 := by decide +kernel
theorem held_sd : I.validW e39 = true ∧ I.opW e39 = 38 ∧ I.rdW e39 = 5 ∧ I.rs1W e39 = 1 ∧ I.rs2W e39 = 2 ∧ I.immW e39 = 0 ∧ 0 ≤ e39 ∧ e39 ≤ 4294967295 := by decide +kernel
/-- the law's memory -/
def heldM : List Int := memW 0 ([] ++ heldI.map I5.enc) (memP [] (List.replicate 3072 0) 0) (0 + 3)
theorem held_mem : heldM = storeV (storeV (storeV (List.replicate 3072 0) 0 4 e37) 4 4 e38) 8 4 e39 := by
  unfold heldM
  rw [show (0 + 3 : Nat) = 2 + 1 from rfl, memW_next, show (2 : Nat) = 1 + 1 from rfl, memW_next, show (1 : Nat) = 0 + 1 from rfl, memW_next]
  rfl
theorem le_zero (L : Nat) : ∀ m k, leFrom (List.replicate L (0 : Int)) k m = 0 := by
  intro m
  induction m with
  | zero => intro k; rfl
  | succ m ih =>
    intro k
    rw [leFrom, ih (k + 1)]
    have : (List.replicate L (0 : Int)).getD k 0 = 0 := by
      by_cases h : k < L
      · simp [h]
      · simp [h]
    rw [this]
    rfl
theorem load_zero (t : Int) (n : Nat) : leFrom (List.replicate 3072 (0 : Int)) t.toNat n = 0 := le_zero 3072 n t.toNat
theorem n4 (zs : List Int) (zl : zs.length = 3072) (t : Int) (h0 : 0 ≤ t) (h1 : t ≤ 3000) (h4 : t % 4 = 0) : numE zs.length t 4 = 0 := by
  rw [zl]; exact num_four h4 h0 (by omega)
theorem held_words : heldM.length = 3072 ∧ IntKind.u32.wrap (loadV heldM 0 4) = e37 ∧ IntKind.u32.wrap (loadV heldM 4 4) = e38 ∧ IntKind.u32.wrap (loadV heldM 8 4) = e39 ∧ loadV heldM 512 8 = 0 := by
  obtain ⟨_, _, _, _, _, a0, a1⟩ := held_lr
  obtain ⟨_, _, _, _, _, _, b0, b1⟩ := held_sc
  obtain ⟨_, _, _, _, _, _, c0, c1⟩ := held_sd
  rw [held_mem]
  have l0 : (List.replicate 3072 (0 : Int)).length = 3072 := by simp
  have l1 : (storeV (List.replicate 3072 (0 : Int)) 0 4 e37).length = 3072 := by rw [storeV_len _ _ _ _ (by decide), l0]
  have l2 : (storeV (storeV (List.replicate 3072 (0 : Int)) 0 4 e37) 4 4 e38).length = 3072 := by rw [storeV_len _ _ _ _ (by decide), l1]
  refine ⟨by rw [storeV_len _ _ _ _ (by decide), l2], ?_, ?_, ?_, ?_⟩
  · rw [load_off _ 8 0 _ 4 4 (by decide) (by decide) (by decide) (by decide) (by decide), load_off _ 4 0 _ 4 4 (by decide) (by decide) (by decide) (by decide) (by decide)]
    exact word_at _ 0 _ (by decide) (n4 _ l0 0 (by decide) (by decide) (by decide)) a0 a1
  · rw [load_off _ 8 4 _ 4 4 (by decide) (by decide) (by decide) (by decide) (by decide)]
    exact word_at _ 4 _ (by decide) (n4 _ l1 4 (by decide) (by decide) (by decide)) b0 b1
  · exact word_at _ 8 _ (by decide) (n4 _ l2 8 (by decide) (by decide) (by decide)) c0 c1
  · rw [load_off _ 8 512 _ 4 8 (by decide) (by decide) (by decide) (by decide) (by decide), load_off _ 4 512 _ 4 8 (by decide) (by decide) (by decide) (by decide) (by decide), load_off _ 0 512 _ 4 8 (by decide) (by decide) (by decide) (by decide) (by decide)]
    unfold loadV
    rw [load_zero 512]
    split <;> rfl
theorem eight_at (zs : List Int) (zl : zs.length = 3072) (v : Int) (hv : C.U v) : loadV (storeV zs 512 8 v) 512 8 = v := by
  have hn : numE zs.length 512 8 = 0 := by rw [zl]; decide
  have hl : (storeV zs 512 8 v).length = zs.length := storeV_len zs 512 8 v (by decide)
  unfold loadV
  rw [hl, if_pos hn]
  unfold storeV
  rw [if_pos hn]
  have hb : (bytesOf v (8 : Int).toNat).length = 8 := bytesOf_len v 8
  have e : leFrom (splice zs (512 : Int).toNat (bytesOf v (8 : Int).toNat)) (512 : Int).toNat (8 : Int).toNat = leFrom (bytesOf v 8) 0 8 := by
    refine leFrom_congr _ _ 8 _ _ (fun i hi => ?_)
    rw [splice_at _ _ _ _ (by rw [hb, zl]; decide), if_pos (by rw [hb]; omega)]
    congr 1
    omega
  rw [e, le_bytes v 8 8 (by omega)]
  obtain ⟨h0, h1⟩ := hv
  unfold extW
  rw [if_neg (by omega)]
  omega
/-- a hart of this law: in Kernel, no second stage, no interrupt -/
def heldS (X : Nat → Int) (pc : Int) (zs : List Int) (is : Bool) (at_ : Int) : Hs := ⟨X, pc, 1, zeroR, zs, -1, is, at_, 0, 0, 0, 0, 0, 0⟩
theorem rch_plain [E.Bits] (s : Hs) (hs : s.sec < 0) (ha : s.asked = 512) (ho : s.op = 37 ∨ s.op = 38) (k : Int) : s.rch TB k = ⟨512, 0, 0, 0⟩ ∧ widthP s.op = 8 := by
  have hw : widthP s.op = 8 := by unfold widthP; rw [if_neg (by omega), if_neg (by omega)]
  refine ⟨?_, hw⟩
  unfold Hs.rch
  rw [ha, hw, if_pos (by decide)]
  unfold Hs.tr TB
  rw [if_pos hs]
theorem lr_plain [E.Bits] (s : Hs) (hs : s.sec < 0) (ha : s.asked = 512) (ho : s.op = 37) (hn : numE s.zs.length 512 8 = 0) : s.perP TB = ({ s with is := true, at_ := 512 } : Hs).told (loadV s.zs 512 8) := by
  obtain ⟨e, hw⟩ := rch_plain s hs ha (.inl ho) 1
  unfold Hs.perP
  rw [if_neg (by omega), if_neg (by omega), if_neg (by omega), if_neg (by omega), if_neg (by omega), if_neg (by omega), if_pos ho]
  unfold Hs.lrP Hs.tk Hs.ld Hs.got
  rw [e, hw]
  dsimp only
  rw [if_pos hn]
  rfl
theorem sc_plain [E.Bits] (s : Hs) (hs : s.sec < 0) (ha : s.asked = 512) (ho : s.op = 38) (hn : numE s.zs.length 512 8 = 0) : s.perP TB = if s.is && s.at_ == 512 then ({ s with is := false, zs := storeV s.zs 512 8 (s.X s.r2) } : Hs).told 0 else ({ s with is := false } : Hs).told 1 := by
  obtain ⟨e, hw⟩ := rch_plain s hs ha (.inr ho) 2
  unfold Hs.perP
  rw [if_neg (by omega), if_neg (by omega), if_neg (by omega), if_neg (by omega), if_neg (by omega), if_neg (by omega), if_neg (by omega), if_pos ho]
  unfold Hs.scP Hs.ld Hs.let_ Hs.stored Hs.reg
  rw [e, hw]
  dsimp only
  rw [if_pos hn]
  rfl
theorem told_at (s : Hs) (v : Int) (h : s.rd ≠ 0) : s.told v = (Rs.ok, { s with X := C.upd s.X s.rd v, pc := IntKind.u64.wrap (s.pc + 4) }) := by
  unfold Hs.told Hs.puts Hs.went Hs.next
  dsimp only
  rw [if_neg h]
theorem lr_one [E.Bits] (X : Nat → Int) (h1 : X 1 = 512) (zs : List Int) (zl : zs.length = 3072) (zw : IntKind.u32.wrap (loadV zs 0 4) = e37) (z8 : loadV zs 512 8 = 0) :
    ∃ s', (heldS X 0 zs false 0).fresh.doP TB = (Rs.ok, s') ∧ s'.fresh = heldS (C.upd X 3 0) 4 zs true 512 := by
  obtain ⟨a1, a2, a3, a4, a5, _, _⟩ := held_lr
  have n8 : numE zs.length 512 8 = 0 := by rw [zl]; decide
  rw [do_plain _ (by show (-1 : Int) < 0; decide) (due_none rfl rfl) (by show (0 : Int) % 4 = 0; decide) (n4 _ zl 0 (by decide) (by decide) (by decide))]
  unfold Hs.fresh heldS
  dsimp only
  rw [zw]
  unfold Hs.insP
  dsimp only
  rw [if_pos ⟨a1, fun h => by omega⟩]
  rw [lr_plain _ (by show (-1 : Int) < 0; decide) (by
    unfold Hs.asked Hs.laid Hs.reg
    dsimp only
    rw [a4, a5]
    show IntKind.u64.wrap (X 1 + IntKind.u64.wrap 0) = 512
    rw [h1]
    decide) (by show I.opW e37 = 37; exact a2) n8]
  rw [told_at _ _ (by show (I.rdW e37).toNat ≠ 0; rw [a3]; decide)]
  refine ⟨_, rfl, ?_⟩
  unfold Hs.laid
  dsimp only
  rw [a3, z8]
  rfl
theorem sc_one [E.Bits] (X : Nat → Int) (h1 : X 1 = 512) (pc e : Int) (rd : Nat) (hrd : rd ≠ 0) (zs : List Int) (zl : zs.length = 3072) (hp0 : 0 ≤ pc) (hp1 : pc ≤ 3000) (hp4 : pc % 4 = 0) (zw : IntKind.u32.wrap (loadV zs pc 4) = e) (a1 : I.validW e = true) (a2 : I.opW e = 38) (a3 : I.rdW e = rd) (a4 : I.rs1W e = 1) (a5 : I.rs2W e = 2) (a6 : I.immW e = 0) (is : Bool) (at_ : Int) :
    ∃ s', (heldS X pc zs is at_).fresh.doP TB = (Rs.ok, s') ∧ s'.fresh = if is && at_ == 512 then heldS (C.upd X rd 0) (pc + 4) (storeV zs 512 8 (X 2)) false at_ else heldS (C.upd X rd 1) (pc + 4) zs false at_ := by
  have n8 : numE zs.length 512 8 = 0 := by rw [zl]; decide
  have wp : IntKind.u64.wrap (pc + 4) = pc + 4 := by rw [IntKind.wrap_u64]; omega
  rw [do_plain _ (by show (-1 : Int) < 0; decide) (due_none rfl rfl) hp4 (n4 _ zl pc hp0 hp1 hp4)]
  unfold Hs.fresh heldS
  dsimp only
  rw [zw]
  unfold Hs.insP
  dsimp only
  rw [if_pos ⟨a1, fun h => by omega⟩]
  rw [sc_plain _ (by show (-1 : Int) < 0; decide) (by
    unfold Hs.asked Hs.laid Hs.reg
    dsimp only
    rw [a4, a6]
    show IntKind.u64.wrap (X 1 + IntKind.u64.wrap 0) = 512
    rw [h1]
    decide) (by show I.opW e = 38; exact a2) n8]
  have hr : (I.rdW e).toNat = rd := by rw [a3]; simp
  unfold Hs.laid
  dsimp only
  rw [a5, hr]
  cases hb : (is && at_ == 512)
  · rw [if_neg (by simp), told_at _ _ hrd]
    refine ⟨_, rfl, ?_⟩
    dsimp only
    rw [wp]
    rfl
  · rw [if_pos rfl, told_at _ _ hrd]
    refine ⟨_, rfl, ?_⟩
    dsimp only
    rw [wp]
    rfl
end Go.Proofs.YtghpkbgfpagpgaaGreatDoor
namespace Go.Proofs.YtghpkbgfpagpgaaGreatDoor
open Go.RowKit
set_option linter.unusedVariables false
set_option maxRecDepth 20000

def heldX (X : Nat → Int) (v : Int) : Nat → Int := fun n => if n = 1 then 512 else if n = 2 then v else X n
/-- what the law makes of its state -/
def heldC (X : Nat → Int) (v : Int) (k : Nat) : Array Value := #[.int .u64 (X 0), .int .u64 512, .int .u64 v, .int .u64 (X 3), .int .u64 (X 4), .int .u64 (X 5), .int .u64 (X 6), .int .u64 (X 7), .int .u64 (X 8), .int .u64 (X 9), .int .u64 (X 10), .int .u64 (X 11), .int .u64 (X 12), .int .u64 (X 13), .int .u64 (X 14), .int .u64 (X 15), .int .u64 0, .int .i64 1, .int .u64 0, .int .u64 0, .int .u64 0, .int .u64 0, .int .u64 0, .int .u64 0, .int .u64 0, .int .u64 0, .int .u64 0, .int .u64 0, .int .u64 0, .int .u64 0, .slice (some ⟨k, 0, none⟩) 3 3, .slice none 0 0, .slice none 0 0, .int .i64 (-1)]
def ins3 : Array Value := #[.int .i64 37, .int .i64 3, .int .i64 1, .int .i64 0, .int .i64 0, .int .i64 38, .int .i64 4, .int .i64 1, .int .i64 2, .int .i64 0, .int .i64 38, .int .i64 5, .int .i64 1, .int .i64 2, .int .i64 0]
theorem held_both (W : World) (hz : SZ W) (X : Nat → Int) (v : Int) (t : TypeId) : Calls Tryz.prog 9 #[.agg (heldC X v (W.heap.size + 1))] ((W.alloc (.cells (heldC X v (W.heap.size + 1)) 31)).alloc (.cells ins3 t)) fun e W' => ∃ b g c h F G B Q, e = .returned (.tuple #[.pointer (some ⟨F, 0, none⟩), .pointer (some ⟨G, 0, none⟩), .pointer (some ⟨B, 0, none⟩), .pointer (some ⟨Q, 0, none⟩), .bool true]) ∧
      Made ((W.alloc (.cells (heldC X v (W.heap.size + 1)) 31)).alloc (.cells ins3 t)) W' b g c h F G B Q heldM zeroR (-1) := by
  obtain ⟨hb, n0, n1⟩ := two_at W (.cells (heldC X v (W.heap.size + 1)) 31) (.cells ins3 t)
  refine both_any (heldC X v (W.heap.size + 1)) zeroR 0 (-1) (some ⟨W.heap.size + 1, 0, none⟩) none none 3 3 0 0 0 0 heldI [] [] _ rfl rfl rfl rfl rfl (fun n hn => ?_) (hz.below hb) ⟨by decide, by decide⟩ (fun n hn => ?_) rfl ⟨rfl, .inr ⟨W.heap.size + 1, 0, rfl, lt_of_heap n1, fun i hi => ?_⟩⟩ (Nat.le_refl _) (by decide) ⟨rfl, .inl rfl, fun i => ?_⟩ (Nat.le_refl _) (by decide) (fun h => ⟨rfl, rfl⟩) ⟨rfl, .inl rfl, fun i => ?_⟩ (Nat.le_refl _) (by decide) (by decide)
  · match n, hn with
    | 0, _ | 1, _ | 2, _ | 3, _ | 4, _ | 5, _ | 6, _ | 7, _ | 8, _ | 9, _ | 10, _ | 11, _ => rfl
  · exact ⟨by show (0 : Int) ≤ 0; decide, by show (0 : Int) < 18446744073709551616; decide⟩
  · obtain rfl | rfl | rfl : i = 0 ∨ i = 1 ∨ i = 2 := by omega
    all_goals refine ⟨?_, ?_, ?_, ?_, ?_⟩ <;> (rw [C.cell_at n1]; rfl)
  · exact ⟨by simp, by simp⟩
  · exact ⟨⟨by simp, by simp⟩, ⟨by simp, by simp⟩⟩
theorem held_regs {w : World} {A k : Nat} {X : Nat → Int} {v : Int} (h : w.heap[A]? = some (.cells (heldC X v k) 31 (0, 0))) : w.rangeAt A 0 (regC (heldX X v) 0 1).toList := by
  intro j u hv
  rw [Nat.zero_add, C.cell_at h]
  have hv' : (regC (heldX X v) 0 1)[j]? = some u := by simpa using hv
  have hj : j < 18 := (Array.getElem?_eq_some_iff.1 hv').1
  rw [← hv']
  match j, hj with
  | 0, _ | 1, _ | 2, _ | 3, _ | 4, _ | 5, _ | 6, _ | 7, _ | 8, _ | 9, _ | 10, _ | 11, _ | 12, _ | 13, _ | 14, _ | 15, _ | 16, _ | 17, _ => rfl
  | k + 18, h => omega
theorem Ow.fr {w : World} {p : Pl} {s : Hs} (h : Ow w p s) : Ow w p s.fresh := ⟨h.ff, h.fl, h.mm, h.sz, h.b1, h.ok.fresh, h.FB, h.FM, h.Fg, h.BM, h.Bg, h.F1, h.B1, h.M1, h.g1⟩
theorem held_step [E.Bits] (p : Pl) (hT : ∀ q : Pl, q.o1 = p.o1 → TransOK q TB) (X0 X X' : Nat → Int) (pc pc' : Int) (zs zs' : List Int) (is is' : Bool) (at_ at' : Int) (r : Nat) (hOr : Ow.Off p r) (y : World) (ow : Ow y p (heldS X pc zs is at_)) (hr : y.heap[r]? = some (.cells (regC X0 pc 1) 25 (0, 0))) (hX0 : ∀ n, 0 < n → n < 16 → X0 n = X n)
    (hd : ∃ s', (heldS X pc zs is at_).fresh.doP TB = (Rs.ok, s') ∧ s'.fresh = heldS X' pc' zs' is' at') :
    Calls Tryz.prog 10 #[.pointer (some ⟨r, 0, none⟩), .pointer (some ⟨p.F, 0, none⟩), .iface 34 (.pointer (some ⟨p.B, 0, none⟩))] y fun e w' => e = .returned (.tuple #[Rs.ok.val, .int .i64 0]) ∧ Ow w' p (heldS X' pc' zs' is' at') ∧ w'.heap[r]? = some (.cells (regC X' pc' 1) 25 (0, 0)) ∧ Ts p r y w' := by
  obtain ⟨s', hd, hf⟩ := hd
  have ST := step_of p (heldS X pc zs is at_) X0 hX0 r hOr _ (fun S => do_hw { p with S := S } TB (hT _ rfl) _ (.inr rfl)) y ow hr
  rw [hd] at ST
  refine ST.mono fun e w' ⟨he, o, h, t⟩ => ⟨he, hf ▸ o.fr, ?_, t⟩
  have e1 : s'.X = X' := congrArg Hs.X hf
  have e2 : s'.pc = pc' := congrArg Hs.pc hf
  have e3 : s'.md = 1 := congrArg Hs.md hf
  rw [h]
  dsimp only
  rw [e1, e2, e3]
/-- the hold is let go from outside -/
theorem Ow.letgo {w : World} {p : Pl} {X : Nat → Int} {pc at_ : Int} {zs : List Int} {is : Bool} (h : Ow w p (heldS X pc zs is at_)) : Ow (w.setCell ⟨p.B, 2, none⟩ (.bool false)) p (heldS X pc zs false at_) ∧ w.grownBy (w.setCell ⟨p.B, 2, none⟩ (.bool false)) (some p.B) := by
  obtain ⟨h1, h2⟩ := set_bus (o := 2) (v := .bool false) h.fl
  have kk : ∀ k, k < w.heap.size → k ≠ p.B → (w.setCell ⟨p.B, 2, none⟩ (.bool false)).heap[k]? = w.heap[k]? := fun k hk hn => h2.block k hk (fun e => hn (by cases e; rfl))
  have b1 := h.B1
  refine ⟨⟨h.ff.keep (kk _ h.ff.lt h.FB), h1, h.mm.kept h2 (by simp; exact Ne.symm h.BM) (by simp; exact Ne.symm h.Bg), h.sz.block h2.size (kk 0 h.sz.pos (by omega)), (kk 1 (Nat.lt_trans h.F1 h.ff.lt) (by omega)).trans h.b1, ?_, h.FB, h.FM, h.Fg, h.BM, h.Bg, h.F1, h.B1, h.M1, h.g1⟩, h2⟩
  obtain ⟨o1, o2, o3, o4, o5, o6, o7, o8, o9, o10, o11⟩ := h.ok
  exact ⟨o1, o2, o3, o4, o5, o6, o7, o8, o9, o10, o11⟩
/-- the registers behind j steps -/
def hX (Y : Nat → Int) (j : Nat) (bk : Bool) : Nat → Int :=
  if j = 0 then Y else if j = 1 then C.upd Y 3 0 else if j = 2 then C.upd (C.upd Y 3 0) 4 (if bk then 1 else 0) else C.upd (C.upd (C.upd Y 3 0) 4 (if bk then 1 else 0)) 5 1
def hZ (v : Int) (j : Nat) (bk : Bool) : List Int := if 2 ≤ j ∧ bk = false then storeV heldM 512 8 v else heldM
def hS (Y : Nat → Int) (j : Nat) (bk : Bool) : Hs := heldS (hX Y j bk) (4 * (j : Int)) (hZ (Y 2) j bk) (j == 1) (if j = 0 then 0 else 512)
/-- the law's state behind j rounds -/
def HL (W wr : World) (p : Pl) (r : Nat) (Y : Nat → Int) (j : Nat) (bk : Bool) : Prop :=
  Ow wr p (hS Y j bk) ∧ (∃ X0, wr.heap[r]? = some (.cells (regC X0 (4 * (j : Int)) 1) 25 (0, 0)) ∧ ∀ n, 0 < n → n < 16 → X0 n = hX Y j bk n) ∧ Below W.heap.size W wr
theorem HL.below {W wr w' : World} {p : Pl} {r : Nat} {Y : Nat → Int} {j : Nat} {bk : Bool} (h : HL W wr p r Y j bk) (hb : Below wr.heap.size wr w') : HL W w' p r Y j bk := by
  obtain ⟨o, ⟨X0, hr, hx⟩, hw⟩ := h
  exact ⟨o.below hb, ⟨X0, (hb.block _ (lt_of_heap hr)).trans hr, hx⟩, hw.trans (hb.mono hw.size)⟩
theorem hX1 (Y : Nat → Int) (j : Nat) (bk : Bool) : hX Y j bk 1 = Y 1 ∧ hX Y j bk 2 = Y 2 := by
  unfold hX
  split
  · exact ⟨rfl, rfl⟩
  · split
    · exact ⟨rfl, rfl⟩
    · split <;> exact ⟨rfl, rfl⟩
theorem hZw (v : Int) (j : Nat) (bk : Bool) : (hZ v j bk).length = 3072 ∧ IntKind.u32.wrap (loadV (hZ v j bk) 8 4) = e39 := by
  obtain ⟨a, _, _, b, _⟩ := held_words
  unfold hZ
  split
  · refine ⟨by rw [storeV_len _ _ _ _ (by decide), a], ?_⟩
    rw [load_off _ 512 8 _ 8 4 (by decide) (by decide) (by decide) (by decide) (by decide)]
    exact b
  · exact ⟨a, b⟩
theorem held_next [E.Bits] {W wr : World} {p : Pl} {r : Nat} {Y : Nat → Int} {j : Nat} {bk : Bool} (hT : ∀ q : Pl, q.o1 = p.o1 → TransOK q TB) (hOr : Ow.Off p r) (h1 : W.heap.size ≤ r) (h2 : W.heap.size ≤ p.F) (h3 : W.heap.size ≤ p.B) (h4 : W.heap.size ≤ p.g) (hY : Y 1 = 512) (hj : j < 3) (h : HL W wr p r Y j bk) (hb : j = 1 → bk = false) :
    Calls Tryz.prog 10 #[.pointer (some ⟨r, 0, none⟩), .pointer (some ⟨p.F, 0, none⟩), .iface 34 (.pointer (some ⟨p.B, 0, none⟩))] wr fun e w' => e = .returned (.tuple #[Rs.ok.val, .int .i64 0]) ∧ HL W w' p r Y (j + 1) bk := by
  obtain ⟨ow, ⟨X0, hr, hx⟩, hw⟩ := h
  obtain ⟨m0, m1, m2, m3, m4⟩ := held_words
  have hd : ∃ s', (hS Y j bk).fresh.doP TB = (Rs.ok, s') ∧ s'.fresh = hS Y (j + 1) bk := by
    obtain rfl | rfl | rfl : j = 0 ∨ j = 1 ∨ j = 2 := by omega
    · exact lr_one Y hY heldM m0 m1 m4
    · obtain rfl := hb rfl
      obtain ⟨a1, a2, a3, a4, a5, a6, _, _⟩ := held_sc
      exact sc_one (C.upd Y 3 0) hY 4 e38 4 (by decide) heldM m0 (by decide) (by decide) (by decide) m2 a1 a2 a3 a4 a5 a6 true 512
    · obtain ⟨a1, a2, a3, a4, a5, a6, _, _⟩ := held_sd
      obtain ⟨z0, z1⟩ := hZw (Y 2) 2 bk
      cases bk
      · exact sc_one (C.upd (C.upd Y 3 0) 4 0) hY 8 e39 5 (by decide) (hZ (Y 2) 2 false) z0 (by decide) (by decide) (by decide) z1 a1 a2 a3 a4 a5 a6 false 512
      exact sc_one (C.upd (C.upd Y 3 0) 4 1) hY 8 e39 5 (by decide) (hZ (Y 2) 2 true) z0 (by decide) (by decide) (by decide) z1 a1 a2 a3 a4 a5 a6 false 512
  refine (held_step p hT X0 _ _ _ _ _ _ _ _ _ _ r hOr wr ow hr hx hd).mono fun e w' ⟨he, o, g, t⟩ => ⟨he, o, ⟨_, g, fun _ _ _ => rfl⟩, ts_below hw t h1 h2 h3 h4⟩
theorem held_brk [E.Bits] {W wr : World} {p : Pl} {r : Nat} {Y : Nat → Int} (hT : ∀ q : Pl, q.o1 = p.o1 → TransOK q TB) (hOr : Ow.Off p r) (h1 : W.heap.size ≤ r) (h2 : W.heap.size ≤ p.F) (h3 : W.heap.size ≤ p.B) (h4 : W.heap.size ≤ p.g) (hY : Y 1 = 512) (h : HL W wr p r Y 1 true) :
    Calls Tryz.prog 10 #[.pointer (some ⟨r, 0, none⟩), .pointer (some ⟨p.F, 0, none⟩), .iface 34 (.pointer (some ⟨p.B, 0, none⟩))] (wr.setCell ⟨p.B, 2, none⟩ (.bool false)) fun e w' => e = .returned (.tuple #[Rs.ok.val, .int .i64 0]) ∧ HL W w' p r Y 2 true := by
  obtain ⟨ow, ⟨X0, hr, hx⟩, hw⟩ := h
  obtain ⟨m0, m1, m2, m3, m4⟩ := held_words
  obtain ⟨ow2, hg⟩ := Ow.letgo ow
  have hr2 := (hg.block r (lt_of_heap hr) (by simp; exact hOr.B)).trans hr
  have hw2 : Below W.heap.size W (wr.setCell ⟨p.B, 2, none⟩ (.bool false)) := hw.setCell h3 _
  have hd : ∃ s', (heldS (hX Y 1 true) (4 * ((1 : Nat) : Int)) (hZ (Y 2) 1 true) false 512).fresh.doP TB = (Rs.ok, s') ∧ s'.fresh = hS Y 2 true := by
    obtain ⟨a1, a2, a3, a4, a5, a6, _, _⟩ := held_sc
    exact sc_one (C.upd Y 3 0) hY 4 e38 4 (by decide) heldM m0 (by decide) (by decide) (by decide) m2 a1 a2 a3 a4 a5 a6 false 512
  exact (held_step p hT X0 _ _ _ _ _ _ _ _ _ _ r hOr _ ow2 hr2 hx hd).mono fun e w' ⟨he, o, g, t⟩ => ⟨he, o, ⟨_, g, fun _ _ _ => rfl⟩, ts_below hw2 t h1 h2 h3 h4⟩
theorem held_end {Y : Nat → Int} {bk : Bool} (hv : C.U (Y 2)) : hX Y 3 bk 4 = (if bk then 1 else 0) ∧ hX Y 3 bk 5 = 1 ∧ loadV (hZ (Y 2) 3 bk) 512 8 = (if bk then 0 else Y 2) := by
  obtain ⟨m0, m1, m2, m3, m4⟩ := held_words
  refine ⟨rfl, rfl, ?_⟩
  cases bk
  · exact eight_at heldM m0 (Y 2) hv
  · exact m4
set_option maxHeartbeats 16000000 in
theorem held_law [E.Bits] {W : World} {cs : Array Value} {X R : Nat → Int} {pc mode sec : Int} {vi vw vp : Value} (hG : Looks cs X R pc mode sec vi vw vp) (hz : SZ W) (h1 : 1 < W.heap.size) (hT : ∀ p : Pl, p.o1 = W.heap[1]? → TransOK p TB) (v : Int) (hv : C.U v) (bk : Bool) :
    Calls Tryz.prog 7 #[.agg cs, .int .u64 v, .bool bk] W fun e W' => e = .returned (.bool true) ∧ Below W.heap.size W W' := by
  obtain ⟨fs31, hu31⟩ := und31
  obtain ⟨fs25, hu25⟩ := und25
  have HXU : Hid (∀ n, n < 16 → C.U (X n)) := hG.hX
  have BO := held_both W hz X v 60
  unfold ins3 at BO
  obtain ⟨hb0, n0, _⟩ := two_at W (.cells (heldC X v (W.heap.size + 1)) 31) (.cells ins3 60)
  unfold ins3 at hb0 n0
  rw [given_lit hG]
  have HZ : Hid (_) := hz
  have HT : Hid (_) := hT
  have HA : Hid (_) := n0
  have HB0 : Hid (_) := hb0
  have HV : Hid (C.U v) := hv
  clear hG hz hT n0 hb0 hv
  unfold stCells
  go_enter Tryz.func7, Tryz.ntmps7
  go_wp2_with (first
    | refine wpList_load_row rfl 31 _ rfl W.heap.size rfl 31 _ (0, 0) _ HA.out hu31 rfl inf31 ?_
    | fail)
  refine BO.mono ?_
  rintro e x1 ⟨b, g, c, h, F, G, B, Q, rfl, md⟩
  have hA1 := keepB HA.out md.bl
  have H1 : Hid (Below W.heap.size W x1) := HB0.out.trans (md.bl.mono (by simp; omega))
  have HMD : Hid (_) := md
  have hl1 := lt_of_heap hA1
  have hrg : Hid (x1.rangeAt W.heap.size 0 (regC (heldX X v) 0 1).toList) := held_regs hA1
  have rr1 := reg_one (heldX X v) 0 1
  clear BO md hA1 HA HB0
  go_wp2_with (first
    | refine wpList_load_mid rfl 25 _ rfl W.heap.size 0 rfl _ _ hrg.out hu25 rfl inf25 ?_
    | (refine wpList_store_row rfl 25 _ _ rfl x1.heap.size (regC (heldX X v) 0 1) rfl rfl 25 _ (C.heap_alloc_at x1 _) inf25 rfl rr1 ?_
       have nr := fun old => new_row x1 old (regC (heldX X v) 0 1) 25
       generalize hy1 : World.setRow _ _ _ = y2
       obtain ⟨n1, n2, n3⟩ : y2.heap[x1.heap.size]? = some (.cells (regC (heldX X v) 0 1) 25 (0, 0)) ∧ Below x1.heap.size x1 y2 ∧ y2.heap.size = x1.heap.size + 1 := by rw [← hy1]; exact nr _
       have M1 : Hid (y2.heap[x1.heap.size]? = some (.cells (regC (heldX X v) 0 1) 25 (0, 0))) := n1
       have M3 : Hid (Below x1.heap.size x1 y2) := n2
       clear nr hy1 n1 n2)
    | fail)
  have md := HMD.out
  have hs1 := H1.out.size
  obtain ⟨u0, u1⟩ := md.o0
  simp only [World.size_alloc] at u0 u1
  obtain ⟨u2, u3, u4, u5⟩ := md.o1
  obtain ⟨u6, u7⟩ := md.o2
  have u8 := md.o3
  obtain ⟨u9, u10, u11⟩ := md.o4
  have e1 : x1.heap[1]? = W.heap[1]? := H1.out.block 1 h1
  have hXU : ∀ n, n < 16 → C.U (heldX X v n) := fun n hn => by
    unfold heldX
    split
    · exact ⟨by decide, by decide⟩
    · split
      · exact HV.out
      · exact HXU.out n hn
  have ow1 := made_ow md (by simp <;> omega) (HZ.out.below H1.out) (zeroX (heldX X v)) (zero_U hXU) rfl 0 1 ⟨by decide, by decide⟩ (.inr rfl) (by decide)
  rw [e1] at ow1
  have lts := ow1.lt
  have ow2 := ow1.below M3.out
  obtain ⟨p, hp⟩ : ∃ p : Pl, (⟨0, F, B, b, g, W.heap[1]?⟩ : Pl) = p := ⟨_, rfl⟩
  have hpF : p.F = F := by rw [← hp]
  have hpB : p.B = B := by rw [← hp]
  have hpM : p.M = b := by rw [← hp]
  have hpg : p.g = g := by rw [← hp]
  have hpo : p.o1 = W.heap[1]? := by rw [← hp]
  rw [hp] at ow2 lts
  obtain ⟨r, hr⟩ : ∃ r, x1.heap.size = r := ⟨_, rfl⟩
  have hOr : Ow.Off p x1.heap.size := ⟨by omega, by omega, by omega, by omega, by omega⟩
  obtain ⟨Y, hYd⟩ : ∃ Y, zeroX (heldX X v) = Y := ⟨_, rfl⟩
  have hY1 : Y 1 = 512 := by rw [← hYd]; rfl
  have hY2 : Y 2 = v := by rw [← hYd]; rfl
  have hyU : C.U (Y 2) := by rw [hY2]; exact HV.out
  have E0 : Hid (HL W y2 p r Y 0 bk) := by
    refine ⟨?_, ⟨heldX X v, hr ▸ M1.out, fun n h0 hn => ?_⟩, H1.out.trans (M3.out.mono hs1)⟩
    · rw [← hYd]; exact ow2
    · rw [← hYd]
      show heldX X v n = zeroX (heldX X v) n
      unfold zeroX
      rw [if_neg (by omega)]
  have HTp : Hid (∀ q : Pl, q.o1 = p.o1 → TransOK q TB) := fun q hq => HT.out q (hq.trans hpo)
  have hOr' : Hid (Ow.Off p r) := hr ▸ hOr
  have HN : Hid (W.heap.size ≤ r ∧ W.heap.size ≤ p.F ∧ W.heap.size ≤ p.B ∧ W.heap.size ≤ p.g) := ⟨by omega, by omega, by omega, by omega⟩
  have rB : ¬ r = B := by have := hOr.B; omega
  have HE := held_end (Y := Y) (bk := bk) hyU
  rw [hY2] at HE
  clear ow1 ow2 md M1 M3 HMD hrg rr1 HZ HT lts hp e1 HXU hXU u0 u1 u2 u3 u4 u5 u6 u7 u8 u9 u10 u11 hOr hYd hpo n3
  rw [hr]
  clear hr hl1 hs1
  obtain ⟨fs41, hu41⟩ := und41
  have EN := eq_none
  go_wp2_with fail
  go_loopw [13] (fun q wr => ∃ j : Nat, j ≤ 3 ∧ q = .int .i64 j ∧ Hid (HL W wr p r Y j bk)) (fun q _ => 3 - (intOf q).toNat)
  case atStart => exact ⟨0, by omega, rfl, E0⟩
  case round =>
    obtain ⟨j, hj, rfl, HS⟩ := hrel
    clear E0
    by_cases hj3 : j < 3
    · have hj3' : (j : Int) < 3 := by omega
      by_cases hj1 : j = 1
      · subst hj1
        cases bk
        · have ST := held_next HTp.out hOr'.out HN.out.1 HN.out.2.1 HN.out.2.2.1 HN.out.2.2.2 hY1 (by omega) HS.out (fun _ => rfl)
          rw [hpF, hpB] at ST
          go_wp2_with fail
          refine ST.mono ?_
          rintro e w3 ⟨rfl, h3⟩
          have k3 := range_of (C.heap_alloc_at w3 (.cells #[.int .i64 0, .int .i64 0, .int .u64 0, .int .u64 0, .bool false, .bool false] 41))
          have H4 : Hid (∀ o, HL W (w3.alloc o) p r Y (1 + 1) false) := fun o => h3.below ((Below.refl _ _).alloc (Nat.le_refl _) o)
          clear ST h3 HS
          dsimp only [Rs.val, resV, Rs.ok]
          go_wp2_with (first
            | refine wpList_load_at rfl 41 _ rfl _ 0 rfl _ _ k3 hu41 rfl inf41 ?_
            | refine wpList_neq_agg rfl 41 _ _ rfl _ _ rfl rfl Tryz.eqGuardType41 true (EN _) ?_
            | fail)
          go_roundw
          case rel => exact ⟨1 + 1, by omega, by go_num, H4.out _⟩
          case measure => simp [intOf]
        · have fl := HS.out.1.fl
          rw [hpB] at fl
          have c2 : wr.cell? ⟨B, 2, none⟩ = some (.bool true) := by rw [C.cell_at fl]; rfl
          have f2 : wr.frozen? ⟨B, 2, none⟩ = false := by simp [World.frozen?, fl]
          have lB := lt_of_heap fl
          clear fl
          have ST := held_brk HTp.out hOr'.out HN.out.1 HN.out.2.1 HN.out.2.2.1 HN.out.2.2.2 hY1 HS.out
          rw [hpF, hpB] at ST
          go_wp2_with fail
          refine ST.mono ?_
          rintro e w3 ⟨rfl, h3⟩
          have k3 := range_of (C.heap_alloc_at w3 (.cells #[.int .i64 0, .int .i64 0, .int .u64 0, .int .u64 0, .bool false, .bool false] 41))
          have H4 : Hid (∀ o, HL W (w3.alloc o) p r Y (1 + 1) true) := fun o => h3.below ((Below.refl _ _).alloc (Nat.le_refl _) o)
          clear ST h3 HS
          dsimp only [Rs.val, resV, Rs.ok]
          go_wp2_with (first
            | refine wpList_load_at rfl 41 _ rfl _ 0 rfl _ _ k3 hu41 rfl inf41 ?_
            | refine wpList_neq_agg rfl 41 _ _ rfl _ _ rfl rfl Tryz.eqGuardType41 true (EN _) ?_
            | fail)
          go_roundw
          case rel => exact ⟨1 + 1, by omega, by go_num, H4.out _⟩
          case measure => simp [intOf]
      · have hj1' : ¬ ((j : Int) = 1) := by omega
        have ST := held_next HTp.out hOr'.out HN.out.1 HN.out.2.1 HN.out.2.2.1 HN.out.2.2.2 hY1 hj3 HS.out (fun h => absurd h hj1)
        rw [hpF, hpB] at ST
        go_wp2_with fail
        refine ST.mono ?_
        rintro e w3 ⟨rfl, h3⟩
        have k3 := range_of (C.heap_alloc_at w3 (.cells #[.int .i64 0, .int .i64 0, .int .u64 0, .int .u64 0, .bool false, .bool false] 41))
        have H4 : Hid (∀ o, HL W (w3.alloc o) p r Y (j + 1) bk) := fun o => h3.below ((Below.refl _ _).alloc (Nat.le_refl _) o)
        clear ST h3 HS
        dsimp only [Rs.val, resV, Rs.ok]
        go_wp2_with (first
          | refine wpList_load_at rfl 41 _ rfl _ 0 rfl _ _ k3 hu41 rfl inf41 ?_
          | refine wpList_neq_agg rfl 41 _ _ rfl _ _ rfl rfl Tryz.eqGuardType41 true (EN _) ?_
          | fail)
        go_roundw
        case rel => exact ⟨j + 1, by omega, by go_num, H4.out _⟩
        case measure => simp [intOf]; omega
    · obtain rfl : j = 3 := by omega
      obtain ⟨ow, ⟨X0, hr, hx⟩, hw⟩ := HS.out
      have x4 : X0 4 = if bk then 1 else 0 := (hx 4 (by decide) (by decide)).trans HE.1
      have x5 : X0 5 = 1 := (hx 5 (by decide) (by decide)).trans HE.2.1
      have fl := ow.fl
      rw [hpB, hpM] at fl
      have cB : wr.cell? ⟨B, 0, none⟩ = some (.pointer (some ⟨b, 0, none⟩)) := by rw [C.cell_at fl]; rfl
      have lB := lt_of_heap fl
      have ML := mload_mm p.M p.g _ 512 8 wr ow.sz ow.mm (by decide) (by decide) (by decide)
      rw [hpM] at ML
      have hl8 : loadV (hS Y 3 bk).zs 512 8 = if bk then 0 else v := by
        show loadV (hZ (Y 2) 3 bk) 512 8 = _
        rw [hY2]
        exact HE.2.2
      rw [hl8] at ML
      have HR : Hid (wr.heap[r]? = some (.cells (regC X0 (4 * ((3 : Nat) : Int)) 1) 25 (0, 0))) := hr
      have HW : Hid (Below W.heap.size W wr) := hw
      have lr := lt_of_heap hr
      clear HS ow hx hw fl hr hl8
      cases bk
      · simp only [Bool.false_eq_true, if_false] at ML x4
        go_wp2_with fail
        refine ML.mono ?_
        rintro e w5 ⟨rfl, b5⟩
        have r5 := keepB HR.out b5
        have k4 : w5.cell? ⟨r, 4, none⟩ = some (.int .u64 0) := by rw [C.cell_at r5]; show some (Value.int .u64 (X0 4)) = _; rw [x4]
        have k5 : w5.cell? ⟨r, 5, none⟩ = some (.int .u64 1) := by rw [C.cell_at r5]; show some (Value.int .u64 (X0 5)) = _; rw [x5]
        have l5 := lt_of_heap r5
        have H5 : Hid (Below W.heap.size W w5) := HW.out.trans (b5.mono HW.out.size)
        clear ML b5 r5
        go_wp2_with fail
        go_ret
        exact ⟨rfl, H5.out⟩
      · simp only [if_true] at ML x4
        go_wp2_with fail
        refine ML.mono ?_
        rintro e w5 ⟨rfl, b5⟩
        have r5 := keepB HR.out b5
        have k4 : w5.cell? ⟨r, 4, none⟩ = some (.int .u64 1) := by rw [C.cell_at r5]; show some (Value.int .u64 (X0 4)) = _; rw [x4]
        have k5 : w5.cell? ⟨r, 5, none⟩ = some (.int .u64 1) := by rw [C.cell_at r5]; show some (Value.int .u64 (X0 5)) = _; rw [x5]
        have l5 := lt_of_heap r5
        have H5 : Hid (Below W.heap.size W w5) := HW.out.trans (b5.mono HW.out.size)
        clear ML b5 r5
        go_wp2_with fail
        go_ret
        exact ⟨rfl, H5.out⟩
end Go.Proofs.YtghpkbgfpagpgaaGreatDoor
