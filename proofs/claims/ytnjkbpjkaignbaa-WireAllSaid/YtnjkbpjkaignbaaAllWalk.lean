/-
  The walk of WireAll.
-/
import Derived.Test.YtnjkbpjkaignbaaSn
import Derived.Test.YtnjkbpjkaignbaaNw
import Derived.Test.YtnjkbpjkaignbaaOpens
import Derived.Test.YtnjkbpjkaignbaaAp
namespace Go.Proofs.Ytnjkbpjkaignbaa
open Go.RowKit
set_option linter.unusedVariables false
set_option maxRecDepth 20000
theorem SL.head' {w : World} {a : Option Addr} {len : Nat} {zs : List Int} (h : SL w a len zs) {k : Nat} (hk : k ≤ len) : SL w a k (zs.take k) := by
  obtain ⟨h1, h2, h3⟩ := h
  refine ⟨by simp; omega, by have := bytes_mid h2 0 k; simpa using this, ?_⟩
  rcases h3 with h3 | ⟨b, off, rfl, hlt, hc⟩
  · exact .inl (by omega)
  · refine .inr ⟨b, off, rfl, hlt, fun i hi => ?_⟩
    rw [hc i (by omega)]
    simp [List.getD, hi]
/-- whom from is taken for -/
theorem who (f : Int) (n : Nat) (hn : 1 ≤ n) : ∃ i : Nat, i < n ∧ (f.tmod (n : Int) + (n : Int)).tmod (n : Int) = (i : Int) ∧ -(n : Int) < f.tmod (n : Int) ∧ f.tmod (n : Int) < (n : Int) := by
  have h1 : -(n : Int) < f.tmod (n : Int) := by
    have h := Int.tmod_lt_of_pos (-f) (show (0 : Int) < n by omega)
    rw [Int.neg_tmod] at h
    omega
  have h2 := Int.tmod_lt_of_pos f (show (0 : Int) < n by omega)
  have h3 : 0 ≤ (f.tmod (n : Int) + (n : Int)).tmod (n : Int) := Int.tmod_nonneg _ (by omega)
  have h4 := Int.tmod_lt_of_pos (f.tmod (n : Int) + (n : Int)) (show (0 : Int) < n by omega)
  obtain ⟨i, hi⟩ := Int.eq_ofNat_of_zero_le h3
  exact ⟨i, by omega, hi, h1, h2⟩
theorem send_len {B : Nat} {w : World} {l b n : Nat} {C : Nat → Nat} {Gr : Nat → Int} {A : Nat → List (Int × List Int)} {N : Nat → Prop} (h : WX B w l b n C Gr A N) (fr to : Int) (a : Option Addr) (m c : Nat) (bs : List Int) (hs : SL w a m bs) :
    Calls Try.prog 10 #[.pointer (some ⟨l, 0, none⟩), .int .i64 fr, .int .i64 to, .slice a m c] w fun e w' => e = .returned (.tuple #[.int .i64 (sndR n Gr A fr to bs.length).1, .int .i64 (sndR n Gr A fr to bs.length).2]) ∧ WX B w' l b n C Gr (sndA n Gr A fr to bs) N ∧ Trn (WS b n C) w w' := by
  have e := hs.1
  subst e
  exact send_any h fr to a c bs hs
/-- what waits when the ports below k have been asked -/
def restA (G : Nat → Int) (i n : Nat) (bs : List Int) (k : Nat) : Nat → List (Int × List Int) := fun p => if p < k then [] else allA G (fun _ => []) i bs n p
theorem restA_zero (G : Nat → Int) (i n : Nat) (bs : List Int) : restA G i n bs 0 = allA G (fun _ => []) i bs n := by funext p; simp [restA]
theorem restA_yes (G : Nat → Int) (i n : Nat) (bs : List Int) (k : Nat) (hk : k < n) (h : i ≠ k ∧ G i = G k) : restA G i n bs k k = [((i : Int), bs)] ∧ upd (restA G i n bs k) k [] = restA G i n bs (k + 1) := by
  refine ⟨by simp [restA, allA, hk, h.1, h.2, addA], ?_⟩
  funext p
  by_cases hp : p = k
  · subst hp; rw [upd_self]; simp [restA]
  · rw [upd_other _ _ _ hp]
    by_cases hlt : p < k
    · have : p < k + 1 := by omega
      simp [restA, hlt, this]
    · have : ¬ p < k + 1 := by omega
      simp [restA, hlt, this]
theorem restA_no (G : Nat → Int) (i n : Nat) (bs : List Int) (k : Nat) (h : ¬ (i ≠ k ∧ G i = G k)) : restA G i n bs k k = [] ∧ restA G i n bs k = restA G i n bs (k + 1) := by
  have h0 : allA G (fun _ => []) i bs n k = [] := by
    simp only [allA]
    rw [if_neg (fun hh => h hh.2)]
  refine ⟨by simp [restA, h0], ?_⟩
  funext p
  by_cases hp : p = k
  · subst hp; simp [restA, h0]
  · by_cases hlt : p < k
    · have : p < k + 1 := by omega
      simp [restA, hlt, this]
    · have : ¬ p < k + 1 := by omega
      simp [restA, hlt, this]
theorem restA_past (G : Nat → Int) (i n : Nat) (bs : List Int) (k : Nat) : restA G i n bs (k + 1) k = [] := by simp [restA]
theorem allN_yes (G : Nat → Int) (i k : Nat) (h : i ≠ k ∧ G i = G k) : allN G (fun _ => []) i (k + 1) = allN G (fun _ => []) i k + 1 := by simp [allN, h.1, h.2]
theorem allN_no (G : Nat → Int) (A : Nat → List (Int × List Int)) (i k : Nat) (h : ¬ (i ≠ k ∧ G i = G k)) : allN G A i (k + 1) = allN G A i k := by
  show allN G A i k + (if (i ≠ k ∧ G i = G k) ∧ (A k).length < 16 then 1 else 0) = _
  rw [if_neg (fun hh => h hh.1), Nat.add_zero]
theorem all_no {n : Nat} {G : Nat → Int} {A : Nat → List (Int × List Int)} {i : Nat} (hi : i < n) (bs : List Int) (hm : bs.length ≤ 2048) (hg : G i < 0) : sndR n G A i (-1) bs.length = (0, 14) ∧ sndA n G A i (-1) bs = A := by
  have h1 : ¬ ((i : Int) < 0 ∨ (n : Int) ≤ (i : Int)) := by omega
  have h2 : ¬ (n : Int) ≤ -1 := by omega
  have h3 : ¬ 2048 < bs.length := by omega
  have e : mayE n G i (-1) bs.length = 14 := by simp [mayE, h2, h3, hg]
  simp only [sndR, sndA, if_neg h1, Int.toNat_natCast, e]
  simp
theorem all_yes {n : Nat} {G : Nat → Int} {A : Nat → List (Int × List Int)} {i : Nat} (hi : i < n) (bs : List Int) (hm : bs.length ≤ 2048) (hg : ¬ G i < 0) : sndR n G A i (-1) bs.length = ((allN G A i n : Int), 0) ∧ sndA n G A i (-1) bs = allA G A i bs n := by
  have h1 : ¬ ((i : Int) < 0 ∨ (n : Int) ≤ (i : Int)) := by omega
  have h2 : ¬ (n : Int) ≤ -1 := by omega
  have h3 : ¬ 2048 < bs.length := by omega
  have e : mayE n G i (-1) bs.length = 0 := by simp [mayE, h2, h3, hg]
  simp only [sndR, sndA, if_neg h1, Int.toNat_natCast, e]
  simp
namespace wireAll
/-- between two rounds -/
structure LS (w wr : World) (l b n : Nat) (C : Nat → Nat) (G : Nat → Int) (i : Nat) (bs : List Int) (k : Nat) : Prop where
  x : WX w.heap.size wr l b n C G (restA G i n bs k) (fun _ => False)
  bel : Below w.heap.size w wr
set_option maxHeartbeats 4000000 in
theorem walk (ga : Option Addr) (n gc : Nat) (zs : List Int) (f : Int) (a : Option Addr) (len cp : Nat) (ys : List Int) (w : World) (hG : Nu w ga n zs) (hS : SL w a len ys) (hnil : a = none → len = 0 ∧ cp = 0) (hcp : len ≤ cp) (hn : n < 9223372036854775808) (hlen : len < 9223372036854775808) (hcm : cp < 9223372036854775808) :
    Calls Try.prog 6 #[.slice ga n gc, .int .i64 f, .slice a len cp] w fun e w' => e = .returned (.bool true) ∧ Below w.heap.size w w' := by
  by_cases hN : n < 1 ∨ 32 < n
  · have NB := fun w => new_bad ga n gc hN w
    have HB : Hid (Below w.heap.size w w) := Below.refl _ _
    have tn : (n : Int) < 1 ∨ (32 : Int) < (n : Int) := by omega
    by_cases hb : 2048 < len
    · have hb' : (2048 : Int) < (len : Int) := by omega
      obtain ⟨ad, rfl⟩ : ∃ ad, a = some ad := by
        cases a with
        | none => have := (hnil rfl).1; omega
        | some ad => exact ⟨ad, rfl⟩
      rcases tn with tn | tn
      all_goals
        go_enter Try.func6, Try.ntmps6
        go_wp2_with fail
        refine (NB _).mono ?_
        rintro e w ⟨rfl, rfl⟩
        go_wp2_with fail
        go_ret
        exact ⟨rfl, HB.out⟩
    · have hb' : ¬ (2048 : Int) < (len : Int) := by omega
      rcases tn with tn | tn
      all_goals
        go_enter Try.func6, Try.ntmps6
        go_wp2_with fail
        refine (NB _).mono ?_
        rintro e w ⟨rfl, rfl⟩
        go_wp2_with fail
        go_ret
        exact ⟨rfl, HB.out⟩
  have hn1 : 1 ≤ n := by omega
  have hn32 : n ≤ 32 := by omega
  have t1 : ¬ (n : Int) < 1 := by omega
  have t2 : ¬ (32 : Int) < (n : Int) := by omega
  have t3 : ¬ (n : Int) = 0 := by omega
  obtain ⟨i, hi, ei, b1, b2⟩ := who f n hn1
  have NW := new_ok ga n gc zs hn1 hn32 w hG w.heap.size (Nat.le_refl _)
  have HG : Hid (Nu w ga n zs) := hG
  clear hG hN
  have hi' : (i : Int) < (n : Int) := by omega
  by_cases hb : 2048 < len
  case' pos =>
    have hb' : (2048 : Int) < (len : Int) := by omega
    obtain ⟨ad, rfl⟩ : ∃ ad, a = some ad := by
      cases a with
      | none => have := (hnil rfl).1; omega
      | some ad => exact ⟨ad, rfl⟩
    obtain ⟨bs, hs⟩ : ∃ bs, Hid (SL w (some ad) 2048 bs) := ⟨_, hS.head' (by omega)⟩
    have hm : (2048 : Nat) ≤ 2048 := Nat.le_refl _
    clear hS hnil
  case' neg =>
    have hb' : ¬ (2048 : Int) < (len : Int) := by omega
    obtain ⟨bs, hs⟩ : ∃ bs, Hid (SL w a len bs) := ⟨_, hS⟩
    have hm : len ≤ 2048 := by omega
    clear hS hnil
  all_goals
    have hbl : bs.length ≤ 2048 := by rw [hs.out.1]; exact hm
    go_enter Try.func6, Try.ntmps6
    go_wp2_with fail
    refine NW.mono ?_
    rintro e w1 ⟨l, b, C, rfl, hX, hbel, hl⟩
    clear NW hl
    have SN := send_len hX (i : Int) (-1) _ _ cp bs (hs.out.below hbel)
    have HX : Hid (WX w.heap.size w1 l b n C (fun i => zs.getD i 0) (fun _ => []) (fun _ => False) ∧ Below w.heap.size w w1) := ⟨hX, hbel⟩
    clear hX hbel
    obtain ⟨gb, goff, rfl, hgb, hgi⟩ := HG.out.at hi
    by_cases hg : zs.getD i 0 < 0
    · obtain ⟨r1, r2⟩ := all_no (n := n) (G := fun i => zs.getD i 0) (A := fun _ => []) hi bs hbl hg
      rw [r1, r2] at SN
      clear r1 r2
      go_wp2_with fail
      refine SN.mono ?_
      rintro e w2 ⟨rfl, x2, t2⟩
      have HB : Hid (Below w.heap.size w w2) := HX.out.2.trans (HX.out.1.to t2)
      have c0 := ((bcell HB.out).1 _ _ hgb).trans hgi
      have hgb2 : gb < w2.heap.size := Nat.lt_of_lt_of_le hgb HB.out.size
      clear SN x2 t2 HX hgi
      generalize zs.getD i 0 = z at *
      go_wp2_with fail
      go_ret
      exact ⟨rfl, HB.out⟩
    · obtain ⟨r1, r2⟩ := all_yes (n := n) (G := fun i => zs.getD i 0) (A := fun _ => []) hi bs hbl hg
      rw [r1, r2, ← restA_zero] at SN
      clear r1 r2
      obtain ⟨G, hG⟩ : ∃ G : Nat → Int, G = fun i => zs.getD i 0 := ⟨_, rfl⟩
      have HGG : Hid (∀ k, k < n → w.cell? ⟨gb, goff + k, none⟩ = some (.int .i64 (G k))) := fun k hk => by
        rcases HG.out with h0 | ⟨gb', goff', e', _, hc⟩
        · omega
        · cases e'
          rw [hG]
          exact hc k hk
      rw [← hG] at SN HX
      have hgi' : w.cell? ⟨gb, goff + i, none⟩ = some (.int .i64 (G i)) := HGG.out i hi
      have hg' : ¬ G i < 0 := by rw [hG]; exact hg
      clear hG HG hgi hg
      go_wp2_with fail
      refine SN.mono ?_
      rintro e w2 ⟨rfl, x2, t2⟩
      have HB : Hid (Below w.heap.size w w2) := HX.out.2.trans (HX.out.1.to t2)
      have E0 : Hid (LS w w2 l b n C G i bs 0) := ⟨x2, HB.out⟩
      have c0 := ((bcell HB.out).1 _ _ hgb).trans hgi'
      have hgb2 : gb < w2.heap.size := Nat.lt_of_lt_of_le hgb HB.out.size
      clear SN x2 t2 HX hgi' HB
      go_wp2_with fail
      clear c0 hgb2
      go_loopw [12, 13] (fun q u wr => ∃ k : Nat, k ≤ n ∧ q = .int .i64 (allN G (fun _ => []) i k) ∧ u = .int .i64 k ∧ Hid (LS w wr l b n C G i bs k)) (fun _ u _ => n - (intOf u).toNat)
      case atStart => exact ⟨0, by omega, rfl, rfl, E0⟩
      case round =>
        obtain ⟨k, hk, rfl, rfl, HL⟩ := hrel
        clear E0
        by_cases hkn : k < n
        · have hkn' : (k : Int) < (n : Int) := by omega
          have hle := allN_le G (fun _ => []) i k
          have ck := ((bcell HL.out.bel).1 _ _ hgb).trans (HGG.out k hkn)
          have ci := ((bcell HL.out.bel).1 _ _ hgb).trans (HGG.out i hi)
          have gl : gb < wr.heap.size := Nat.lt_of_lt_of_le hgb HL.out.bel.size
          by_cases hh : i ≠ k ∧ G i = G k
          · obtain ⟨rr, ru⟩ := restA_yes G i n bs k hkn hh
            have eN := allN_yes G i k hh
            have HR : Hid (restA G i n bs k k = [((i : Int), bs)] ∧ upd (restA G i n bs k) k [] = restA G i n bs (k + 1)) := ⟨rr, ru⟩
            have e1 : ((k : Int) != (i : Int)) = true := by have := hh.1; simp; omega
            have e2 : ¬ ((k : Int) = (i : Int)) := by have := hh.1; omega
            rw [← hh.2] at ck
            clear rr ru hh
            generalize G i = z at ck ci
            go_wp2_with fail
            go_quiet (fail)
            have hx0 : WX w.heap.size (wr.drewN nq) l b n C G (restA G i n bs k) (fun _ => False) := HL.out.x.drewN nq
            have RC := xreceive_some hx0 hkn (i : Int) bs [] HR.out.1
            have HL0 : Hid (WX w.heap.size (wr.drewN nq) l b n C G (restA G i n bs k) (fun _ => False) ∧ Below w.heap.size w (wr.drewN nq)) := ⟨hx0, HL.out.bel.os, HL.out.bel.tape, HL.out.bel.output, HL.out.bel.size, HL.out.bel.block⟩
            clear hx0 ck ci gl HL
            go_wp2_with fail
            refine RC.mono ?_
            rintro e y1 ⟨X, rfl, x1, t1, hX, _, _, _, hB⟩
            have hb1 := HL0.out.2.trans (HL0.out.1.to t1)
            rw [HR.out.2] at x1
            have HF : Hid (∀ o, LS w (y1.alloc o) l b n C G i bs (k + 1)) := fun o => ⟨(x1.less (N' := fun _ => False) fun k hk => hk.elim).below ((Below.refl _ _).alloc (Nat.le_refl _) _), hb1.trans (((Below.refl _ y1).alloc (Nat.le_refl _) o).mono hb1.size)⟩
            have cv1 := fun o => conv_sl bs.length ((sl_row hX hB).below ((Below.refl _ y1).alloc (Nat.le_refl _) o))
            have cv2 := fun o => conv_sl cp ((hs.out.below hb1).below ((Below.refl _ y1).alloc (Nat.le_refl _) o))
            clear RC x1 t1 hX hB hb1 HL0 HR
            generalize strOfNums bs = st at *
            go_wp2_with fail
            refine Calls.mono (xwaiting (HF.out _).x hkn) ?_
            rintro e y2 ⟨rfl, rfl⟩
            rw [restA_past]
            clear cv1 cv2
            go_wp2_with fail
            go_roundw
            case rel => exact ⟨k + 1, by omega, by rw [eN]; go_num, by go_num, HF.out _⟩
            case measure => simp [intOf]; omega
          · obtain ⟨rr, ru⟩ := restA_no G i n bs k hh
            have eN := allN_no G (fun _ => []) i k hh
            have HR : Hid (restA G i n bs k k = [] ∧ restA G i n bs k = restA G i n bs (k + 1)) := ⟨rr, ru⟩
            obtain ⟨t, ht, hw⟩ : ∃ t : Bool, ((k : Int) != (i : Int)) = t ∧ (t = true → ¬ G k = G i) := ⟨_, rfl, fun h e => hh ⟨by simp at h; omega, e.symm⟩⟩
            clear rr ru hh
            cases t
            case' false => have e2 : (k : Int) = (i : Int) := by simpa using ht
            case' true =>
              have e2 : ¬ (k : Int) = (i : Int) := by simpa using ht
              have e3 := hw rfl
            all_goals
              clear hw
              generalize G k = z1 at *
              generalize G i = z2 at *
              go_wp2_with fail
              go_quiet (fail)
              have hx0 : WX w.heap.size (wr.drewN nq) l b n C G (restA G i n bs k) (fun _ => False) := HL.out.x.drewN nq
              have RC := xreceive_none hx0 hkn HR.out.1
              have HL0 : Hid (WX w.heap.size (wr.drewN nq) l b n C G (restA G i n bs k) (fun _ => False) ∧ Below w.heap.size w (wr.drewN nq)) := ⟨hx0, HL.out.bel.os, HL.out.bel.tape, HL.out.bel.output, HL.out.bel.size, HL.out.bel.block⟩
              clear hx0 ck ci gl HL e2 ht
              go_wp2_with fail
              refine RC.mono ?_
              rintro e y1 ⟨rfl, hb⟩
              have hb1 := HL0.out.2.trans (hb.mono HL0.out.2.size)
              have HF : Hid (∀ o, LS w (y1.alloc o) l b n C G i bs (k + 1)) := fun o => by
                have ho := (Below.refl y1.heap.size y1).alloc (Nat.le_refl _) o
                refine ⟨?_, hb1.trans (ho.mono hb1.size)⟩
                rw [← HR.out.2]
                exact (HL0.out.1.below hb).below ho
              clear RC hb hb1 HL0 HR
              dsimp only [z42]
              go_wp2_with fail
              refine Calls.mono (xwaiting (HF.out _).x hkn) ?_
              rintro e y2 ⟨rfl, rfl⟩
              rw [restA_past]
              go_wp2_with fail
              go_roundw
              case rel => exact ⟨k + 1, by omega, by rw [eN], by go_num, HF.out _⟩
              case measure => simp [intOf]; omega
        · obtain rfl : n = k := by omega
          go_wp2_with fail
          go_ret
          exact ⟨rfl, HL.out.bel⟩
end wireAll
end Go.Proofs.Ytnjkbpjkaignbaa
