/-
  What Clear of a memory does: its contract.
-/
import Derived.Test.YteghkhdpdeiocaaDoorMem4
namespace Go.Proofs.YteghkhdpdeiocaaDoor
open Go.RowKit
set_option linter.unusedVariables false
set_option maxRecDepth 100000

theorem frames_any (p : Value) (a : Option Addr) (n c : Nat) (w : World) (hn : n ≤ 16777216) (h : HV w p (.slice a n c)) : Calls Tryd.prog 30 #[p] w fun e w' => e = .returned (.int .i64 (n / 256 : Int)) ∧ w' = w := by
  go_enter Tryd.func30, Tryd.ntmps30
  go_wp2_with fail
  refine (held_any _ _ _ h).mono ?_
  rintro e w1 ⟨rfl, rfl⟩
  go_wp2_with fail
  go_ret
  exact ⟨ret_int (by simp), rfl⟩
theorem zero_cells (n : Nat) : (Builtin.zeroCells (Value.int .u8 0).cells n).toList = (List.replicate n (0 : Int)).map (Value.int .u8) := by
  apply List.ext_getElem (by simp [Builtin.zeroCells, Value.cells])
  intro i h1 h2
  simp [Builtin.zeroCells, Value.cells, Nat.mod_one]
/-- clear of a slice of bytes -/
theorem run_clear_sl {w : World} (ty : TypeId) (g off n c : Nat) (xs : List Int) (hg : w.heap[g]? = some (.cells (xs.map (Value.int .u8)).toArray 5 (0, 0))) (hn : 0 < n) (hfit : off + n ≤ xs.length) :
    ∃ w', (Builtin.clear_ #[94] ty #[.slice (some ⟨g, off, none⟩) n c]).run Tryd.prog w = .ok (.tuple #[]) w' ∧ w'.heap[g]? = some (.cells ((splice xs off (List.replicate n 0)).map (Value.int .u8)).toArray 5 (0, 0)) ∧ w.grownBy w' (some g) := by
  obtain ⟨i0, hi, hz0, hz1, hz2⟩ := info_parts Tryd.info5
  obtain ⟨m, rfl⟩ : ∃ m, n = m + 1 := ⟨n - 1, by omega⟩
  have hz : (zeroValue 5).run Tryd.prog w = .ok (.int .u8 0) w := by kernel_rfl
  have hlen : ((List.replicate (m + 1) (0 : Int)).map (Value.int .u8)).length = m + 1 := by simp
  have hone : ∀ v ∈ (List.replicate (m + 1) (0 : Int)).map (Value.int .u8), v.oneCell' = true := by intro v hv; obtain ⟨z, _, rfl⟩ := List.mem_map.1 hv; rfl
  have hzc := zero_cells (m + 1)
  have hfin : (splice xs off (List.replicate (m + 1) 0)).map (Value.int .u8) = (xs.map (Value.int .u8)).take off ++ (List.replicate (m + 1) (0 : Int)).map (Value.int .u8) ++ (xs.map (Value.int .u8)).drop (off + (m + 1)) := by
    simp only [splice, List.map_append, List.map_take, List.map_drop, List.length_replicate, List.append_assoc]
  rw [hfin]
  generalize (List.replicate (m + 1) (0 : Int)).map (Value.int .u8) = L at *
  have hst := run_storeCells_at Tryd.prog g off 5 L 0 _ w hg (by simp [hlen]; omega) hone
  refine ⟨w.setRow g ((xs.map (Value.int .u8)).take off ++ L ++ (xs.map (Value.int .u8)).drop (off + (m + 1))).toArray, ?_, ?_, ?_⟩
  · rw [hlen, Nat.add_zero] at hst
    simp [Builtin.clear_, run_underlying Tryd.underlying94, hz, hzc, hst]
  · rw [setRow_heap w g _ _ 5 _ hg]
  · exact ⟨rfl, rfl, rfl, by simp [World.setRow], fun k hk hne => setRow_other w g k _ (fun e => hne (by rw [e]))⟩
def clrE (len : Nat) (f : Int) : Int := if 0 ≤ f ∧ f < (len : Int) / 256 then 0 else 12
def clearV (zs : List Int) (f : Int) : List Int := if 0 ≤ f ∧ f < (zs.length : Int) / 256 then splice zs (f.toNat * 256) (List.replicate 256 0) else zs
theorem mclear_nobody (p : Value) (f : Int) (w : World) (h : HV w p (.slice none 0 0)) :
    Calls Tryd.prog 65 #[p, .int .i64 f] w fun e w' => e = .returned (.int .i64 1) ∧ w' = w := by
  go_enter Tryd.func65, Tryd.ntmps65
  go_wp2_with fail
  refine (made_any _ _ _ _ _ h).mono ?_
  rintro e w1 ⟨rfl, rfl⟩
  go_wp2_with fail
  go_ret
  exact ⟨rfl, rfl⟩
theorem mclear_mm (b g : Nat) (zs : List Int) (f : Int) (w : World) (h : MM w b g zs) :
    Calls Tryd.prog 65 #[.pointer (some ⟨b, 0, none⟩), .int .i64 f] w fun e w' => e = .returned (.int .i64 (clrE zs.length f)) ∧ MM w' b g (clearV zs f) ∧ w.grownBy w' (some g) := by
  have hd : decide (0 < zs.length) = true := decide_eq_true h.pos
  have hl := h.len
  have hc := h.cell0
  have hlt := h.blt
  by_cases h0 : f < 0
  · rw [show clrE zs.length f = 12 by rw [clrE, if_neg (by omega)], show clearV zs f = zs by rw [clearV, if_neg (by omega)]]
    go_enter Tryd.func65, Tryd.ntmps65
    go_wp2_with fail
    refine (made_any _ _ _ _ _ h.hv).mono ?_
    rintro e w1 ⟨rfl, rfl⟩
    rw [hd]
    clear hd
    go_wp2_with fail
    go_ret
    exact ⟨rfl, h, grown_refl _ _⟩
  · by_cases h1 : f < (zs.length : Int) / 256
    · rw [show clrE zs.length f = 0 by rw [clrE, if_pos (by omega)], show clearV zs f = splice zs (f.toNat * 256) (List.replicate 256 0) by rw [clearV, if_pos (by omega)]]
      obtain ⟨F, rfl⟩ := Int.eq_ofNat_of_zero_le (show 0 ≤ f by omega)
      rw [Int.toNat_natCast]
      have hle : F * 256 + 256 ≤ zs.length := by omega
      obtain ⟨w3, hr3, hg3, hgr3⟩ := run_clear_sl 0 g (F * 256) 256 (zs.length - F * 256) zs h.row (by decide) hle
      have hm3 := h.wrote (length_splice zs (F * 256) (List.replicate 256 0) (by rw [List.length_replicate]; omega)) (bytes_splice h.bytes (bytes_zeros 256) (F * 256) (by rw [List.length_replicate]; omega)) hg3 hgr3
      have HM : Hid (_) := hm3
      have HR : Hid (_) := hr3
      clear hm3 hg3 hr3
      go_enter Tryd.func65, Tryd.ntmps65
      go_wp2_with fail
      refine (made_any _ _ _ _ _ h.hv).mono ?_
      rintro e w1 ⟨rfl, rfl⟩
      rw [hd]
      clear hd
      go_wp2_with fail
      refine (frames_any _ _ _ _ _ hl h.hv).mono ?_
      rintro e w2 ⟨rfl, rfl⟩
      go_wp2_with fail
      rw [HR.out]
      go_wp2_with fail
      go_ret
      exact ⟨rfl, HM.out, hgr3⟩
    · rw [show clrE zs.length f = 12 by rw [clrE, if_neg (by omega)], show clearV zs f = zs by rw [clearV, if_neg (by omega)]]
      go_enter Tryd.func65, Tryd.ntmps65
      go_wp2_with fail
      refine (made_any _ _ _ _ _ h.hv).mono ?_
      rintro e w1 ⟨rfl, rfl⟩
      rw [hd]
      clear hd
      go_wp2_with fail
      refine (frames_any _ _ _ _ _ hl h.hv).mono ?_
      rintro e w2 ⟨rfl, rfl⟩
      go_wp2_with fail
      go_ret
      exact ⟨rfl, h, grown_refl _ _⟩
end Go.Proofs.YteghkhdpdeiocaaDoor
