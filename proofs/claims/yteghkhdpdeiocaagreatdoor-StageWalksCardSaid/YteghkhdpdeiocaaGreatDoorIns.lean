/-
  Numbers that came in by a slice; the lowest bits of a number.
-/
import Derived.Test.YteghkhdpdeiocaaGreatDoorBase
import Derived.ChangeOld
import Derived.OpenShut
namespace Go.Proofs.YteghkhdpdeiocaaGreatDoor
open Go.ChangeShapes Go.WideShapes Go.ChangeAt Go.RowKit
set_option linter.unusedVariables false
set_option maxRecDepth 100000

/-- numbers that came in -/
def NumsIn (q : IntKind) (w : World) (a : Option Addr) (n : Nat) (zs : List Int) : Prop :=
  zs.length = n ∧ (∀ z ∈ zs, (Lit.int q z).wf = true) ∧ (n = 0 ∨ ∃ b off, a = some ⟨b, off, none⟩ ∧ b < w.heap.size ∧ ∀ i, i < n → w.cell? ⟨b, off + i, none⟩ = some (.int q (zs.getD i 0)))
theorem cell_plain {w : World} {x : Addr} {v : Value} (h : w.cell? x = some v) : ∃ b off, x = ⟨b, off, none⟩ := by
  obtain ⟨b, off, sp⟩ := x
  cases sp with
  | none => exact ⟨b, off, rfl⟩
  | some s => simp only [World.cell?] at h; split at h <;> cases h
theorem nums_of {H : Type} {enc : TypeId × Value → H} {w : World} {fuel : Nat} {ad : Option Addr} {len cap : Nat} {x : DataW H × List MemPlace} {t e : TypeId} {q : IntKind} (ht : Tryz.prog.underlying t = some (.slice e)) (he : Tryz.prog.underlying e = some (.int q)) (hc : Tryz.prog.cellsOf e = 1)
    (h : DataW.trod enc Tryz.prog w 0 (fun _ => true) true fuel t [.slice ad len cap] = some x) : (∃ zs, NumsIn q w ad len zs) ∧ len ≤ cap ∧ cap ≤ maxLen := by
  rcases open_ints ht he hc h with ⟨hcs, _⟩ | ⟨a, l, c, zs, hcs, _, hl, hm, hz, hx, hcell, hwz⟩
  · simp at hcs
    obtain ⟨rfl, rfl, rfl⟩ := hcs
    exact ⟨⟨[], rfl, (fun z hz => by cases hz), .inl rfl⟩, by omega, by omega⟩
  · simp at hcs
    obtain ⟨rfl, rfl, rfl⟩ := hcs
    simp at hz
    refine ⟨⟨zs.take len, by simp; omega, fun z hz' => hwz z (List.mem_of_mem_take hz'), ?_⟩, hl, hm⟩
    rcases Nat.eq_zero_or_pos len with h0 | hpos
    · exact .inl h0
    obtain ⟨B, off, rfl⟩ : ∃ B off, a = ⟨B, off, none⟩ := by
      have e0 := hcell 0 (by omega)
      have hx0 : a.add 0 = a := by cases a; simp [Addr.add]
      rw [hx0] at e0
      exact cell_plain e0
    have p1 : ∀ (B o k : Nat), (⟨B, o, none⟩ : Addr).add k = ⟨B, o + k, none⟩ := by intro B o k; unfold Addr.add; split <;> simp_all
    refine .inr ⟨B, off, rfl, ?_, fun i hi => ?_⟩
    · have e0 := hcell 0 (by omega)
      rw [p1] at e0
      exact World.block_lt_of_cell? w _ e0
    · have e0 := hcell i (by omega)
      rw [p1] at e0
      rw [e0]
      simp [hi]
theorem and_low (v m : Int) (k : Nat) (hk : (BitVec.ofInt 64 m).toNat = k) (hb : k < 9223372036854775808) : ∃ i : Nat, i ≤ k ∧ bits .and .i64 v m = (i : Int) := by
  refine ⟨(BitVec.ofInt 64 v &&& BitVec.ofInt 64 m).toNat, ?_, ?_⟩
  · rw [BitVec.toNat_and, hk]
    exact Nat.and_le_right
  · show IntKind.i64.wrap ((BitVec.ofInt 64 v &&& BitVec.ofInt 64 m).toNat : Int) = _
    have h : (BitVec.ofInt 64 v &&& BitVec.ofInt 64 m).toNat ≤ k := by rw [BitVec.toNat_and, hk]; exact Nat.and_le_right
    rw [IntKind.wrap_i64]
    omega
theorem and_lowu (v m : Int) (k : Nat) (hk : (BitVec.ofInt 64 m).toNat = k) (hb : k < 9223372036854775808) : ∃ i : Nat, i ≤ k ∧ bits .and .u64 v m = (i : Int) := by
  refine ⟨(BitVec.ofInt 64 v &&& BitVec.ofInt 64 m).toNat, ?_, ?_⟩
  · rw [BitVec.toNat_and, hk]
    exact Nat.and_le_right
  · show IntKind.u64.wrap ((BitVec.ofInt 64 v &&& BitVec.ofInt 64 m).toNat : Int) = _
    have h : (BitVec.ofInt 64 v &&& BitVec.ofInt 64 m).toNat ≤ k := by rw [BitVec.toNat_and, hk]; exact Nat.and_le_right
    rw [IntKind.wrap_u64]
    omega
theorem NumsIn.at {q : IntKind} {w : World} {a : Option Addr} {n : Nat} {zs : List Int} (h : NumsIn q w a n zs) {j : Nat} (hj : j < n) : ∃ b off, a = some ⟨b, off, none⟩ ∧ b < w.heap.size ∧ w.cell? ⟨b, off + j, none⟩ = some (.int q (zs.getD j 0)) := by
  rcases h.2.2 with h' | ⟨b, off, rfl, hb, hc⟩
  · omega
  · exact ⟨b, off, rfl, hb, hc j hj⟩
theorem take_next (zs : List Int) (j : Nat) (h : j < zs.length) : zs.take (j + 1) = zs.take j ++ [zs.getD j 0] := by
  rw [List.take_add_one]; simp [h]
end Go.Proofs.YteghkhdpdeiocaaGreatDoor
