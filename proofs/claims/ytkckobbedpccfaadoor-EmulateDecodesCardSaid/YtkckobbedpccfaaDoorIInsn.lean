/-
  Instructions and their words in plain arithmetic, over no program: shapes, what may stand in which field, the word and what is read out of it.
-/
import Derived.Test.YtkckobbedpccfaaDoorIMath3
namespace Go.Proofs.YtkckobbedpccfaaDoor.I
open Go.RowKit
set_option linter.unusedVariables false

/-- the shape of an operation; -1: there is none -/
def shapeR (op : Int) : Int :=
  if 1 ≤ op ∧ op ≤ 13 ∨ 37 ≤ op ∧ op ≤ 40 then 1
  else if 14 ≤ op ∧ op ≤ 21 ∨ 23 ≤ op ∧ op ≤ 25 ∨ op = 36 ∨ 46 ≤ op ∧ op ≤ 48 then 2
  else if 26 ≤ op ∧ op ≤ 28 then 3
  else if 29 ≤ op ∧ op ≤ 34 then 4
  else if op = 22 ∨ op = 35 then 5
  else if op = 45 then 6
  else if 41 ≤ op ∧ op ≤ 44 then 0
  else -1
def shapeN (op : Int) : Int := if shapeR op < 0 then 0 else shapeR op
def shapeB (op : Int) : Bool := decide (0 ≤ shapeR op)

/-- all that there is to know of a shape -/
theorem shape_cases (op : Int) :
    (shapeR op = 1 ∧ (1 ≤ op ∧ op ≤ 13 ∨ 37 ≤ op ∧ op ≤ 40)) ∨
    (shapeR op = 2 ∧ (14 ≤ op ∧ op ≤ 21 ∨ 23 ≤ op ∧ op ≤ 25 ∨ op = 36 ∨ 46 ≤ op ∧ op ≤ 48)) ∨
    (shapeR op = 3 ∧ (26 ≤ op ∧ op ≤ 28)) ∨ (shapeR op = 4 ∧ (29 ≤ op ∧ op ≤ 34)) ∨ (shapeR op = 5 ∧ (op = 22 ∨ op = 35)) ∨
    (shapeR op = 6 ∧ op = 45) ∨ (shapeR op = 0 ∧ (41 ≤ op ∧ op ≤ 44)) ∨ (shapeR op = -1 ∧ (op ≤ 0 ∨ 49 ≤ op)) := by
  unfold shapeR
  by_cases h1 : 1 ≤ op ∧ op ≤ 13 ∨ 37 ≤ op ∧ op ≤ 40
  · exact Or.inl ⟨if_pos h1, h1⟩
  · rw [if_neg h1]
    refine Or.inr ?_
    by_cases h2 : 14 ≤ op ∧ op ≤ 21 ∨ 23 ≤ op ∧ op ≤ 25 ∨ op = 36 ∨ 46 ≤ op ∧ op ≤ 48
    · exact Or.inl ⟨if_pos h2, h2⟩
    · rw [if_neg h2]
      refine Or.inr ?_
      by_cases h3 : 26 ≤ op ∧ op ≤ 28
      · exact Or.inl ⟨if_pos h3, h3⟩
      · rw [if_neg h3]
        refine Or.inr ?_
        by_cases h4 : 29 ≤ op ∧ op ≤ 34
        · exact Or.inl ⟨if_pos h4, h4⟩
        · rw [if_neg h4]
          refine Or.inr ?_
          by_cases h5 : op = 22 ∨ op = 35
          · exact Or.inl ⟨if_pos h5, h5⟩
          · rw [if_neg h5]
            refine Or.inr ?_
            by_cases h6 : op = 45
            · exact Or.inl ⟨if_pos h6, h6⟩
            · rw [if_neg h6]
              refine Or.inr ?_
              by_cases h7 : 41 ≤ op ∧ op ≤ 44
              · exact Or.inl ⟨if_pos h7, h7⟩
              · rw [if_neg h7]
                exact Or.inr ⟨rfl, by omega⟩

theorem shape_none (op : Int) (h : op ≤ 0 ∨ 49 ≤ op) : shapeR op = -1 := by
  have := shape_cases op
  omega

def rdP (op : Int) : Bool := decide (shapeR op = 1 ∨ shapeR op = 2 ∨ shapeR op = 5)
def rs1P (op : Int) : Bool := decide (shapeR op = 1 ∨ shapeR op = 2 ∨ shapeR op = 3 ∨ shapeR op = 4 ∨ shapeR op = 6)
def rs2P (op : Int) : Bool := decide (shapeR op = 1 ∧ op ≠ 37 ∨ shapeR op = 3 ∨ shapeR op = 4)
def loP (op : Int) : Int :=
  if 18 ≤ op ∧ op ≤ 20 ∨ 46 ≤ op ∧ op ≤ 48 then 0 else if shapeR op = 2 ∨ shapeR op = 3 ∨ shapeR op = 4 then -8192 else if shapeR op = 5 then -131072 else 0
def hiP (op : Int) : Int :=
  if 18 ≤ op ∧ op ≤ 20 then 63 else if 46 ≤ op ∧ op ≤ 48 then 4095 else if shapeR op = 2 ∨ shapeR op = 3 ∨ shapeR op = 4 then 8191 else if shapeR op = 5 then 131071 else 0

def regP (v : Int) (has : Bool) : Bool := v == 0 || (has && decide (1 ≤ v) && decide (v ≤ 15))
def hasP (lo hi v : Int) : Bool := decide (lo ≤ v) && decide (v ≤ hi)
def validP (op rd rs1 rs2 imm : Int) : Bool :=
  shapeB op && regP rd (rdP op) && regP rs1 (rs1P op) && regP rs2 (rs2P op) && hasP (loP op) (hiP op) imm

def regR (v : Int) : Bool := decide (0 ≤ v) && decide (v ≤ 15)
def immR (op v : Int) : Bool :=
  if 18 ≤ op ∧ op ≤ 20 then hasP 0 63 v else if 46 ≤ op ∧ op ≤ 48 then hasP 0 4095 v
  else if shapeR op = 2 ∨ shapeR op = 3 ∨ shapeR op = 4 then hasP (-8192) 8191 v else if shapeR op = 5 then hasP (-131072) 131071 v else v == 0
def validR (op rd rs1 rs2 imm : Int) : Bool :=
  if shapeR op < 0 ∨ regR rd = false ∨ regR rs1 = false ∨ regR rs2 = false ∨ immR op imm = false then false
  else (rdP op || rd == 0) && (rs1P op || rs1 == 0) && (rs2P op || rs2 == 0)

theorem reg_iff (v : Int) (b : Bool) : regP v b = (regR v && (b || v == 0)) := by
  unfold regP regR
  cases b
  · by_cases h : v = 0
    · subst h; rfl
    · simp [h]
  · rw [Bool.eq_iff_iff]
    simp
    omega
theorem imm_iff (op v : Int) : hasP (loP op) (hiP op) v = immR op v := by
  unfold loP hiP immR
  have h0 : hasP 0 0 v = (v == 0) := by
    unfold hasP
    rw [Bool.eq_iff_iff]
    simp
    omega
  by_cases h1 : 18 ≤ op ∧ op ≤ 20
  · rw [if_pos (Or.inl h1), if_pos h1, if_pos h1]
  · by_cases h2 : 46 ≤ op ∧ op ≤ 48
    · rw [if_pos (Or.inr h2), if_neg h1, if_neg h1, if_pos h2, if_pos h2]
    · rw [if_neg (by omega), if_neg h1, if_neg h1, if_neg h2, if_neg h2]
      by_cases h3 : shapeR op = 2 ∨ shapeR op = 3 ∨ shapeR op = 4
      · rw [if_pos h3, if_pos h3, if_pos h3]
      · rw [if_neg h3, if_neg h3, if_neg h3]
        by_cases h4 : shapeR op = 5
        · rw [if_pos h4, if_pos h4, if_pos h4]
        · rw [if_neg h4, if_neg h4, if_neg h4, h0]

theorem valid_same (op rd rs1 rs2 imm : Int) : validR op rd rs1 rs2 imm = validP op rd rs1 rs2 imm := by
  unfold validR validP
  rw [reg_iff, reg_iff, reg_iff, imm_iff]
  unfold shapeB
  by_cases hs : shapeR op < 0
  · rw [if_pos (Or.inl hs)]
    simp [show ¬ 0 ≤ shapeR op by omega]
  · have hs' : 0 ≤ shapeR op := by omega
    cases h1 : regR rd <;> cases h2 : regR rs1 <;> cases h3 : regR rs2 <;> cases h4 : immR op imm <;> simp [hs, hs']

/-- what is known of a valid instruction -/
theorem valid_facts {op rd rs1 rs2 imm : Int} (h : validP op rd rs1 rs2 imm = true) :
    1 ≤ op ∧ op ≤ 48 ∧ 0 ≤ rd ∧ rd ≤ 15 ∧ 0 ≤ rs1 ∧ rs1 ≤ 15 ∧ 0 ≤ rs2 ∧ rs2 ≤ 15 ∧ (shapeR op = 5 → rs1 = 0 ∧ rs2 = 0 ∧ -131072 ≤ imm ∧ imm ≤ 131071) ∧ (shapeR op ≠ 5 → -8192 ≤ imm ∧ imm ≤ 8191) := by
  have hc := shape_cases op
  unfold validP at h
  rw [reg_iff, reg_iff, reg_iff] at h
  simp only [Bool.and_eq_true, shapeB, decide_eq_true_eq, regR, hasP] at h
  obtain ⟨⟨⟨⟨h0, ⟨h1, h1'⟩, h2⟩, ⟨h3, h3'⟩, h4⟩, ⟨h5, h5'⟩, h6⟩, h7, h8⟩ := h
  refine ⟨by omega, by omega, by omega, by omega, by omega, by omega, by omega, by omega, fun e => ?_, fun e => ?_⟩
  · have ho : op = 22 ∨ op = 35 := by omega
    have e1 : rs1P op = false := by simp [rs1P, e]
    have e2 : rs2P op = false := by simp [rs2P, e]
    rw [e1] at h4
    rw [e2] at h6
    have e3 : loP op = -131072 := by unfold loP; rw [if_neg (by omega), if_neg (by omega), if_pos e]
    have e4 : hiP op = 131071 := by unfold hiP; rw [if_neg (by omega), if_neg (by omega), if_neg (by omega), if_pos e]
    simp at h4 h6
    omega
  · have e3 : -8192 ≤ loP op := by
      unfold loP
      split
      · decide
      · split
        · decide
        · decide
    have e4 : hiP op ≤ 8191 := by
      unfold hiP
      split
      · decide
      · split
        · decide
        · split
          · decide
          · decide
    omega

/-- the word of an instruction -/
def wordP (op rd rs1 rs2 imm : Int) : Int :=
  if shapeR op = 5 then op * 67108864 + rd * 4194304 + imm % 262144 else op * 67108864 + rd * 4194304 + rs1 * 262144 + rs2 * 16384 + imm % 16384

theorem valid_long {op rd rs1 rs2 imm : Int} (h5 : shapeR op = 5) (h : validP op rd rs1 rs2 imm = true) : rs1 = 0 ∧ rs2 = 0 :=
  let f := (valid_facts h).2.2.2.2.2.2.2.2.1 h5
  ⟨f.1, f.2.1⟩

theorem word_range {op rd rs1 rs2 imm : Int} (h : validP op rd rs1 rs2 imm = true) : 0 ≤ wordP op rd rs1 rs2 imm ∧ wordP op rd rs1 rs2 imm ≤ 4294967295 := by
  have f := valid_facts h
  unfold wordP
  split <;> omega

theorem word_inj {op rd rs1 rs2 imm op' rd' rs1' rs2' imm' : Int} (h : validP op rd rs1 rs2 imm = true) (h' : validP op' rd' rs1' rs2' imm' = true)
    (e : wordP op rd rs1 rs2 imm = wordP op' rd' rs1' rs2' imm') : op = op' ∧ rd = rd' ∧ rs1 = rs1' ∧ rs2 = rs2' ∧ imm = imm' := by
  have f := valid_facts h
  have f' := valid_facts h'
  have eo : op = op' := by
    unfold wordP at e
    split at e <;> split at e <;> omega
  subst eo
  unfold wordP at e
  by_cases h5 : shapeR op = 5
  · rw [if_pos h5, if_pos h5] at e
    have g := f.2.2.2.2.2.2.2.2.1 h5
    have g' := f'.2.2.2.2.2.2.2.2.1 h5
    refine ⟨rfl, ?_, ?_, ?_, ?_⟩ <;> omega
  · rw [if_neg h5, if_neg h5] at e
    have g := f.2.2.2.2.2.2.2.2.2 h5
    have g' := f'.2.2.2.2.2.2.2.2.2 h5
    refine ⟨rfl, ?_, ?_, ?_, ?_⟩ <;> omega

/-- what stands in a word -/
def opW (w : Int) : Int := w / 67108864 % 64
def rdW (w : Int) : Int := w / 4194304 % 16
def rs1W (w : Int) : Int := w / 262144 % 16
def rs2W (w : Int) : Int := if shapeR (opW w) = 5 then 0 else w / 16384 % 16
def immW (w : Int) : Int := if shapeR (opW w) = 5 then (w % 262144 + 131072) % 262144 - 131072 else (w % 16384 + 8192) % 16384 - 8192
def validW (w : Int) : Bool := validP (opW w) (rdW w) (rs1W w) (rs2W w) (immW w)

/-- the word of what was read out of a word is that word -/
theorem word_back (w : Int) (h0 : 0 ≤ w) (h1 : w ≤ 4294967295) (h : validW w = true) : wordP (opW w) (rdW w) (rs1W w) (rs2W w) (immW w) = w := by
  have f := valid_facts h
  by_cases h5 : shapeR (opW w) = 5
  · have g := f.2.2.2.2.2.2.2.2.1 h5
    unfold wordP
    rw [if_pos h5]
    unfold immW
    rw [if_pos h5]
    have g1 := g.1
    unfold rs1W at g1
    unfold opW rdW
    omega
  · unfold wordP
    rw [if_neg h5]
    unfold immW rs2W
    rw [if_neg h5, if_neg h5]
    unfold opW rdW rs1W
    omega

/-- what is read out of a valid instruction's word is that instruction -/
theorem insn_back {op rd rs1 rs2 imm : Int} (h : validP op rd rs1 rs2 imm = true) :
    opW (wordP op rd rs1 rs2 imm) = op ∧ rdW (wordP op rd rs1 rs2 imm) = rd ∧ rs1W (wordP op rd rs1 rs2 imm) = rs1 ∧ rs2W (wordP op rd rs1 rs2 imm) = rs2 ∧ immW (wordP op rd rs1 rs2 imm) = imm := by
  have f := valid_facts h
  by_cases h5 : shapeR op = 5
  · have g := f.2.2.2.2.2.2.2.2.1 h5
    have ew : wordP op rd rs1 rs2 imm = op * 67108864 + rd * 4194304 + imm % 262144 := by unfold wordP; rw [if_pos h5]
    have eo : opW (wordP op rd rs1 rs2 imm) = op := by rw [ew]; unfold opW; omega
    refine ⟨eo, ?_, ?_, ?_, ?_⟩
    · rw [ew]; unfold rdW; omega
    · rw [ew]; unfold rs1W; omega
    · unfold rs2W; rw [eo, if_pos h5]; omega
    · unfold immW; rw [eo, if_pos h5, ew]; omega
  · have g := f.2.2.2.2.2.2.2.2.2 h5
    have ew : wordP op rd rs1 rs2 imm = op * 67108864 + rd * 4194304 + rs1 * 262144 + rs2 * 16384 + imm % 16384 := by unfold wordP; rw [if_neg h5]
    have eo : opW (wordP op rd rs1 rs2 imm) = op := by rw [ew]; unfold opW; omega
    refine ⟨eo, ?_, ?_, ?_, ?_⟩
    · rw [ew]; unfold rdW; omega
    · rw [ew]; unfold rs1W; omega
    · unfold rs2W; rw [eo, if_neg h5, ew]; omega
    · unfold immW; rw [eo, if_neg h5, ew]; omega

/-- the document's way to read a long one: without rs1 -/
theorem long_same (w : Int) (h0 : 0 ≤ w) (h1 : w ≤ 4294967295) (h5 : shapeR (opW w) = 5) :
    validW w = true ↔ (validP (opW w) (rdW w) 0 0 (immW w) = true ∧ wordP (opW w) (rdW w) 0 0 (immW w) = w) := by
  have e2 : rs2W w = 0 := by unfold rs2W; rw [if_pos h5]
  constructor
  · intro h
    have e1 := (valid_long h5 h).1
    have hb := word_back w h0 h1 h
    unfold validW at h
    rw [e1, e2] at h hb
    exact ⟨h, hb⟩
  · rintro ⟨h, hb⟩
    have e1 : rs1W w = 0 := by
      have f := (insn_back h).2.2.1
      rw [hb] at f
      exact f
    unfold validW
    rw [e1, e2]
    exact h
end Go.Proofs.YtkckobbedpccfaaDoor.I
