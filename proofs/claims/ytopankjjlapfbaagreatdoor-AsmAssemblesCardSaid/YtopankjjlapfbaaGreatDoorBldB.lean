/-
  A program's text, in plain terms: its lines, and what is told of it.
  A program's text, built.
-/
import Derived.Test.YtopankjjlapfbaaGreatDoorWdsB
namespace Go.Proofs.YtopankjjlapfbaaGreatDoor
open Go.RowKit
set_option linter.unusedVariables false
set_option maxRecDepth 100000

/-- the lines of a text -/
def linesL (text : ByteArray) : List ByteArray := Lib.splitB ⟨#[10]⟩ 0 (Lib.countB text ⟨#[10]⟩) text
/-- lines read one behind the other, or the number of the first one that is none -/
def readsP (OM : ByteArray → Option Int) : Int → PSt → List ByteArray → Except Int PSt
  | _, S, [] => .ok S
  | n, S, l :: r => match readP OM n S (wordsL l) with
    | some S' => readsP OM (n + 1) S' r
    | none => .error n

/-- what is told of a text -/
inductive Bld where
  | errno (k : Int)
  | fault (n : Int)
  | ok (out : List Int) (M : ByteArray → Option Int)
def buildO (text : ByteArray) (base : Int) : Bld :=
  if ¬ base % 4 = 0 ∨ 1099511627776 < base then .errno 2
  else if 65536 < text.size then .errno 3
  else match readsP (opM 48) 0 ⟨fun _ => none, [], 0⟩ (linesL text) with
    | .error n => .fault n
    | .ok S => if 16384 < S.len then .errno 3 else match wordsP S.M [] S.sts with
      | .error n => .fault n
      | .ok out => .ok out S.M

theorem opM_range : ∀ (k : Nat) (t : ByteArray) (v : Int), opM k t = some v → 1 ≤ v ∧ v ≤ (k : Int)
  | 0, t, v, h => by cases h
  | k + 1, t, v, h => by
    unfold opM at h
    split at h
    · cases h; omega
    · have := opM_range k t v h
      omega

theorem opdsO_keeps : ∀ (s : St) (ps : List Int) (os : List ByteArray) (t : St), opdsO s ps os = some t → t.op = s.op ∧ (t.target = s.target ∨ t.target ∈ os)
  | s, [], os, t, h => by cases os <;> (simp [opdsO] at h; rw [← h]; exact ⟨rfl, Or.inl rfl⟩)
  | s, p :: ps, [], t, h => by simp [opdsO] at h; rw [← h]; exact ⟨rfl, Or.inl rfl⟩
  | s, p :: ps, o :: os, t, h => by
    simp only [opdsO] at h
    cases hs : opdO s p o with
    | none => rw [hs] at h; cases h
    | some s' =>
      rw [hs] at h
      obtain ⟨h1, h2⟩ := opdsO_keeps s' ps os t h
      have hp : ∀ q v, (putF s q v).op = s.op ∧ (putF s q v).target = s.target := fun q v => by
        unfold putF
        repeat' split
        all_goals exact ⟨rfl, rfl⟩
      have key : s'.op = s.op ∧ (s'.target = s.target ∨ s'.target = o) := by
        unfold opdO at hs
        split at hs
        · split at hs
          · cases hs; exact ⟨rfl, Or.inr rfl⟩
          · obtain ⟨v, _, rfl⟩ := Option.map_eq_some_iff.1 hs; exact ⟨(hp _ _).1, Or.inl (hp _ _).2⟩
        · split at hs
          · obtain ⟨v, _, rfl⟩ := Option.map_eq_some_iff.1 hs; exact ⟨(hp _ _).1, Or.inl (hp _ _).2⟩
          · obtain ⟨v, _, rfl⟩ := Option.map_eq_some_iff.1 hs; exact ⟨(hp _ _).1, Or.inl (hp _ _).2⟩
      refine ⟨h1.trans key.1, ?_⟩
      rcases h2 with h2 | h2
      · rcases key.2 with k2 | k2
        · exact Or.inl (h2.trans k2)
        · exact Or.inr (by rw [h2, k2]; simp)
      · exact Or.inr (by simp [h2])

/-- what holds of each statement -/
def StOk (s : St) : Prop := (0 ≤ s.count ∧ s.count ≤ 4096) ∧ (Lit.int .i64 s.op).wf = true ∧ s.target.size ≤ 65536
theorem stmtO_ok (h : ByteArray) (os : List ByteArray) (hsz : ∀ o ∈ os, o.size ≤ 65536) (s : St) (hs : stmtO (opM 48) h os = some s) : StOk s := by
  refine ⟨stmtO_count _ h os s hs, ?_⟩
  unfold stmtO at hs
  split at hs
  · obtain ⟨v, _, rfl⟩ := Option.map_eq_some_iff.1 hs
    exact ⟨rfl, by show (0 : Nat) ≤ 65536; omega⟩
  · split at hs
    · obtain ⟨v, hv, rfl⟩ := Option.map_eq_some_iff.1 hs
      exact ⟨rfl, by show (0 : Nat) ≤ 65536; omega⟩
    · split at hs
      · rename_i op hop
        have hr := opM_range 48 h op hop
        unfold instrO at hs
        split at hs
        · obtain ⟨k1, k2⟩ := opdsO_keeps _ _ _ _ hs
          refine ⟨by rw [k1]; exact wf_small op (by omega) (by omega), ?_⟩
          rcases k2 with k2 | k2
          · rw [k2]; show (0 : Nat) ≤ 65536; omega
          · exact hsz _ k2
        · cases hs
      · cases hs

/-- what holds of a program while its lines are read -/
structure InvP (S : PSt) (k : Nat) : Prop where
  ns : S.sts.length ≤ k
  l0 : 0 ≤ S.len
  l1 : S.len ≤ 4096 * (k : Int)
  ok : ∀ s ∈ S.sts, StOk s
  mm : ∀ t a, S.M t = some a → 0 ≤ a ∧ a ≤ 1000000000
theorem InvP.step {S S' : PSt} {k : Nat} (hI : InvP S k) (hk : k ≤ 70000) (n : Int) (line : ByteArray) (hs : line.size ≤ 65536) (h : readP (opM 48) n S (wordsL line) = some S') : InvP S' (k + 1) := by
  have hsz := words_size line hs
  generalize wordsL line = ws at *
  obtain ⟨M, sts, len⟩ := S
  have hl0 := hI.l0
  have hl1 := hI.l1
  have hns := hI.ns
  simp only at hl0 hl1 hns
  have hmark : ∀ (T : PSt) (r : List ByteArray), markP ⟨M, sts, len⟩ ws = some (T, r) → T.sts = sts ∧ T.len = len ∧ (∀ t a, T.M t = some a → 0 ≤ a ∧ a ≤ 1000000000) ∧ ∀ o ∈ r, o ∈ ws := by
    intro T r hm
    unfold markP at hm
    split at hm
    · cases hm; exact ⟨rfl, rfl, hI.mm, fun o ho => ho⟩
    · split at hm
      · split at hm
        · cases hm
          refine ⟨rfl, rfl, fun t a hta => ?_, fun o ho => by simp [ho]⟩
          simp only [putM] at hta
          split at hta
          · cases hta; omega
          · exact hI.mm t a hta
        · cases hm
      · cases hm; exact ⟨rfl, rfl, hI.mm, fun o ho => ho⟩
  unfold readP at h
  cases hm : markP ⟨M, sts, len⟩ ws with
  | none => rw [hm] at h; cases h
  | some Tr =>
    obtain ⟨T, r⟩ := Tr
    rw [hm] at h
    obtain ⟨e1, e2, e3, e4⟩ := hmark T r hm
    cases r with
    | nil =>
      simp only [stmtP] at h
      cases h
      exact ⟨by rw [e1]; omega, by rw [e2]; exact hl0, by rw [e2]; omega, by rw [e1]; exact hI.ok, e3⟩
    | cons g os =>
      simp only [stmtP] at h
      cases hO : stmtO (opM 48) g os with
      | none => rw [hO] at h; cases h
      | some s =>
        rw [hO] at h
        cases h
        have hok := stmtO_ok g os (fun o ho => hsz o (e4 o (by simp [ho]))) s hO
        refine ⟨by simp [e1]; omega, by simp only [e2]; have := hok.1; omega, by simp only [e2]; have := hok.1; omega, fun t ht => ?_, e3⟩
        simp only [e1, List.mem_append, List.mem_singleton] at ht
        rcases ht with ht | rfl
        · exact hI.ok t ht
        · exact hok

theorem split_size (sep : ByteArray) : ∀ (k : Nat) (s : ByteArray), ∀ o ∈ Lib.splitB sep 0 k s, o.size ≤ s.size
  | 0, s, o, ho => by simp [Lib.splitB] at ho; rw [ho]; exact Nat.le_refl _
  | k + 1, s, o, ho => by
    unfold Lib.splitB at ho
    split at ho
    · simp at ho; rw [ho]; exact Nat.le_refl _
    · rcases List.mem_cons.1 ho with rfl | ho
      · rw [ByteArray.size_extract]; omega
      · have := split_size sep k _ o ho
        rw [ByteArray.size_extract] at this
        omega
end Go.Proofs.YtopankjjlapfbaaGreatDoor
namespace Go.Proofs.YtopankjjlapfbaaGreatDoor
open Go.RowKit
set_option linter.unusedVariables false
set_option maxRecDepth 100000

theorem build_arg (text : ByteArray) (base : Int) (h0 : 0 ≤ base) (hb : ¬ base % 4 = 0 ∨ 1099511627776 < base) (w : World) :
    Calls Tryz.prog 12 #[.string text, .int .u64 base] w fun e w' => e = .returned (.tuple #[.slice none 0 0, .map none, .iface 24 (.int .i64 2)]) ∧ w' = w := by
  by_cases h4 : base % 4 = 0
  · have hb2 : 1099511627776 < base := by omega
    have e1 : (base % 4 == 0) = true := by simp [h4]
    go_enter Tryz.func12, Tryz.ntmps12
    go_wp2_with fail
    exact bodyPost_ret (v := .tuple #[.slice none 0 0, .map none, .iface 24 (.int .i64 2)]) (by simp [results, Tryz.results12, go_sem]) rfl ⟨rfl, rfl⟩
  · have e1 : (base % 4 == 0) = false := by rw [beq_eq_false_iff_ne]; exact h4
    go_enter Tryz.func12, Tryz.ntmps12
    go_wp2_with fail
    exact bodyPost_ret (v := .tuple #[.slice none 0 0, .map none, .iface 24 (.int .i64 2)]) (by simp [results, Tryz.results12, go_sem]) rfl ⟨rfl, rfl⟩

theorem build_big (text : ByteArray) (base : Int) (h0 : 0 ≤ base) (h4 : base % 4 = 0) (h1 : base ≤ 1099511627776) (hs : 65536 < text.size) (w : World) :
    Calls Tryz.prog 12 #[.string text, .int .u64 base] w fun e w' => e = .returned (.tuple #[.slice none 0 0, .map none, .iface 24 (.int .i64 3)]) ∧ w' = w := by
  have e1 : (base % 4 == 0) = true := by simp [h4]
  go_enter Tryz.func12, Tryz.ntmps12
  go_wp2_with fail
  exact bodyPost_ret (v := .tuple #[.slice none 0 0, .map none, .iface 24 (.int .i64 3)]) (by simp [results, Tryz.results12, go_sem]) rfl ⟨rfl, rfl⟩

/-- what a call of build comes to -/
def BPost (w : World) (B : Bld) (e : Ending) (w' : World) : Prop := Below w.heap.size w w' ∧ match B with
  | .errno k => e = .returned (.tuple #[.slice none 0 0, .map none, .iface 24 (.int .i64 k)])
  | .fault n => e = .returned (.tuple #[.slice none 0 0, .map none, .iface 77 (.agg #[.int .i64 n])])
  | .ok out M => ∃ v mk nm, e = .returned (.tuple #[v, .map (some mk), .nilIface]) ∧ WR w w' v out ∧ MapIs w' mk nm M

set_option maxHeartbeats 6400000 in
theorem build_main (text : ByteArray) (base : Int) (h0 : 0 ≤ base) (h4 : base % 4 = 0) (h1 : base ≤ 1099511627776) (hs : text.size ≤ 65536) (w : World) (he : Errs w) (hl : Lies w) :
    Calls Tryz.prog 12 #[.string text, .int .u64 base] w fun e w' => BPost w (buildO text base) e w' := by
  have hB : buildO text base = match readsP (opM 48) 0 ⟨fun _ => none, [], 0⟩ (linesL text) with
    | .error n => .fault n
    | .ok S => if 16384 < S.len then .errno 3 else match wordsP S.M [] S.sts with
      | .error n => .fault n
      | .ok out => .ok out S.M := by
    unfold buildO
    rw [if_neg (by omega), if_neg (by omega)]
  generalize buildO text base = BO at *
  have HBO := hid_mk hB
  have e1 : (base % 4 == 0) = true := by simp [h4]
  obtain ⟨m, hm⟩ := he.mx
  have CO := opsByName_any w hl
  have hmm := @run_makeMap Tryz.prog
  have CSp := fun W (hW : Below w.heap.size w W) => Tryz.strings_Split text ⟨#[10]⟩ m W (by omega) (by rw [hW.cell (p := ⟨3, 0, none⟩) (by show 3 < _; have := he.big; omega)]; exact hm) (by decide)
  have hcl := Lib.splitB_all ⟨#[10]⟩ (by decide) 0 _ text rfl
  have hcle := Lib.countB_le ⟨#[10]⟩ (by decide) text.size text (Nat.le_refl _)
  have hlz := split_size ⟨#[10]⟩ (Lib.countB text ⟨#[10]⟩) text
  rw [show Lib.splitB ⟨#[10]⟩ 0 (Lib.countB text ⟨#[10]⟩) text = linesL text from rfl] at CSp hcl hlz
  generalize linesL text = ls at *
  generalize hcL : Lib.countB text ⟨#[10]⟩ + 1 = L at *
  clear hB
  go_enter Tryz.func12, Tryz.ntmps12
  go_wp2_with fail
  refine CO.mono ?_
  rintro e w1 ⟨rfl, hMO, hb1⟩
  have hbs1 := hb1.size
  have hml := hMO.lt
  go_wp2_with fail
  have hb2 : Below w.heap.size w ((w1.alloc (.map #[] 0)).alloc (.cells #[.map (some w.heap.size), .map (some w1.heap.size), .slice none 0 0, .int .i64 0] 70)) := (hb1.alloc hbs1 _).alloc (by simp; omega) _
  refine (CSp _ hb2).mono ?_
  rintro e w3 ⟨rfl, hw3⟩
  simp only [World.size_alloc] at *
  have hb3 : Below w.heap.size w w3 := by
    rw [hw3]
    exact hb2.alloc (by simp; omega) _
  have hz3 : w3.heap.size = w1.heap.size + 3 := by rw [hw3]; simp
  have hn1 : w3.heap[w1.heap.size]? = (w1.alloc (.map #[] 0)).heap[w1.heap.size]? := by
    rw [hw3, Below.heap_alloc _ _ _ (by simp; omega), Below.heap_alloc _ _ _ (by simp)]
  have hn0 : w3.heap[w.heap.size]? = w1.heap[w.heap.size]? := by
    rw [hw3, Below.heap_alloc _ _ _ (by simp; omega), Below.heap_alloc _ _ _ (by simp; omega), Below.heap_alloc _ _ _ hml]
  have hPW0 : PW w w3 (w1.heap.size + 1) w.heap.size w1.heap.size 0 (opM 48) (fun _ => none) (.slice none 0 0) [] 0 := by
    have hpb : w3.heap[w1.heap.size + 1]? = ((w1.alloc (.map #[] 0)).alloc (.cells #[.map (some w.heap.size), .map (some w1.heap.size), .slice none 0 0, .int .i64 0] 70)).heap[w1.heap.size + 1]? := by
      rw [hw3, Below.heap_alloc _ _ _ (by simp)]
    have hcc : ∀ i, w3.cell? ⟨w1.heap.size + 1, i, none⟩ = ((w1.alloc (.map #[] 0)).alloc (.cells #[.map (some w.heap.size), .map (some w1.heap.size), .slice none 0 0, .int .i64 0] 70)).cell? ⟨w1.heap.size + 1, i, none⟩ := fun i => World.cell?_of_block (a := ⟨w1.heap.size + 1, i, none⟩) hpb
    have hff : ∀ i, w3.frozen? ⟨w1.heap.size + 1, i, none⟩ = ((w1.alloc (.map #[] 0)).alloc (.cells #[.map (some w.heap.size), .map (some w1.heap.size), .slice none 0 0, .int .i64 0] 70)).frozen? ⟨w1.heap.size + 1, i, none⟩ := fun i => World.frozen?_of_block (a := ⟨w1.heap.size + 1, i, none⟩) hpb
    refine ⟨by rw [hcc]; simp, by rw [hcc]; simp, by rw [hcc]; simp, by rw [hcc]; simp, fun i => ?_, World.ownsRow_nil _ _ _ _, hMO.keep hn0, (MapIs.new w1).keep hn1, by omega, by omega, by omega, fun h => (by cases h), fun h => (by cases h), fun h => (by cases h), by omega, Nat.le_refl _, hbs1, hb3⟩
    rw [hff]
    have hq := World.frozen?_alloc_new (w1.alloc (.map #[] 0)) #[.map (some w.heap.size), .map (some w1.heap.size), .slice none 0 0, .int .i64 0] 70 i
    simp only [World.size_alloc] at hq
    exact hq
  have HLC : Hid (∀ k, k < L → ∃ l, l.size ≤ 65536 ∧ ls.drop k = l :: ls.drop (k + 1) ∧ w3.cell? ⟨w1.heap.size + 2, k, none⟩ = some (.string l)) := fun k hk => by
    have hkl : k < ls.length := by omega
    refine ⟨ls[k], Nat.le_trans (hlz _ (List.getElem_mem hkl)) hs, List.drop_eq_getElem_cons hkl, ?_⟩
    rw [hw3]
    have hq := World.cell?_alloc_new ((w1.alloc (.map #[] 0)).alloc (.cells #[.map (some w.heap.size), .map (some w1.heap.size), .slice none 0 0, .int .i64 0] 70)) ((ls.map Value.string).toArray) 9 k
    simp only [World.size_alloc] at hq
    rw [hq]
    simp [hkl]
  have HEND : Hid (ls.drop L = []) := by
    show ls.drop L = []
    rw [← hcl]
    exact List.drop_length
  have HI0 : Hid (InvP ⟨fun _ => none, [], 0⟩ 0) := ⟨by simp, by simp, by simp, fun s hs => by simp at hs, fun t a h => by cases h⟩
  have HPW0 := hid_mk hPW0
  have HE := hid_mk he
  have hLb : L ≤ 65537 := by omega
  clear hw3 hb2 hb3 hn0 hn1 hPW0 hMO CO CSp hcl hcle hlz hmm hm hcL he hl
  generalize w1.heap.size = n1 at *
  go_wp2_with fail
  go_loopw [31] (fun i wr => ∃ (k nm : Nat) (S : PSt) (sv : Value), k ≤ L ∧ nm ≤ k ∧ i = .int .i64 k ∧ InvP S k ∧ PW w wr (n1 + 1) w.heap.size n1 nm (opM 48) S.M sv S.sts S.len ∧ wr.heap[n1 + 2]? = w3.heap[n1 + 2]? ∧ sv.ownBlock ≠ some (n1 + 2) ∧ n1 + 2 < wr.heap.size ∧
    readsP (opM 48) 0 ⟨fun _ => none, [], 0⟩ ls = readsP (opM 48) k S (ls.drop k)) (fun i _ => L - (intOf i).toNat)
  case atStart => exact ⟨0, 0, ⟨fun _ => none, [], 0⟩, .slice none 0 0, by omega, by omega, rfl, HI0.out, HPW0.out, rfl, fun h => (by cases h), by omega, rfl⟩
  case round =>
    obtain ⟨k, nm, S, sv, hk, hnm, rfl, hI, hP, hLB, hsB, hsz, hrd⟩ := hrel
    by_cases hk2 : k < L
    · obtain ⟨l, hlz, hdr, hlc⟩ := HLC.out k hk2
      rw [hdr] at hrd
      rw [← World.cell?_of_block (a := ⟨n1 + 2, k, none⟩) hLB] at hlc
      have CR := read_any w wr (n1 + 1) w.heap.size n1 nm (opM 48) S sv (k : Int) l hlz HE.out (by omega) (by have := hI.ns; omega) ⟨hI.l0, by have := hI.l1; omega⟩ hP
      have hrd2 : readsP (opM 48) 0 ⟨fun _ => none, [], 0⟩ ls = match readP (opM 48) (k : Int) S (wordsL l) with
        | some S' => readsP (opM 48) ((k : Int) + 1) S' (ls.drop (k + 1))
        | none => .error (k : Int) := hrd
      cases hO : readP (opM 48) (k : Int) S (wordsL l) with
      | none =>
        rw [hO] at CR hrd2
        have hBO : BO = .fault (k : Int) := by
          have := HBO.out
          rw [hrd2] at this
          exact this
        subst hBO
        clear hrd hrd2 hI hP hLB hsB
        go_wp2_with fail
        refine CR.mono ?_
        rintro e w4 ⟨rfl, hb4⟩
        have HB4 := hid_mk hb4
        clear hb4
        go_wp2_with fail
        exact bodyPost_ret (v := .tuple #[.slice none 0 0, .map none, .iface 77 (.agg #[.int .i64 (k : Int)])]) (by simp [results, Tryz.results12, go_sem]) rfl ⟨HB4.out, rfl⟩
      | some S' =>
        rw [hO] at CR hrd2
        have HI' := hid_mk (hI.step (by omega) (k : Int) l hlz hO)
        have HRD := hid_mk hrd2
        have HLB := hid_mk hLB
        have HSB := hid_mk hsB
        have hne1 : n1 + 2 ≠ n1 + 1 := by omega
        clear hrd hrd2 hI hP hLB hsB
        go_wp2_with fail
        refine CR.mono ?_
        rintro e w4 ⟨rfl, sv', nm', hnm', hP4, hF4⟩
        have HX : Hid (PW w w4 (n1 + 1) w.heap.size n1 nm' (opM 48) S'.M sv' S'.sts S'.len ∧ w4.heap[n1 + 2]? = w3.heap[n1 + 2]? ∧ sv'.ownBlock ≠ some (n1 + 2) ∧ n1 + 2 < w4.heap.size) := by
          refine ⟨hP4, (hF4.1 (n1 + 2) hsz (by omega) (by omega) HSB.out).trans HLB.out, fun e => ?_, Nat.lt_of_lt_of_le hsz hF4.2.1⟩
          rcases hF4.2.2 _ e with h | h
          · exact HSB.out h
          · omega
        clear hP4 hF4
        go_wp2_with fail
        go_roundw
        case rel => exact ⟨k + 1, nm', S', sv', by omega, by omega, by go_num, HI'.out, HX.out.1, HX.out.2.1, HX.out.2.2.1, HX.out.2.2.2, by rw [HRD.out]; rfl⟩
        case measure => simp [intOf]; omega
    · obtain rfl : k = L := by omega
      rw [HEND.out] at hrd
      have hrd2 : readsP (opM 48) 0 ⟨fun _ => none, [], 0⟩ ls = .ok S := hrd
      have hBO := HBO.out
      rw [hrd2] at hBO
      have x3 := hP.p3
      have x1 := hP.p1
      have hPl := hP.lt
      have hl0 := hI.l0
      have hBl := hP.bel
      by_cases h16 : 16384 < S.len
      · have hBO2 : BO = .errno 3 := by
          rw [hBO]
          simp only [h16, if_true]
        subst hBO2
        have HBl := hid_mk hBl
        clear hBO hrd hrd2 hP hBl hLB
        go_wp2_with fail
        exact bodyPost_ret (v := .tuple #[.slice none 0 0, .map none, .iface 24 (.int .i64 3)]) (by simp [results, Tryz.results12, go_sem]) rfl ⟨HBl.out, rfl⟩
      · have CW := words_any w wr (n1 + 1) w.heap.size n1 nm (opM 48) S.M sv S.sts S.len ⟨hl0, by omega⟩ (by have := hI.ns; omega) (fun s hs => (hI.ok s hs).1) (fun s hs => (hI.ok s hs).2.1) (fun s hs => (hI.ok s hs).2.2) hI.mm hP
        have HP := hid_mk hP
        cases hw : wordsP S.M [] S.sts with
        | error nn =>
          rw [hw] at CW
          have hBO2 : BO = .fault nn := by
            rw [hBO]
            simp only [h16, if_false, hw]
          subst hBO2
          clear hBO hrd hrd2 hP hBl hLB hI
          go_wp2_with fail
          refine CW.mono ?_
          rintro e w4 ⟨hb4, rfl⟩
          have HB4 : Hid (Below w.heap.size w w4) := HP.out.bel.trans (hb4.mono HP.out.bel.size)
          clear hb4
          go_wp2_with fail
          exact bodyPost_ret (v := .tuple #[.slice none 0 0, .map none, .iface 77 (.agg #[.int .i64 nn])]) (by simp [results, Tryz.results12, go_sem]) rfl ⟨HB4.out, rfl⟩
        | ok out =>
          rw [hw] at CW
          have hBO2 : BO = .ok out S.M := by
            rw [hBO]
            simp only [h16, if_false, hw]
          subst hBO2
          clear hBO hrd hrd2 hP hBl hLB hI
          go_wp2_with fail
          refine CW.mono ?_
          rintro e w4 ⟨hb4, v, rfl, hWR⟩
          have HB4 : Hid (Below w.heap.size w w4) := HP.out.bel.trans (hb4.mono HP.out.bel.size)
          have hP4 := HP.out.below hb4
          have y1 := hP4.p1
          obtain ⟨va, vc, rfl⟩ := hWR.form
          have hrow := hWR.row
          have HWR : Hid (∀ q, WR w (w4.drewN q) (.slice va out.length vc) out) := fun q => by
            refine ⟨⟨_, _, rfl⟩, ?_, below_drewN HB4.out q⟩
            have hbase : w.heap.size ≤ wr.heap.size := HP.out.bel.size
            obtain ⟨h1, h2 | ⟨g, c, cur, h3, h4, h5⟩⟩ := hrow
            · exact ⟨h1, Or.inl h2⟩
            · exact ⟨h1, Or.inr ⟨g, c, cur, h3, Nat.le_trans hbase h4, h5⟩⟩
          have HMM : Hid (∀ q, MapIs (w4.drewN q) n1 nm S.M) := fun q => hP4.mM.keep rfl
          clear hb4 hP4 hWR hrow
          go_wp2_with fail
          go_quiet (fail)
          go_wp2_with fail
          exact bodyPost_ret (v := .tuple #[.slice va out.length vc, .map (some n1), .nilIface]) (by simp [results, Tryz.results12, go_sem]) rfl ⟨below_drewN HB4.out _, _, _, _, rfl, HWR.out _, HMM.out _⟩
end Go.Proofs.YtopankjjlapfbaaGreatDoor
