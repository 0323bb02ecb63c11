/-
  The document's Next.
-/
import Derived.Test.YtgiafngiledmbaaRb
import Derived.Test.YtgiafngiledmbaaNx
namespace Go.Proofs.Ytgiafngiledmbaa
open Go.RowKit Go.Maps
set_option linter.unusedVariables false
set_option maxRecDepth 100000
theorem take_one {L : List Tm} {j : Nat} {x : Tm} (h : L[j]? = some x) : L.take (j + 1) = L.take j ++ [x] := by rw [List.take_add_one, h]; rfl
theorem Nx.nil : Nx [] none := ⟨fun _ x hx => (by cases hx), fun v e => (by cases e)⟩
theorem Nx.skip {L : List Tm} {j : Nat} {x : Tm} {r : Option Int} (h : Nx (L.take j) r) (hx : L[j]? = some x) (hh : el x = false ∨ ∃ v, r = some v ∧ v ≤ wn x) : Nx (L.take (j + 1)) r := by
  rw [take_one hx]
  refine ⟨fun e y hy => ?_, fun v e => ⟨?_, fun y hy he => ?_⟩⟩
  · rcases List.mem_append.1 hy with hy | hy
    · exact h.no e y hy
    · rw [List.mem_singleton.1 hy]
      rcases hh with hh | ⟨v, e2, _⟩
      · exact hh
      · rw [e] at e2; cases e2
  · obtain ⟨⟨y, hy, h1⟩, _⟩ := h.yes v e
    exact ⟨y, List.mem_append.2 (.inl hy), h1⟩
  · rcases List.mem_append.1 hy with hy | hy
    · exact (h.yes v e).2 y hy he
    · rw [List.mem_singleton.1 hy] at he ⊢
      rcases hh with hh | ⟨u, e2, h2⟩
      · rw [hh] at he; cases he
      · rw [e] at e2; cases e2; exact h2
theorem Nx.take {L : List Tm} {j : Nat} {x : Tm} {r : Option Int} (h : Nx (L.take j) r) (hx : L[j]? = some x) (hh : el x = true) (hl : ∀ v, r = some v → wn x < v) : Nx (L.take (j + 1)) (some (wn x)) := by
  rw [take_one hx]
  refine ⟨(fun e => by cases e), fun v e => ?_⟩
  cases e
  refine ⟨⟨x, by simp, hh, rfl⟩, fun y hy he => ?_⟩
  rcases List.mem_append.1 hy with hy | hy
  · cases r with
    | none => rw [h.no rfl y hy] at he; cases he
    | some u => have := (h.yes u rfl).2 y hy he; have := hl u rfl; omega
  · rw [List.mem_singleton.1 hy]; omega
section
variable {w : World} {r : Nat} {v : Value} {L : List Tm}
set_option maxHeartbeats 1600000 in
theorem rnext_dx (h : DX w r v L) : Calls Try.prog 13 #[.pointer (some ⟨r, 0, none⟩)] w fun e w' => (∃ q, Nx L q ∧ e = .returned (.tuple #[.int .u64 (nxI q), .bool q.isSome])) ∧ Below w.heap.size w w' := by
  have hn64 := h.ok.len
  obtain ⟨n, hn⟩ : ∃ n, n = L.length := ⟨_, rfl⟩
  have HN : Hid (n = L.length) := hn
  obtain ⟨a, cc, hv⟩ := h.its.form
  subst hv
  rw [← hn] at h hn64
  have H0 : Hid (DX w r (.slice a n cc) L) := h
  have c0 := h.c0
  have hl := h.lt
  clear h hn
  go_enter Try.func13, Try.ntmps13
  go_wp2_with fail
  go_loopw [4, 5, 6] (fun q4 q5 q6 wr => ∃ (j : Nat) (q : Option Int), j ≤ n ∧ q4 = .int .u64 (nxI q) ∧ q5 = .bool q.isSome ∧ q6 = .int .i64 j ∧ Hid (Nx (L.take j) q ∧ Below w.heap.size w wr)) (fun _ _ q6 _ => n - (intOf q6).toNat)
  case atStart => exact ⟨0, none, by omega, rfl, rfl, rfl, Nx.nil, Below.refl _ _⟩
  case round =>
    obtain ⟨j, q, hj, rfl, rfl, rfl, HJ⟩ := hrel
    have hD := H0.out.below HJ.out.2
    have c1 := hD.c0
    have rl := hD.lt
    by_cases hjn : j < n
    · have hjn' : (j : Int) < (n : Int) := by omega
      obtain ⟨x, hx⟩ : ∃ x, L[j]? = some x := ⟨_, List.getElem?_eq_getElem (by have := HN.out; omega)⟩
      have hox := hD.ok.ok x (List.mem_of_getElem? hx)
      obtain ⟨g, c', e, hrow⟩ := hD.row hx
      cases e
      obtain ⟨d0, d1, d2, d3, d4, d5⟩ := hrow.all hx
      have hgl := hrow.lt
      have hb0 := hox.b0
      have hb1 := hox.b1
      have hd0 := hox.d0
      have hd1 := hox.d1
      have hwr : IntKind.u64.wrap (x.base + x.due) = x.base + x.due := by rw [IntKind.wrap_u64]; omega
      have HB : Hid (Below w.heap.size w (wr.alloc (.cells #[.int .i64 x.id, .int .u64 x.base, .bool x.halted, .int .u64 x.still, .bool x.set, .int .u64 x.due] 63))) := HJ.out.2.alloc HJ.out.2.size _
      have HX : Hid (Nx (L.take j) q ∧ L[j]? = some x) := ⟨HJ.out.1, hx⟩
      have K := fun w' => capped_any (x.base + x.due) w'
      have hwn : cap (x.base + x.due) = wn x := rfl
      rw [hwn] at K
      clear hD hrow hx hox HJ c0 hl hwn
      cases hs : x.set with
      | false =>
        have H1 : Hid (Nx (L.take (j + 1)) q) := HX.out.1.skip HX.out.2 (.inl (by unfold el; rw [hs]; rfl))
        rw [hs] at d4 HB
        go_wp2_with fail
        go_roundw
        case rel => exact ⟨j + 1, q, by omega, rfl, rfl, by go_num, H1.out, HB.out⟩
        case measure => simp [intOf]; omega
      | true =>
        rw [hs] at d4 HB
        cases hh : x.halted with
        | true =>
          have H1 : Hid (Nx (L.take (j + 1)) q) := HX.out.1.skip HX.out.2 (.inl (by unfold el; rw [hh]; simp))
          rw [hh] at d2 HB
          go_wp2_with fail
          go_roundw
          case rel => exact ⟨j + 1, q, by omega, rfl, rfl, by go_num, H1.out, HB.out⟩
          case measure => simp [intOf]; omega
        | false =>
          rw [hh] at d2 HB
          have he : el x = true := by unfold el; rw [hs, hh]; rfl
          cases q with
          | none =>
            have H1 : Hid (Nx (L.take (j + 1)) (some (wn x))) := HX.out.1.take HX.out.2 he (fun v e => by cases e)
            simp only [Option.isSome_none]
            clear he
            go_wp2_with fail
            refine (K _).mono ?_
            rintro e w2 ⟨rfl, rfl⟩
            go_wp2_with fail
            go_roundw
            case rel => exact ⟨j + 1, some (wn x), by omega, rfl, rfl, by go_num, H1.out, HB.out⟩
            case measure => simp [intOf]; omega
          | some u =>
            have e1 : nxI (some u) = u := rfl
            simp only [Option.isSome_some, e1]
            by_cases hlt : wn x < u
            · have H1 : Hid (Nx (L.take (j + 1)) (some (wn x))) := HX.out.1.take HX.out.2 he (fun v e => by cases e; exact hlt)
              clear he e1
              go_wp2_with fail
              refine (K _).mono ?_
              rintro e w2 ⟨rfl, rfl⟩
              go_wp2_with fail
              refine (K _).mono ?_
              rintro e w2 ⟨rfl, rfl⟩
              go_wp2_with fail
              go_roundw
              case rel => exact ⟨j + 1, some (wn x), by omega, rfl, rfl, by go_num, H1.out, HB.out⟩
              case measure => simp [intOf]; omega
            · have H1 : Hid (Nx (L.take (j + 1)) (some u)) := HX.out.1.skip HX.out.2 (.inr ⟨u, rfl, by omega⟩)
              clear he e1
              go_wp2_with fail
              refine (K _).mono ?_
              rintro e w2 ⟨rfl, rfl⟩
              go_wp2_with fail
              go_roundw
              case rel => exact ⟨j + 1, some u, by omega, rfl, rfl, by go_num, H1.out, HB.out⟩
              case measure => simp [intOf]; omega
    · obtain rfl : j = n := by omega
      have HF : Hid (Nx L q ∧ Below w.heap.size w wr) := ⟨by have := HJ.out.1; rw [HN.out, List.take_length] at this; exact this, HJ.out.2⟩
      clear hD HJ H0 c0 hl
      go_wp2_with fail
      go_ret2
      exact ⟨⟨q, HF.out.1, rfl⟩, HF.out.2⟩
end
end Go.Proofs.Ytgiafngiledmbaa
