/-
  A scheduler, plainly: those that are there, the queues, what each core was charged; who is found, changed, added, taken away; who runs.
-/
import Derived.Test.YtgdnklmnchcmeaaBase
namespace Go.Proofs.Ytgdnklmnchcmeaa
open Go.RowKit Go.Maps
set_option linter.unusedVariables false
set_option maxRecDepth 20000

/-- one -/
structure On where
  id : Int
  w : Int
  cr : Int
  co : Nat
  st : Int
/-- all -/
structure St where
  L : List On
  Q : Nat → List Int
  R : Nat → Int
structure On.Ok (n : Nat) (per : Int) (x : On) : Prop where
  id : KW x.id
  w0 : 1 ≤ x.w
  w1 : x.w ≤ 256
  c0 : -per ≤ x.cr
  c1 : x.cr ≤ per
  co : x.co < n
  st : x.st = 1 ∨ x.st = 2 ∨ x.st = 3
def fnd (L : List On) (id : Int) : Option On := L.find? (fun x => x.id == id)
def rn (L : List On) (c : Nat) : Option On := L.find? (fun x => x.st == 2 && x.co == c)
def mod (L : List On) (k : Int) (f : On → On) : List On := L.map fun x => if x.id = k then f x else x
def del (L : List On) (k : Int) : List On := L.filter fun x => !(x.id == k)
def outQ (Q : Nat → List Int) (k : Int) (c : Nat) : List Int := (Q c).filter fun x => !(x == k)
def addQ (Q : Nat → List Int) (c : Nat) (k : Int) (d : Nat) : List Int := if d = c then Q d ++ [k] else Q d
structure SOk (n : Nat) (per : Int) (S : St) : Prop where
  hn : 1 ≤ n ∧ n ≤ 8
  hp : 1 ≤ per ∧ per ≤ 1048576
  len : S.L.length ≤ 64
  nd : (S.L.map (·.id)).Nodup
  ok : ∀ x ∈ S.L, x.Ok n per
  q1 : ∀ c, c < n → ∀ k, k ∈ S.Q c ↔ ∃ x ∈ S.L, x.id = k ∧ x.st = 1 ∧ x.co = c
  qn : ∀ c, c < n → (S.Q c).Nodup
  run : ∀ x ∈ S.L, ∀ y ∈ S.L, x.st = 2 → y.st = 2 → x.co = y.co → x = y
  r0 : ∀ c, c < 8 → 0 ≤ S.R c ∧ S.R c ≤ 2097152
theorem fnd_mem {L : List On} {id : Int} {x : On} (h : fnd L id = some x) : x ∈ L ∧ x.id = id := by
  unfold fnd at h
  have h1 := List.find?_some h
  exact ⟨List.mem_of_find?_eq_some h, by simpa using h1⟩
theorem fnd_none {L : List On} {id : Int} (h : fnd L id = none) : ∀ x ∈ L, x.id ≠ id := by
  unfold fnd at h
  intro x hx
  simpa using List.find?_eq_none.1 h x hx
theorem rn_mem {L : List On} {c : Nat} {x : On} (h : rn L c = some x) : x ∈ L ∧ x.st = 2 ∧ x.co = c := by
  unfold rn at h
  have h1 := List.find?_some h
  exact ⟨List.mem_of_find?_eq_some h, by simpa using h1⟩
theorem rn_none {L : List On} {c : Nat} (h : rn L c = none) : ∀ x ∈ L, x.st = 2 → x.co ≠ c := by
  unfold rn at h
  intro x hx h2
  have := List.find?_eq_none.1 h x hx
  simpa [h2] using this
theorem nd_inj : ∀ {L : List On}, (L.map (·.id)).Nodup → ∀ {x y : On}, x ∈ L → y ∈ L → x.id = y.id → x = y
  | [], _, _, _, hx, _, _ => by simp at hx
  | a :: r, hp, x, y, hx, hy, h => by
    obtain ⟨h1, h2⟩ := List.nodup_cons.1 hp
    rcases List.mem_cons.1 hx with ex | hx'
    · rcases List.mem_cons.1 hy with ey | hy'
      · rw [ex, ey]
      · exact absurd (List.mem_map.2 ⟨y, hy', by rw [← h, ex]⟩) h1
    · rcases List.mem_cons.1 hy with ey | hy'
      · exact absurd (List.mem_map.2 ⟨x, hx', by rw [h, ey]⟩) h1
      · exact nd_inj h2 hx' hy' h
theorem fnd_of {L : List On} (h : (L.map (·.id)).Nodup) {x : On} (hx : x ∈ L) : fnd L x.id = some x := by
  cases hq : fnd L x.id with
  | none => exact absurd rfl (fnd_none hq x hx)
  | some y => rw [nd_inj h (fnd_mem hq).1 hx (fnd_mem hq).2]
section
variable {n : Nat} {per : Int} {S : St} {k : Int} {x : On} {f : On → On}
theorem rn_of (h : SOk n per S) (hx : x ∈ S.L) (h2 : x.st = 2) : rn S.L x.co = some x := by
  cases hq : rn S.L x.co with
  | none => exact absurd rfl (rn_none hq x hx h2)
  | some y => rw [h.run y (rn_mem hq).1 x hx (rn_mem hq).2.1 h2 (rn_mem hq).2.2]
theorem len_mod (L : List On) (k : Int) (f : On → On) : (mod L k f).length = L.length := by simp [mod]
theorem ids_mod {L : List On} {k : Int} {f : On → On} (hf : ∀ x, (f x).id = x.id) : (mod L k f).map (·.id) = L.map (·.id) := by
  unfold mod
  rw [List.map_map]
  refine List.map_congr_left fun x _ => ?_
  show (if x.id = k then f x else x).id = x.id
  split
  · exact hf x
  · rfl
theorem mem_mod {L : List On} (hx : fnd L k = some x) (hd : (L.map (·.id)).Nodup) {z : On} : z ∈ mod L k f ↔ z = f x ∨ (z ∈ L ∧ z.id ≠ k) := by
  unfold mod
  rw [List.mem_map]
  constructor
  · rintro ⟨y, hy, rfl⟩
    by_cases e : y.id = k
    · rw [if_pos e, nd_inj hd hy (fnd_mem hx).1 (e.trans (fnd_mem hx).2.symm)]
      exact .inl rfl
    · rw [if_neg e]
      exact .inr ⟨hy, e⟩
  · rintro (rfl | ⟨h1, h2⟩)
    · exact ⟨x, (fnd_mem hx).1, by rw [if_pos (fnd_mem hx).2]⟩
    · exact ⟨z, h1, by rw [if_neg h2]⟩
theorem fnd_mod (L : List On) (k q : Int) {f : On → On} (hf : ∀ x, (f x).id = x.id) : fnd (mod L k f) q = if q = k then (fnd L q).map f else fnd L q := by
  unfold fnd mod
  rw [List.find?_map]
  have e : ((fun x : On => x.id == q) ∘ fun x => if x.id = k then f x else x) = fun x : On => x.id == q := by
    funext x
    show ((if x.id = k then f x else x).id == q) = (x.id == q)
    split
    · rw [hf]
    · rfl
  rw [e]
  cases hq : L.find? (fun x => x.id == q) with
  | none => simp
  | some y =>
    have hy : y.id = q := by have := List.find?_some hq; simpa using this
    simp only [Option.map_some]
    rw [hy]
    split <;> rfl
theorem fnd_del (L : List On) (k q : Int) : fnd (del L k) q = if q = k then none else fnd L q := by
  unfold fnd del
  rw [List.find?_filter]
  by_cases e : q = k
  · subst e
    rw [if_pos rfl]
    refine List.find?_eq_none.2 fun x _ => ?_
    simp
  · rw [if_neg e]
    refine congrArg (fun p => List.find? p L) (funext fun x => ?_)
    by_cases hx : x.id = q
    · simp [hx, e]
    · simp [hx]
theorem mem_del {L : List On} {z : On} : z ∈ del L k ↔ z ∈ L ∧ z.id ≠ k := by
  unfold del
  rw [List.mem_filter]
  simp
theorem len_del {L : List On} (hx : fnd L k = some x) (hd : (L.map (·.id)).Nodup) : (del L k).length + 1 = L.length := by
  induction L with
  | nil => cases hx
  | cons a r ih =>
    obtain ⟨h1, h2⟩ := List.nodup_cons.1 hd
    by_cases e : a.id = k
    · have : del (a :: r) k = r := by
        unfold del
        rw [List.filter_cons_of_neg (by simp [e])]
        refine List.filter_eq_self.2 fun y hy => ?_
        have : y.id ≠ k := fun e2 => h1 (List.mem_map.2 ⟨y, hy, e2.trans e.symm⟩)
        simpa using this
      rw [this]; rfl
    · have : fnd r k = some x := by
        unfold fnd at hx ⊢
        rw [List.find?_cons_of_neg (by simpa using e)] at hx
        exact hx
      have h3 := ih this h2
      have h4 : del (a :: r) k = a :: del r k := by unfold del; rw [List.filter_cons_of_pos (by simpa using e)]
      rw [h4]
      simp only [List.length_cons]
      omega
theorem mem_outQ {Q : Nat → List Int} {c : Nat} {j : Int} : j ∈ outQ Q k c ↔ j ∈ Q c ∧ j ≠ k := by
  unfold outQ
  rw [List.mem_filter]
  simp
theorem mem_addQ {Q : Nat → List Int} {c d : Nat} {j : Int} : j ∈ addQ Q c k d ↔ j ∈ Q d ∨ (d = c ∧ j = k) := by
  unfold addQ
  split
  · rename_i e; simp [e]
  · rename_i e; simp [e]
/-- who is not ready stands in no queue -/
theorem SOk.notin (h : SOk n per S) (hx : fnd S.L k = some x) {c : Nat} (hc : c < n) (hs : ¬ (x.st = 1 ∧ x.co = c)) : k ∉ S.Q c := fun hk => by
  obtain ⟨y, hy, e, h1, h2⟩ := (h.q1 c hc k).1 hk
  have := nd_inj h.nd hy (fnd_mem hx).1 (e.trans (fnd_mem hx).2.symm)
  subst this
  exact hs ⟨h1, h2⟩
/-- one turned -/
theorem SOk.turn (h : SOk n per S) (hx : fnd S.L k = some x) (hf : ∀ x, (f x).id = x.id) (hy : (f x).Ok n per) {Q' : Nat → List Int} {R' : Nat → Int}
    (hq : ∀ c, c < n → ∀ j, j ∈ Q' c ↔ if j = k then (f x).st = 1 ∧ (f x).co = c else j ∈ S.Q c) (hqn : ∀ c, c < n → (Q' c).Nodup)
    (hr : (f x).st = 2 → ∀ z ∈ S.L, z.id ≠ k → z.st = 2 → z.co ≠ (f x).co) (hR : ∀ c, c < 8 → 0 ≤ R' c ∧ R' c ≤ 2097152) : SOk n per ⟨mod S.L k f, Q', R'⟩ := by
  refine ⟨h.hn, h.hp, by rw [len_mod]; exact h.len, by rw [ids_mod hf]; exact h.nd, fun z hz => ?_, fun c hc j => ?_, hqn, fun a ha b hb h1 h2 h3 => ?_, hR⟩
  · rcases (mem_mod hx h.nd).1 hz with rfl | ⟨hz, _⟩
    · exact hy
    · exact h.ok z hz
  · rw [hq c hc j]
    have hid : (f x).id = k := (hf x).trans (fnd_mem hx).2
    by_cases e : j = k
    · subst e
      rw [if_pos rfl]
      constructor
      · rintro ⟨h1, h2⟩
        exact ⟨f x, (mem_mod hx h.nd).2 (.inl rfl), hid, h1, h2⟩
      · rintro ⟨z, hz, e1, h1, h2⟩
        rcases (mem_mod hx h.nd).1 hz with rfl | ⟨_, hne⟩
        · exact ⟨h1, h2⟩
        · exact absurd e1 hne
    · rw [if_neg e, h.q1 c hc j]
      constructor
      · rintro ⟨z, hz, e1, h1, h2⟩
        exact ⟨z, (mem_mod hx h.nd).2 (.inr ⟨hz, by rw [e1]; exact e⟩), e1, h1, h2⟩
      · rintro ⟨z, hz, e1, h1, h2⟩
        rcases (mem_mod hx h.nd).1 hz with rfl | ⟨hz, hne⟩
        · exact absurd (e1.symm.trans hid) e
        · exact ⟨z, hz, e1, h1, h2⟩
  · rcases (mem_mod hx h.nd).1 ha with rfl | ⟨ha, na⟩
    · rcases (mem_mod hx h.nd).1 hb with rfl | ⟨hb, nb⟩
      · rfl
      · exact absurd h3.symm (hr h1 b hb nb h2)
    · rcases (mem_mod hx h.nd).1 hb with rfl | ⟨hb, nb⟩
      · exact absurd h3 (hr h2 a ha na h1)
      · exact h.run a ha b hb h1 h2 h3
theorem SOk.out_nd (h : SOk n per S) (k : Int) {c : Nat} (hc : c < n) : (outQ S.Q k c).Nodup := (h.qn c hc).filter _
/-- out of the queues, and no more ready -/
theorem SOk.outs (h : SOk n per S) (hx : fnd S.L k = some x) (hf : ∀ x, (f x).id = x.id) (hy : (f x).Ok n per) (hs : (f x).st ≠ 1)
    (hr : (f x).st = 2 → ∀ z ∈ S.L, z.id ≠ k → z.st = 2 → z.co ≠ (f x).co) {R' : Nat → Int} (hR : ∀ c, c < 8 → 0 ≤ R' c ∧ R' c ≤ 2097152) : SOk n per ⟨mod S.L k f, outQ S.Q k, R'⟩ :=
  h.turn hx hf hy (fun c hc j => by
    rw [mem_outQ]
    by_cases e : j = k
    · rw [if_pos e]; constructor
      · rintro ⟨_, h2⟩; exact absurd e h2
      · rintro ⟨h1, _⟩; exact absurd h1 hs
    · rw [if_neg e]; simp [e]) (fun c hc => h.out_nd k hc) hr hR
/-- ready, the last of its core -/
theorem SOk.rdy (h : SOk n per S) (hx : fnd S.L k = some x) (hs : x.st ≠ 1) : SOk n per ⟨mod S.L k (fun x => ⟨x.id, x.w, x.cr, x.co, 1⟩), addQ S.Q x.co k, S.R⟩ := by
  have ho := h.ok x (fnd_mem hx).1
  refine h.turn (f := fun x => ⟨x.id, x.w, x.cr, x.co, 1⟩) hx (fun _ => rfl) ⟨ho.id, ho.w0, ho.w1, ho.c0, ho.c1, ho.co, .inl rfl⟩ (fun c hc j => ?_) (fun c hc => ?_) (fun e => absurd (show (1:Int) = 2 from e) (by decide)) h.r0
  · rw [mem_addQ]
    have hni := h.notin hx hc (fun e => hs e.1)
    by_cases e : j = k
    · subst e
      rw [if_pos rfl]
      simp only [hni, false_or, and_true, true_and]
      exact eq_comm
    · rw [if_neg e]; simp [e]
  · show (addQ S.Q x.co k c).Nodup
    unfold addQ
    split
    · refine List.nodup_append.2 ⟨h.qn c hc, by simp, fun a ha b hb => ?_⟩
      simp at hb
      subst hb
      rintro rfl
      exact h.notin hx hc (fun e => hs e.1) ha
    · exact h.qn c hc
/-- one added -/
theorem SOk.add (h : SOk n per S) (hk : KW k) (hx : fnd S.L k = none) {wt : Int} (h0 : 1 ≤ wt) (h1 : wt ≤ 256) {c : Nat} (hc : c < n) (hl : S.L.length < 64) : SOk n per ⟨S.L ++ [⟨k, wt, 0, c, 1⟩], addQ S.Q c k, S.R⟩ := by
  have hni : ∀ d, d < n → k ∉ S.Q d := fun d hd hm => by
    obtain ⟨y, hy, e, _⟩ := (h.q1 d hd k).1 hm
    exact fnd_none hx y hy e
  have hp := h.hp
  refine ⟨h.hn, h.hp, by simp; omega, ?_, fun z hz => ?_, fun d hd j => ?_, fun d hd => ?_, fun a ha b hb e1 e2 e3 => ?_, h.r0⟩
  · rw [List.map_append]
    refine List.nodup_append.2 ⟨h.nd, by simp, fun a ha b hb => ?_⟩
    simp at hb
    subst hb
    rintro rfl
    obtain ⟨y, hy, e⟩ := List.mem_map.1 ha
    exact fnd_none hx y hy e
  · rcases List.mem_append.1 hz with hz | hz
    · exact h.ok z hz
    · simp at hz
      subst hz
      exact ⟨hk, h0, h1, by show -per ≤ 0; omega, by show (0:Int) ≤ per; omega, hc, .inl rfl⟩
  · rw [mem_addQ, h.q1 d hd j]
    constructor
    · rintro (⟨z, hz, r⟩ | ⟨rfl, rfl⟩)
      · exact ⟨z, List.mem_append.2 (.inl hz), r⟩
      · exact ⟨⟨j, wt, 0, d, 1⟩, List.mem_append.2 (.inr (by simp)), rfl, rfl, rfl⟩
    · rintro ⟨z, hz, e1, e2, e3⟩
      rcases List.mem_append.1 hz with hz | hz
      · exact .inl ⟨z, hz, e1, e2, e3⟩
      · simp at hz
        subst hz
        exact .inr ⟨e3.symm, e1.symm⟩
  · show (addQ S.Q c k d).Nodup
    unfold addQ
    split
    · refine List.nodup_append.2 ⟨h.qn d hd, by simp, fun a ha b hb => ?_⟩
      simp at hb
      subst hb
      rintro rfl
      exact hni d hd ha
    · exact h.qn d hd
  · rcases List.mem_append.1 ha with ha | ha
    · rcases List.mem_append.1 hb with hb | hb
      · exact h.run a ha b hb e1 e2 e3
      · simp at hb; subst hb; exact absurd (show (1:Int) = 2 from e2) (by decide)
    · simp at ha; subst ha; exact absurd (show (1:Int) = 2 from e1) (by decide)
/-- one taken away -/
theorem SOk.rem (h : SOk n per S) (hx : fnd S.L k = some x) : SOk n per ⟨del S.L k, outQ S.Q k, S.R⟩ := by
  refine ⟨h.hn, h.hp, Nat.le_trans (List.length_filter_le _ _) h.len, h.nd.sublist (List.filter_sublist.map _), fun z hz => h.ok z (mem_del.1 hz).1, fun d hd j => ?_, fun d hd => h.out_nd k hd, fun a ha b hb => h.run a (mem_del.1 ha).1 b (mem_del.1 hb).1, h.r0⟩
  rw [mem_outQ, h.q1 d hd j]
  constructor
  · rintro ⟨⟨z, hz, e1, e2⟩, hne⟩
    exact ⟨z, mem_del.2 ⟨hz, by rw [e1]; exact hne⟩, e1, e2⟩
  · rintro ⟨z, hz, e1, e2⟩
    obtain ⟨h1, h2⟩ := mem_del.1 hz
    exact ⟨⟨z, h1, e1, e2⟩, by rw [← e1]; exact h2⟩
/-- all turned alike, but for their credits -/
theorem SOk.all (h : SOk n per S) {g : On → Int} (hg : ∀ x ∈ S.L, -per ≤ g x ∧ g x ≤ per) : SOk n per ⟨S.L.map fun x => ⟨x.id, x.w, g x, x.co, x.st⟩, S.Q, S.R⟩ := by
  have hm : ∀ z, z ∈ (S.L.map fun x => (⟨x.id, x.w, g x, x.co, x.st⟩ : On)) ↔ ∃ x ∈ S.L, (⟨x.id, x.w, g x, x.co, x.st⟩ : On) = z := fun z => List.mem_map
  refine ⟨h.hn, h.hp, by simpa using h.len, by rw [List.map_map]; exact h.nd, fun z hz => ?_, fun d hd j => ?_, h.qn, fun a ha b hb e1 e2 e3 => ?_, h.r0⟩
  · obtain ⟨x, hx, rfl⟩ := (hm z).1 hz
    have ho := h.ok x hx
    exact ⟨ho.id, ho.w0, ho.w1, (hg x hx).1, (hg x hx).2, ho.co, ho.st⟩
  · rw [h.q1 d hd j]
    constructor
    · rintro ⟨z, hz, r⟩
      exact ⟨_, (hm _).2 ⟨z, hz, rfl⟩, r⟩
    · rintro ⟨z, hz, r⟩
      obtain ⟨x, hx, rfl⟩ := (hm z).1 hz
      exact ⟨x, hx, r⟩
  · obtain ⟨x, hx, rfl⟩ := (hm a).1 ha
    obtain ⟨y, hy, rfl⟩ := (hm b).1 hb
    rw [h.run x hx y hy e1 e2 e3]
/-- who runs, behind one turned -/
theorem rn_turn (h : SOk n per S) (hx : fnd S.L k = some x) {Q' : Nat → List Int} {R' : Nat → Int} (h' : SOk n per ⟨mod S.L k f, Q', R'⟩) (hf : ∀ x, (f x).id = x.id) (i : Nat) :
    rn (mod S.L k f) i = if (f x).st = 2 ∧ (f x).co = i then some (f x) else if x.st = 2 ∧ x.co = i then none else rn S.L i := by
  have hm := (mem_mod hx h.nd (f := f)).2 (.inl rfl)
  by_cases e : (f x).st = 2 ∧ (f x).co = i
  · rw [if_pos e, ← e.2]
    exact rn_of h' hm e.1
  · rw [if_neg e]
    cases hq : rn (mod S.L k f) i with
    | none =>
      split
      · rfl
      · rename_i e2
        cases hr : rn S.L i with
        | none => rfl
        | some y =>
          obtain ⟨h1, h2, h3⟩ := rn_mem hr
          refine absurd h3 (rn_none hq y ((mem_mod hx h.nd).2 (.inr ⟨h1, fun e4 => e2 ?_⟩)) h2)
          rw [← nd_inj h.nd h1 (fnd_mem hx).1 (e4.trans (fnd_mem hx).2.symm)]
          exact ⟨h2, h3⟩
    | some y =>
      obtain ⟨h1, h2, h3⟩ := rn_mem hq
      rcases (mem_mod hx h.nd).1 h1 with rfl | ⟨h4, h5⟩
      · exact absurd ⟨h2, h3⟩ e
      · rw [if_neg, ← h3]
        · exact (rn_of h h4 h2).symm
        · rintro ⟨h6, h7⟩
          rw [h.run y h4 x (fnd_mem hx).1 h2 h6 (h3.trans h7.symm)] at h5
          exact h5 (fnd_mem hx).2
theorem rn_app (L : List On) (x : On) (hs : x.st ≠ 2) (i : Nat) : rn (L ++ [x]) i = rn L i := by
  unfold rn
  rw [List.find?_append]
  have : [x].find? (fun x => x.st == 2 && x.co == i) = none := by simp [hs]
  rw [this]
  cases L.find? (fun x => x.st == 2 && x.co == i) <;> rfl
theorem rn_del (h : SOk n per S) (hx : fnd S.L k = some x) (hs : x.st ≠ 2) (i : Nat) : rn (del S.L k) i = rn S.L i := by
  unfold rn del
  rw [List.find?_filter]
  refine find?_congr' fun y hy => ?_
  by_cases e : y.id = k
  · rw [nd_inj h.nd hy (fnd_mem hx).1 (e.trans (fnd_mem hx).2.symm)]
    simp [hs]
  · simp [e]
    rfl
where find?_congr' : ∀ {L : List On} {p q : On → Bool}, (∀ x ∈ L, p x = q x) → L.find? p = L.find? q
  | [], _, _, _ => rfl
  | a :: r, p, q, h => by
    rw [List.find?_cons, List.find?_cons, h a (by simp), find?_congr' fun x hx => h x (by simp [hx])]
/-- a queue is short -/
theorem SOk.qlen (h : SOk n per S) {c : Nat} (hc : c < n) : (S.Q c).length ≤ 64 := by
  have := len_le_of_sub (S.Q c) (S.L.map (·.id)) (h.qn c hc) fun k hk => by
    obtain ⟨x, hx, e, _⟩ := (h.q1 c hc k).1 hk
    exact List.mem_map.2 ⟨x, hx, e⟩
  have := h.len
  simp at *
  omega
theorem SOk.new (hn : 1 ≤ n ∧ n ≤ 8) (hp : 1 ≤ per ∧ per ≤ 1048576) : SOk n per ⟨[], fun _ => [], fun _ => 0⟩ :=
  ⟨hn, hp, by simp, by simp, by simp, by simp, by simp, by simp, fun _ _ => ⟨show (0:Int) ≤ 0 by decide, show (0:Int) ≤ 2097152 by decide⟩⟩
end
end Go.Proofs.Ytgdnklmnchcmeaa
