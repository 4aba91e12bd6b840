/-
  Pure: what is told of routes, as numbers that can be worked out.
-/
import Derived.Test.YtkedjnhidfnlkaaDoorLk0
namespace Go.Proofs.YtkedjnhidfnlkaaDoor.Rq
set_option maxRecDepth 100000

theorem find_congr {α : Type} {p q : α → Bool} : ∀ {l : List α}, (∀ x ∈ l, p x = q x) → l.find? p = l.find? q
  | [], _ => rfl
  | x :: l, h => by
    rw [List.find?_cons, List.find?_cons, h x (by simp), find_congr (l := l) (fun y hy => h y (by simp [hy]))]

/-- Those from which a way of n steps goes to the end. -/
def wyL (N : Nat) (nx : Nat → List Nat) (may : Nat → Bool) (e : Nat) : Nat → List Nat
  | 0 => if may e = true then [e] else []
  | n + 1 => (List.range N).filter (fun b => may b && (nx b).any (fun x => (wyL N nx may e n).contains x))
/-- How many steps the shortest has. -/
def dsO (N : Nat) (nx : Nat → List Nat) (may : Nat → Bool) (e x : Nat) : Option Nat := (List.range N).find? (fun n => (wyL N nx may e n).contains x)
/-- Is it looked at? -/
def lkC (N : Nat) (nx : Nat → List Nat) (may : Nat → Bool) (e f : Nat) (h : Nat → Nat) (c : Nat) : Bool :=
  match dsO N nx may e c with
  | none => false
  | some d => match dsO N nx may e f with
    | none => true
    | some D => decide (d + h c ≤ D)
def looksF (N : Nat) (nx : Nat → List Nat) (may : Nat → Bool) (e f : Nat) (h : Nat → Nat) : Nat := ((List.range N).filter (lkC N nx may e f h)).length
/-- The route of D steps. -/
def routeF (N : Nat) (nx : Nat → List Nat) (may : Nat → Bool) (e f D : Nat) : List Nat := pthF nx (fun d y => dsO N nx may e y == some d) D f

section
variable {N : Nat} {bk nx : Nat → List Nat} {may : Nat → Bool} {e f : Nat} {h : Nat → Nat} {M : List (Nat × Nat)}

theorem mem_wyL (hbn : ∀ x b, b ∈ bk x ↔ b < N ∧ x ∈ nx b) : ∀ {n x : Nat}, x ∈ wyL N nx may e n ↔ Wy bk may e n x := by
  intro n
  induction n with
  | zero =>
    intro x
    unfold wyL
    constructor
    · intro hx
      split at hx
      · rename_i hm
        have : x = e := by simpa using hx
        subst this
        exact .base hm
      · simp at hx
    · intro hw
      cases hw with
      | base hm => rw [if_pos hm]; simp
  | succ n ih =>
    intro x
    unfold wyL
    simp only [List.mem_filter, List.mem_range, Bool.and_eq_true, List.any_eq_true, List.contains_iff_mem]
    constructor
    · rintro ⟨h1, h2, y, h3, h4⟩
      exact .step (ih.1 h4) ((hbn _ _).2 ⟨h1, h3⟩) h2
    · intro hw
      cases hw with
      | step h1 h2 h3 =>
        obtain ⟨h4, h5⟩ := (hbn _ _).1 h2
        exact ⟨h4, h3, _, h5, ih.2 h1⟩
theorem wyL_has (hbn : ∀ x b, b ∈ bk x ↔ b < N ∧ x ∈ nx b) {n x : Nat} : (wyL N nx may e n).contains x = true ↔ Wy bk may e n x := by
  rw [List.contains_iff_mem]; exact mem_wyL hbn
theorem dsO_ds (hbn : ∀ x b, b ∈ bk x ↔ b < N ∧ x ∈ nx b) {n x : Nat} (hd : dsO N nx may e x = some n) : Ds bk may e n x := by
  unfold dsO at hd
  rw [List.find?_range_eq_some] at hd
  obtain ⟨h1, _, h3⟩ := hd
  refine ⟨(wyL_has hbn).1 h1, fun m hm hw => ?_⟩
  have := h3 m hm
  rw [(wyL_has hbn).2 hw] at this
  cases this
theorem dsO_some (he : e < N) (hbn : ∀ x b, b ∈ bk x ↔ b < N ∧ x ∈ nx b) {n x : Nat} : dsO N nx may e x = some n ↔ Ds bk may e n x := by
  refine ⟨dsO_ds hbn, fun hd => ?_⟩
  have hlt := hd.lt he (N := N) (fun x b hb => ((hbn x b).1 hb).1)
  cases hq : dsO N nx may e x with
  | none =>
    unfold dsO at hq
    rw [List.find?_eq_none] at hq
    exact absurd ((wyL_has hbn).2 hd.1) (hq n (List.mem_range.2 hlt))
  | some m => rw [(dsO_ds hbn hq).uniq hd]
theorem dsO_none (he : e < N) (hbn : ∀ x b, b ∈ bk x ↔ b < N ∧ x ∈ nx b) {x : Nat} : dsO N nx may e x = none ↔ ∀ n, ¬ Wy bk may e n x := by
  constructor
  · intro hq n hw
    obtain ⟨m, _, hd⟩ := hw.ds
    rw [(dsO_some he hbn).2 hd] at hq
    cases hq
  · intro hn
    cases hq : dsO N nx may e x with
    | none => rfl
    | some m => exact absurd (dsO_ds hbn hq).1 (hn m)
theorem lkC_iff (he : e < N) (hbn : ∀ x b, b ∈ bk x ↔ b < N ∧ x ∈ nx b) {c : Nat} : lkC N nx may e f h c = true ↔ ∃ d, Lk bk may e f h c d := by
  unfold lkC
  constructor
  · intro hq
    split at hq
    · cases hq
    · rename_i d hd
      refine ⟨d, dsO_ds hbn hd, fun D hD => ?_⟩
      rw [(dsO_some he hbn).2 hD] at hq
      simpa using hq
  · rintro ⟨d, hd, hD⟩
    rw [(dsO_some he hbn).2 hd]
    show (match dsO N nx may e f with | none => true | some D => decide (d + h c ≤ D)) = true
    split
    · rfl
    · rename_i D hq
      exact decide_eq_true (hD D (dsO_ds hbn hq))
theorem Lk.lt (he : e < N) (hbn : ∀ x b, b ∈ bk x ↔ b < N ∧ x ∈ nx b) {c d : Nat} (hk : Lk bk may e f h c d) : c < N := hk.1.1.lt he (fun x b hb => ((hbn x b).1 hb).1)
theorem looks_le (he : e < N) (hbn : ∀ x b, b ∈ bk x ↔ b < N ∧ x ∈ nx b) (hnd : (M.map (·.1)).Nodup) (hM : ∀ c d, (c, d) ∈ M → Lk bk may e f h c d) : M.length ≤ looksF N nx may e f h := by
  have := List.Nodup.length_le_of_subset (l₂ := (List.range N).filter (lkC N nx may e f h)) hnd (fun x hx => by
    obtain ⟨p, hp, rfl⟩ := List.mem_map.1 hx
    have hk := hM p.1 p.2 hp
    exact List.mem_filter.2 ⟨List.mem_range.2 (hk.lt he hbn), (lkC_iff he hbn).2 ⟨_, hk⟩⟩)
  rw [List.length_map] at this
  exact this
theorem looks_eq (he : e < N) (hbn : ∀ x b, b ∈ bk x ↔ b < N ∧ x ∈ nx b) (hnd : (M.map (·.1)).Nodup) (hM : ∀ c d, (c, d) ∈ M ↔ Lk bk may e f h c d) : M.length = looksF N nx may e f h := by
  refine Nat.le_antisymm (looks_le he hbn hnd (fun c d => (hM c d).1)) ?_
  have := List.Nodup.length_le_of_subset (l₁ := (List.range N).filter (lkC N nx may e f h)) (l₂ := M.map (·.1)) (List.nodup_range.sublist List.filter_sublist) (fun x hx => by
    obtain ⟨_, h2⟩ := List.mem_filter.1 hx
    obtain ⟨d, hd⟩ := (lkC_iff he hbn).1 h2
    exact List.mem_map.2 ⟨(x, d), (hM x d).2 hd, rfl⟩)
  rw [List.length_map] at this
  exact this
/-- The way by what was met is the route. -/
theorem pth_route (he : e < N) (hbn : ∀ x b, b ∈ bk x ↔ b < N ∧ x ∈ nx b) (hl : Lft bk h f) (hM : ∀ c d, (c, d) ∈ M ↔ Lk bk may e f h c d) {D : Nat} (hD : Ds bk may e D f) :
    ∀ (d c : Nat), c < N → Ds bk may e d c → d + h c ≤ D → pthF nx (fun d y => decide ((y, d) ∈ M)) d c = pthF nx (fun d y => dsO N nx may e y == some d) d c
  | 0, _, _, _, _ => rfl
  | d + 1, c, hc, hd, hle => by
    have key : ∀ y ∈ nx c, decide ((y, d) ∈ M) = (dsO N nx may e y == some d) := by
      intro y hy
      have h1 := hl.one y c ((hbn _ _).2 ⟨hc, hy⟩)
      rw [Bool.eq_iff_iff, decide_eq_true_eq, beq_iff_eq, hM, dsO_some he hbn]
      refine ⟨fun h => h.1, fun h => ⟨h, fun D' hD' => ?_⟩⟩
      rw [hD'.uniq hD]
      omega
    unfold pthF
    rw [find_congr key]
    congr 1
    obtain ⟨z, h1, h2, h3⟩ := hd.next (nx := nx) (fun x b hb => ((hbn x b).1 hb).2)
    have hcg : (nx c).find? (fun y => dsO N nx may e y == some d) = some z := by
      rw [← h1]
      refine find_congr (fun y _ => ?_)
      rw [Bool.eq_iff_iff, beq_iff_eq, dsO_some he hbn, dsB_true]
    rw [hcg]
    have h4 := hl.one z c ((hbn _ _).2 ⟨hc, h2⟩)
    exact pth_route he hbn hl hM hD d z (h3.1.lt he (fun x b hb => ((hbn x b).1 hb).1)) h3 (by omega)
end
end Go.Proofs.YtkedjnhidfnlkaaDoor.Rq
