/- Joined texts: Lk0, Rt0, Rt1. -/
import Derived.Test.YtkfijjjnidiejaaDoorQPure3

/-
  Pure: how far a search goes; the way that is told.
-/
namespace Go.Proofs.YtkfijjjnidiejaaDoor.Rq
set_option maxRecDepth 100000

section
variable {bk nx : Nat → List Nat} {may : Nat → Bool} {e : Nat}

theorem Wy.lt {N n x : Nat} (he : e < N) (hb : ∀ x b, b ∈ bk x → b < N) (hw : Wy bk may e n x) : x < N := by
  cases hw with
  | base _ => exact he
  | step _ h _ => exact hb _ _ h

theorem Ds.chain {N n : Nat} (he : e < N) (hb : ∀ x b, b ∈ bk x → b < N) : ∀ {x : Nat}, Ds bk may e n x → ∃ l : List Nat, l.length = n + 1 ∧ l.Nodup ∧ ∀ y ∈ l, y < N ∧ ∃ k, k ≤ n ∧ Ds bk may e k y := by
  induction n with
  | zero =>
    intro x h
    exact ⟨[x], rfl, by simp, fun y hy => by
      have : y = x := by simpa using hy
      subst this
      exact ⟨h.1.lt he hb, 0, Nat.le_refl _, h⟩⟩
  | succ n ih =>
    intro x h
    obtain ⟨y, _, hy⟩ := h.pred
    obtain ⟨l, h1, h2, h3⟩ := ih hy
    refine ⟨x :: l, by simp [h1], List.nodup_cons.2 ⟨fun hx => ?_, h2⟩, fun z hz => ?_⟩
    · obtain ⟨_, k, hk, hd⟩ := h3 x hx
      have := hd.uniq h
      omega
    · rcases List.mem_cons.1 hz with rfl | hz
      · exact ⟨h.1.lt he hb, n + 1, Nat.le_refl _, h⟩
      · obtain ⟨h4, k, hk, hd⟩ := h3 z hz
        exact ⟨h4, k, by omega, hd⟩

/-- A distance is less than the number of cells. -/
theorem Ds.lt {N n x : Nat} (he : e < N) (hb : ∀ x b, b ∈ bk x → b < N) (h : Ds bk may e n x) : n < N := by
  obtain ⟨l, h1, h2, h3⟩ := h.chain he hb
  have := nodup_lt h2 (n := N) (fun y hy => (h3 y hy).1)
  omega

/-- Along an edge it is one less at most. -/
theorem Ds.step {n m x b : Nat} (h : Ds bk may e n x) (hb : b ∈ bk x) (hm : may b = true) (k : Ds bk may e m b) : m ≤ n + 1 := by
  rcases Nat.lt_or_ge (n + 1) m with h1 | h1
  · exact absurd (.step h.1 hb hm) (k.2 (n + 1) h1)
  · exact h1

open Classical in
/-- Is it so far? -/
noncomputable def dsB (bk : Nat → List Nat) (may : Nat → Bool) (e d y : Nat) : Bool := decide (Ds bk may e d y)
theorem dsB_true {d y : Nat} : dsB bk may e d y = true ↔ Ds bk may e d y := by simp [dsB]

/-- The way that is told: from a cell, each time the first one that is nearer by one. -/
def pthF (nx : Nat → List Nat) (P : Nat → Nat → Bool) : Nat → Nat → List Nat
  | 0, at_ => [at_]
  | d + 1, at_ => at_ :: pthF nx P d (((nx at_).find? (P d)).getD at_)
theorem pthF_len (P : Nat → Nat → Bool) : ∀ (d c : Nat), (pthF nx P d c).length = d + 1
  | 0, _ => rfl
  | d + 1, _ => by simp [pthF, pthF_len P d]

/-- The next one. -/
theorem Ds.next {d c : Nat} (hbn : ∀ x b, b ∈ bk x → x ∈ nx b) (h : Ds bk may e (d + 1) c) : ∃ y, (nx c).find? (dsB bk may e d) = some y ∧ y ∈ nx c ∧ Ds bk may e d y := by
  obtain ⟨y, h1, h2⟩ := h.pred
  cases hf : (nx c).find? (dsB bk may e d) with
  | none =>
    have := List.find?_eq_none.1 hf y (hbn _ _ h1)
    exact absurd (dsB_true.2 h2) this
  | some z =>
    exact ⟨z, rfl, List.mem_of_find?_eq_some hf, dsB_true.1 (List.find?_some hf)⟩
end
end Go.Proofs.YtkfijjjnidiejaaDoor.Rq

/-
  Pure: what is told of routes, as numbers that can be worked out.
-/
namespace Go.Proofs.YtkfijjjnidiejaaDoor.Rq
set_option maxRecDepth 100000

theorem find_congr {α : Type} {p q : α → Bool} : ∀ {l : List α}, (∀ x ∈ l, p x = q x) → l.find? p = l.find? q
  | [], _ => rfl
  | x :: l, h => by
    rw [List.find?_cons, List.find?_cons, h x (by simp), find_congr (l := l) (fun y hy => h y (by simp [hy]))]

/-- Those from which a way of n steps goes to the end. -/
def wyL (N : Nat) (nx : Nat → List Nat) (may : Nat → Bool) (e : Nat) : Nat → List Nat
  | 0 => if may e = true then [e] else []
  | n + 1 => (List.range N).filter (fun b => may b && (nx b).any (fun x => (wyL N nx may e n).contains x))
/-- How many steps the shortest has. -/
def dsO (N : Nat) (nx : Nat → List Nat) (may : Nat → Bool) (e x : Nat) : Option Nat := (List.range N).find? (fun n => (wyL N nx may e n).contains x)
/-- Is it looked at? -/
def lkC (N : Nat) (nx : Nat → List Nat) (may : Nat → Bool) (e f : Nat) (h : Nat → Nat) (c : Nat) : Bool :=
  match dsO N nx may e c with
  | none => false
  | some d => match dsO N nx may e f with
    | none => true
    | some D => decide (d + h c ≤ D)
def looksF (N : Nat) (nx : Nat → List Nat) (may : Nat → Bool) (e f : Nat) (h : Nat → Nat) : Nat := ((List.range N).filter (lkC N nx may e f h)).length
/-- The route of D steps. -/
def routeF (N : Nat) (nx : Nat → List Nat) (may : Nat → Bool) (e f D : Nat) : List Nat := pthF nx (fun d y => dsO N nx may e y == some d) D f

section
variable {N : Nat} {bk nx : Nat → List Nat} {may : Nat → Bool} {e f : Nat} {h : Nat → Nat} {M : List (Nat × Nat)}

theorem mem_wyL (hbn : ∀ x b, b ∈ bk x ↔ b < N ∧ x ∈ nx b) : ∀ {n x : Nat}, x ∈ wyL N nx may e n ↔ Wy bk may e n x := by
  intro n
  induction n with
  | zero =>
    intro x
    unfold wyL
    constructor
    · intro hx
      split at hx
      · rename_i hm
        have : x = e := by simpa using hx
        subst this
        exact .base hm
      · simp at hx
    · intro hw
      cases hw with
      | base hm => rw [if_pos hm]; simp
  | succ n ih =>
    intro x
    unfold wyL
    simp only [List.mem_filter, List.mem_range, Bool.and_eq_true, List.any_eq_true, List.contains_iff_mem]
    constructor
    · rintro ⟨h1, h2, y, h3, h4⟩
      exact .step (ih.1 h4) ((hbn _ _).2 ⟨h1, h3⟩) h2
    · intro hw
      cases hw with
      | step h1 h2 h3 =>
        obtain ⟨h4, h5⟩ := (hbn _ _).1 h2
        exact ⟨h4, h3, _, h5, ih.2 h1⟩
theorem wyL_has (hbn : ∀ x b, b ∈ bk x ↔ b < N ∧ x ∈ nx b) {n x : Nat} : (wyL N nx may e n).contains x = true ↔ Wy bk may e n x := by
  rw [List.contains_iff_mem]; exact mem_wyL hbn
theorem dsO_ds (hbn : ∀ x b, b ∈ bk x ↔ b < N ∧ x ∈ nx b) {n x : Nat} (hd : dsO N nx may e x = some n) : Ds bk may e n x := by
  unfold dsO at hd
  rw [List.find?_range_eq_some] at hd
  obtain ⟨h1, _, h3⟩ := hd
  refine ⟨(wyL_has hbn).1 h1, fun m hm hw => ?_⟩
  have := h3 m hm
  rw [(wyL_has hbn).2 hw] at this
  cases this
theorem dsO_some (he : e < N) (hbn : ∀ x b, b ∈ bk x ↔ b < N ∧ x ∈ nx b) {n x : Nat} : dsO N nx may e x = some n ↔ Ds bk may e n x := by
  refine ⟨dsO_ds hbn, fun hd => ?_⟩
  have hlt := hd.lt he (N := N) (fun x b hb => ((hbn x b).1 hb).1)
  cases hq : dsO N nx may e x with
  | none =>
    unfold dsO at hq
    rw [List.find?_eq_none] at hq
    exact absurd ((wyL_has hbn).2 hd.1) (hq n (List.mem_range.2 hlt))
  | some m => rw [(dsO_ds hbn hq).uniq hd]
theorem dsO_none (he : e < N) (hbn : ∀ x b, b ∈ bk x ↔ b < N ∧ x ∈ nx b) {x : Nat} : dsO N nx may e x = none ↔ ∀ n, ¬ Wy bk may e n x := by
  constructor
  · intro hq n hw
    obtain ⟨m, _, hd⟩ := hw.ds
    rw [(dsO_some he hbn).2 hd] at hq
    cases hq
  · intro hn
    cases hq : dsO N nx may e x with
    | none => rfl
    | some m => exact absurd (dsO_ds hbn hq).1 (hn m)
theorem lkC_iff (he : e < N) (hbn : ∀ x b, b ∈ bk x ↔ b < N ∧ x ∈ nx b) {c : Nat} : lkC N nx may e f h c = true ↔ ∃ d, Lk bk may e f h c d := by
  unfold lkC
  constructor
  · intro hq
    split at hq
    · cases hq
    · rename_i d hd
      refine ⟨d, dsO_ds hbn hd, fun D hD => ?_⟩
      rw [(dsO_some he hbn).2 hD] at hq
      simpa using hq
  · rintro ⟨d, hd, hD⟩
    rw [(dsO_some he hbn).2 hd]
    show (match dsO N nx may e f with | none => true | some D => decide (d + h c ≤ D)) = true
    split
    · rfl
    · rename_i D hq
      exact decide_eq_true (hD D (dsO_ds hbn hq))
theorem Lk.lt (he : e < N) (hbn : ∀ x b, b ∈ bk x ↔ b < N ∧ x ∈ nx b) {c d : Nat} (hk : Lk bk may e f h c d) : c < N := hk.1.1.lt he (fun x b hb => ((hbn x b).1 hb).1)
theorem looks_le (he : e < N) (hbn : ∀ x b, b ∈ bk x ↔ b < N ∧ x ∈ nx b) (hnd : (M.map (·.1)).Nodup) (hM : ∀ c d, (c, d) ∈ M → Lk bk may e f h c d) : M.length ≤ looksF N nx may e f h := by
  have := List.Nodup.length_le_of_subset (l₂ := (List.range N).filter (lkC N nx may e f h)) hnd (fun x hx => by
    obtain ⟨p, hp, rfl⟩ := List.mem_map.1 hx
    have hk := hM p.1 p.2 hp
    exact List.mem_filter.2 ⟨List.mem_range.2 (hk.lt he hbn), (lkC_iff he hbn).2 ⟨_, hk⟩⟩)
  rw [List.length_map] at this
  exact this
theorem looks_eq (he : e < N) (hbn : ∀ x b, b ∈ bk x ↔ b < N ∧ x ∈ nx b) (hnd : (M.map (·.1)).Nodup) (hM : ∀ c d, (c, d) ∈ M ↔ Lk bk may e f h c d) : M.length = looksF N nx may e f h := by
  refine Nat.le_antisymm (looks_le he hbn hnd (fun c d => (hM c d).1)) ?_
  have := List.Nodup.length_le_of_subset (l₁ := (List.range N).filter (lkC N nx may e f h)) (l₂ := M.map (·.1)) (List.nodup_range.sublist List.filter_sublist) (fun x hx => by
    obtain ⟨_, h2⟩ := List.mem_filter.1 hx
    obtain ⟨d, hd⟩ := (lkC_iff he hbn).1 h2
    exact List.mem_map.2 ⟨(x, d), (hM x d).2 hd, rfl⟩)
  rw [List.length_map] at this
  exact this
/-- The way by what was met is the route. -/
theorem pth_route (he : e < N) (hbn : ∀ x b, b ∈ bk x ↔ b < N ∧ x ∈ nx b) (hl : Lft bk h f) (hM : ∀ c d, (c, d) ∈ M ↔ Lk bk may e f h c d) {D : Nat} (hD : Ds bk may e D f) :
    ∀ (d c : Nat), c < N → Ds bk may e d c → d + h c ≤ D → pthF nx (fun d y => decide ((y, d) ∈ M)) d c = pthF nx (fun d y => dsO N nx may e y == some d) d c
  | 0, _, _, _, _ => rfl
  | d + 1, c, hc, hd, hle => by
    have key : ∀ y ∈ nx c, decide ((y, d) ∈ M) = (dsO N nx may e y == some d) := by
      intro y hy
      have h1 := hl.one y c ((hbn _ _).2 ⟨hc, hy⟩)
      rw [Bool.eq_iff_iff, decide_eq_true_eq, beq_iff_eq, hM, dsO_some he hbn]
      refine ⟨fun h => h.1, fun h => ⟨h, fun D' hD' => ?_⟩⟩
      rw [hD'.uniq hD]
      omega
    unfold pthF
    rw [find_congr key]
    congr 1
    obtain ⟨z, h1, h2, h3⟩ := hd.next (nx := nx) (fun x b hb => ((hbn x b).1 hb).2)
    have hcg : (nx c).find? (fun y => dsO N nx may e y == some d) = some z := by
      rw [← h1]
      refine find_congr (fun y _ => ?_)
      rw [Bool.eq_iff_iff, beq_iff_eq, dsO_some he hbn, dsB_true]
    rw [hcg]
    have h4 := hl.one z c ((hbn _ _).2 ⟨hc, h2⟩)
    exact pth_route he hbn hl hM hD d z (h3.1.lt he (fun x b hb => ((hbn x b).1 hb).1)) h3 (by omega)
end
end Go.Proofs.YtkfijjjnidiejaaDoor.Rq

/-
  Pure: what routes are: their steps, what is left of them, and what makes no difference to them.
-/
namespace Go.Proofs.YtkfijjjnidiejaaDoor.Rq
set_option maxRecDepth 100000

/-- What is left of a route. -/
def pthR (N : Nat) (nx : Nat → List Nat) (may : Nat → Bool) (e : Nat) (d c : Nat) : List Nat := pthF nx (fun d y => dsO N nx may e y == some d) d c

section
variable {N : Nat} {bk nx : Nat → List Nat} {may may' : Nat → Bool} {e f : Nat} {h : Nat → Nat}

theorem pthR_len (d c : Nat) : (pthR N nx may e d c).length = d + 1 := pthF_len _ d c
theorem pthR_zero (c : Nat) : pthR N nx may e 0 c = [c] := rfl
theorem pthR_succ (he : e < N) (hbn : ∀ x b, b ∈ bk x ↔ b < N ∧ x ∈ nx b) {d c : Nat} (hd : Ds bk may e (d + 1) c) :
    ∃ y, (nx c).find? (fun y => dsO N nx may e y == some d) = some y ∧ y ∈ nx c ∧ Ds bk may e d y ∧ pthR N nx may e (d + 1) c = c :: pthR N nx may e d y := by
  obtain ⟨z, h1, h2, h3⟩ := hd.next (nx := nx) (fun x b hb => ((hbn x b).1 hb).2)
  have hcg : (nx c).find? (fun y => dsO N nx may e y == some d) = some z := by
    rw [← h1]
    refine find_congr (fun y _ => ?_)
    rw [Bool.eq_iff_iff, beq_iff_eq, dsO_some he hbn, dsB_true]
  refine ⟨z, hcg, h2, h3, ?_⟩
  show pthF nx _ (d + 1) c = _
  rw [show pthF nx (fun d y => dsO N nx may e y == some d) (d + 1) c = c :: pthF nx (fun d y => dsO N nx may e y == some d) d (((nx c).find? (fun y => dsO N nx may e y == some d)).getD c) from rfl, hcg]
  rfl
theorem pthR_head (d c : Nat) : (pthR N nx may e d c).getD 0 0 = c := by cases d <;> rfl
/-- Each of its cells is nearer by one; what is behind it is the route from there. -/
theorem pthR_at (he : e < N) (hbn : ∀ x b, b ∈ bk x ↔ b < N ∧ x ∈ nx b) : ∀ {d c : Nat}, Ds bk may e d c → ∀ i, i ≤ d →
    Ds bk may e (d - i) ((pthR N nx may e d c).getD i 0) ∧ (pthR N nx may e d c).drop i = pthR N nx may e (d - i) ((pthR N nx may e d c).getD i 0) := by
  intro d
  induction d with
  | zero =>
    intro c hd i hi
    obtain rfl : i = 0 := by omega
    exact ⟨hd, rfl⟩
  | succ d ih =>
    intro c hd i hi
    cases i with
    | zero => exact ⟨by rw [pthR_head]; exact hd, by rw [pthR_head]; rfl⟩
    | succ i =>
      obtain ⟨y, _, _, h3, h4⟩ := pthR_succ he hbn hd
      rw [h4]
      have := ih h3 i (by omega)
      have e1 : d + 1 - (i + 1) = d - i := by omega
      rw [e1]
      simpa using this
theorem pthR_step (he : e < N) (hbn : ∀ x b, b ∈ bk x ↔ b < N ∧ x ∈ nx b) : ∀ {d c : Nat}, Ds bk may e d c → ∀ i, i < d →
    (pthR N nx may e d c).getD (i + 1) 0 ∈ nx ((pthR N nx may e d c).getD i 0) := by
  intro d
  induction d with
  | zero => intro c hd i hi; omega
  | succ d ih =>
    intro c hd i hi
    obtain ⟨y, _, h2, h3, h4⟩ := pthR_succ he hbn hd
    rw [h4]
    cases i with
    | zero =>
      show (pthR N nx may e d y).getD 0 0 ∈ nx c
      rw [pthR_head]
      exact h2
    | succ i => simpa using ih h3 i (by omega)
theorem pthR_last (he : e < N) (hbn : ∀ x b, b ∈ bk x ↔ b < N ∧ x ∈ nx b) {d c : Nat} (hd : Ds bk may e d c) : (pthR N nx may e d c).getD d 0 = e := by
  have := (pthR_at he hbn hd d (Nat.le_refl _)).1
  rw [Nat.sub_self] at this
  exact this.zero

/-- Ways that two rules agree on. -/
theorem Wy.agree {G : Nat → Nat → Prop} (hG : ∀ d x b, b ∈ bk x → G (d + 1) b → G d x) (hm : ∀ d y, G d y → Wy bk may e d y → may y = true → may' y = true) {d y : Nat} (hw : Wy bk may e d y) (hg : G d y) : Wy bk may' e d y := by
  induction hw with
  | base hme => exact .base (hm 0 e hg (.base hme) hme)
  | step h1 h2 h3 ih => exact .step (ih (hG _ _ _ h2 hg)) h2 (hm _ _ hg (.step h1 h2 h3) h3)
theorem Wy.mono (hm : ∀ y, may y = true → may' y = true) {d y : Nat} (hw : Wy bk may e d y) : Wy bk may' e d y := by
  induction hw with
  | base hme => exact .base (hm _ hme)
  | step h1 h2 h3 ih => exact .step ih h2 (hm _ h3)
/-- Routes that go by the same distances are the same. -/
theorem pthR_agree (he : e < N) (hbn : ∀ x b, b ∈ bk x ↔ b < N ∧ x ∈ nx b) {G : Nat → Nat → Prop} (hG : ∀ d x y, y ∈ nx x → x < N → G (d + 1) x → G d y)
    (hd : ∀ d y, G d y → (Ds bk may e d y ↔ Ds bk may' e d y)) : ∀ {d c : Nat}, Ds bk may e d c → G d c → pthR N nx may e d c = pthR N nx may' e d c := by
  intro d
  induction d with
  | zero => intro c _ _; rfl
  | succ d ih =>
    intro c hc hg
    have hcN := hc.1.lt he (fun x b hb => ((hbn x b).1 hb).1)
    obtain ⟨y, h1, h2, h3, h4⟩ := pthR_succ he hbn hc
    have e1 : (nx c).find? (fun y => dsO N nx may' e y == some d) = (nx c).find? (fun y => dsO N nx may e y == some d) := by
      refine find_congr (fun z hz => ?_)
      rw [Bool.eq_iff_iff, beq_iff_eq, beq_iff_eq, dsO_some he hbn, dsO_some he hbn]
      exact (hd d z (hG d c z hz hcN hg)).symm
    have hc' := (hd _ _ hg).1 hc
    obtain ⟨y', h1', _, _, h4'⟩ := pthR_succ he hbn hc'
    rw [e1, h1] at h1'
    cases h1'
    rw [h4, h4', ih h3 (hG d c y h2 hcN hg)]

/-- From the beginning on, and from the end back. -/
theorem Fw.to_wy {ban : Nat → Bool} (hbn : ∀ x b, b ∈ bk x ↔ b < N ∧ x ∈ nx b) (hf : f < N) (hN : ∀ x y, y ∈ nx x → y < N) (hm : ∀ y, may y = true ↔ (ban y = false ∨ y = f)) : ∀ {n x : Nat}, Fw nx ban f n x → ∀ {m}, Wy bk may e m x → Wy bk may e (n + m) f := by
  intro n
  induction n with
  | zero =>
    intro x hw m hk
    cases hw
    simpa using hk
  | succ n ih =>
    intro x hw m hk
    cases hw with
    | step h1 h2 h3 =>
      rename_i y
      have hyN : y < N ∧ may y = true := by
        cases h1 with
        | base => exact ⟨hf, (hm _).2 (.inr rfl)⟩
        | step _ h5 h6 => exact ⟨hN _ _ h5, (hm _).2 (.inl h6)⟩
      have := ih h1 (.step hk ((hbn _ _).2 ⟨hyN.1, h2⟩) hyN.2)
      rw [show n + 1 + m = n + (m + 1) by omega]
      exact this
theorem Ds.to_fw {ban : Nat → Bool} (hbn : ∀ x b, b ∈ bk x ↔ b < N ∧ x ∈ nx b) (hm : ∀ y, may y = true ↔ (ban y = false ∨ y = f)) {n : Nat} (hd : Ds bk may e n f) : Fw nx ban f n e := by
  have key : ∀ k, k ≤ n → ∃ v, Fw nx ban f k v ∧ Ds bk may e (n - k) v := by
    intro k
    induction k with
    | zero => intro _; exact ⟨f, .base, hd⟩
    | succ k ih =>
      intro hk
      obtain ⟨v, h1, h2⟩ := ih (by omega)
      rw [show n - k = n - (k + 1) + 1 by omega] at h2
      obtain ⟨y, h3, h4⟩ := h2.pred
      have hyf : y ≠ f := by
        rintro rfl
        have := h4.uniq hd
        omega
      have hmy := h4.1.last
      rcases (hm y).1 hmy with h5 | h5
      · exact ⟨y, .step h1 ((hbn _ _).1 h3).2 h5, h4⟩
      · exact absurd h5 hyf
  obtain ⟨v, h1, h2⟩ := key n (Nat.le_refl _)
  rw [Nat.sub_self] at h2
  rw [← h2.zero]
  exact h1
theorem Fw.wy {ban : Nat → Bool} (hbn : ∀ x b, b ∈ bk x ↔ b < N ∧ x ∈ nx b) (hf : f < N) (hN : ∀ x y, y ∈ nx x → y < N) (hm : ∀ y, may y = true ↔ (ban y = false ∨ y = f)) {n : Nat} (hw : Fw nx ban f n e) : Wy bk may e n f := by
  have hme : may e = true := by
    cases hw with
    | base => exact (hm _).2 (.inr rfl)
    | step _ _ h3 => exact (hm _).2 (.inl h3)
  have := Fw.to_wy hbn hf hN hm hw (.base hme)
  simpa using this
/-- One way, and on by another one. -/
theorem Wy.trans {e' n m x : Nat} (h1 : Wy bk may e n e') (h2 : Wy bk may e' m x) : Wy bk may e (n + m) x := by
  induction h2 with
  | base _ => exact h1
  | step _ h4 h5 ih => exact .step ih h4 h5
theorem Lft.le {n x : Nat} (hl : Lft bk h f) (hw : Wy bk may e n x) : h e ≤ h x + n := by
  induction hw with
  | base _ => omega
  | step _ h2 _ ih => have := hl.one _ _ h2; omega
end
end Go.Proofs.YtkfijjjnidiejaaDoor.Rq
