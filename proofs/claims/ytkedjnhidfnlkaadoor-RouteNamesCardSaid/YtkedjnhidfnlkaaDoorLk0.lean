/-
  Pure: how far a search goes; the way that is told.
-/
import Derived.Test.YtkedjnhidfnlkaaDoorQPure3
namespace Go.Proofs.YtkedjnhidfnlkaaDoor.Rq
set_option maxRecDepth 100000

section
variable {bk nx : Nat → List Nat} {may : Nat → Bool} {e : Nat}

theorem Wy.lt {N n x : Nat} (he : e < N) (hb : ∀ x b, b ∈ bk x → b < N) (hw : Wy bk may e n x) : x < N := by
  cases hw with
  | base _ => exact he
  | step _ h _ => exact hb _ _ h

theorem Ds.chain {N n : Nat} (he : e < N) (hb : ∀ x b, b ∈ bk x → b < N) : ∀ {x : Nat}, Ds bk may e n x → ∃ l : List Nat, l.length = n + 1 ∧ l.Nodup ∧ ∀ y ∈ l, y < N ∧ ∃ k, k ≤ n ∧ Ds bk may e k y := by
  induction n with
  | zero =>
    intro x h
    exact ⟨[x], rfl, by simp, fun y hy => by
      have : y = x := by simpa using hy
      subst this
      exact ⟨h.1.lt he hb, 0, Nat.le_refl _, h⟩⟩
  | succ n ih =>
    intro x h
    obtain ⟨y, _, hy⟩ := h.pred
    obtain ⟨l, h1, h2, h3⟩ := ih hy
    refine ⟨x :: l, by simp [h1], List.nodup_cons.2 ⟨fun hx => ?_, h2⟩, fun z hz => ?_⟩
    · obtain ⟨_, k, hk, hd⟩ := h3 x hx
      have := hd.uniq h
      omega
    · rcases List.mem_cons.1 hz with rfl | hz
      · exact ⟨h.1.lt he hb, n + 1, Nat.le_refl _, h⟩
      · obtain ⟨h4, k, hk, hd⟩ := h3 z hz
        exact ⟨h4, k, by omega, hd⟩

/-- A distance is less than the number of cells. -/
theorem Ds.lt {N n x : Nat} (he : e < N) (hb : ∀ x b, b ∈ bk x → b < N) (h : Ds bk may e n x) : n < N := by
  obtain ⟨l, h1, h2, h3⟩ := h.chain he hb
  have := nodup_lt h2 (n := N) (fun y hy => (h3 y hy).1)
  omega

/-- Along an edge it is one less at most. -/
theorem Ds.step {n m x b : Nat} (h : Ds bk may e n x) (hb : b ∈ bk x) (hm : may b = true) (k : Ds bk may e m b) : m ≤ n + 1 := by
  rcases Nat.lt_or_ge (n + 1) m with h1 | h1
  · exact absurd (.step h.1 hb hm) (k.2 (n + 1) h1)
  · exact h1

open Classical in
/-- Is it so far? -/
noncomputable def dsB (bk : Nat → List Nat) (may : Nat → Bool) (e d y : Nat) : Bool := decide (Ds bk may e d y)
theorem dsB_true {d y : Nat} : dsB bk may e d y = true ↔ Ds bk may e d y := by simp [dsB]

/-- The way that is told: from a cell, each time the first one that is nearer by one. -/
def pthF (nx : Nat → List Nat) (P : Nat → Nat → Bool) : Nat → Nat → List Nat
  | 0, at_ => [at_]
  | d + 1, at_ => at_ :: pthF nx P d (((nx at_).find? (P d)).getD at_)
theorem pthF_len (P : Nat → Nat → Bool) : ∀ (d c : Nat), (pthF nx P d c).length = d + 1
  | 0, _ => rfl
  | d + 1, _ => by simp [pthF, pthF_len P d]

/-- The next one. -/
theorem Ds.next {d c : Nat} (hbn : ∀ x b, b ∈ bk x → x ∈ nx b) (h : Ds bk may e (d + 1) c) : ∃ y, (nx c).find? (dsB bk may e d) = some y ∧ y ∈ nx c ∧ Ds bk may e d y := by
  obtain ⟨y, h1, h2⟩ := h.pred
  cases hf : (nx c).find? (dsB bk may e d) with
  | none =>
    have := List.find?_eq_none.1 hf y (hbn _ _ h1)
    exact absurd (dsB_true.2 h2) this
  | some z =>
    exact ⟨z, rfl, List.mem_of_find?_eq_some hf, dsB_true.1 (List.find?_some hf)⟩
end
end Go.Proofs.YtkedjnhidfnlkaaDoor.Rq
