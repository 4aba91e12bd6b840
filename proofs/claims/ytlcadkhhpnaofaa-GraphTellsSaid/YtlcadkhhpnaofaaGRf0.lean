/-
  Pure: what the document's graph tells: distances by steps of any relation, who is reached, parts, joints.
-/
import Derived.Test.YtlcadkhhpnaofaaGKos2
import Derived.Test.YtlcadkhhpnaofaaGTar2
namespace Gq

/-- Distances of n nodes from a, by steps of A. -/
structure FarA (A : Nat → Nat → Prop) (n a : Nat) (D : List Int) : Prop where
  len : D.length = n
  lo : ∀ i, -1 ≤ dg D i
  zero : ∀ i, dg D i = 0 ↔ i = a
  step : ∀ b c, b < n → c < n → A b c → 0 ≤ dg D b → 0 ≤ dg D c ∧ dg D c ≤ dg D b + 1
  pred : ∀ i, 1 ≤ dg D i → ∃ b, b < n ∧ A b i ∧ dg D b = dg D i - 1

theorem dg_out {D : List Int} {i : Nat} (h : D.length ≤ i) : dg D i = -1 := by
  unfold dg
  simp [List.getD, h]
theorem dg_lt {D : List Int} {i : Nat} (h : 0 ≤ dg D i) : i < D.length := by
  rcases Nat.lt_or_ge i D.length with h1 | h1
  · exact h1
  · rw [dg_out h1] at h; omega
theorem dg_ext {D E : List Int} (hl : D.length = E.length) (h : ∀ i, i < D.length → dg D i = dg E i) : D = E := by
  apply List.ext_getElem hl
  intro i h1 h2
  have := h i h1
  unfold dg at this
  simpa [List.getD, h1, h2] using this

theorem FarA.le {A : Nat → Nat → Prop} {n a : Nat} {D E : List Int} (h : FarA A n a D) (k : FarA A n a E) : ∀ (d : Nat) (i : Nat), dg D i = (d : Int) → 0 ≤ dg E i ∧ dg E i ≤ dg D i
  | 0, i, e => by
    have : i = a := (h.zero i).1 e
    have h2 := (k.zero i).2 this
    rw [h2]
    omega
  | d + 1, i, e => by
    obtain ⟨b, hb, hA, hp⟩ := h.pred i (by omega)
    obtain ⟨h1, h2⟩ := FarA.le h k d b (by omega)
    have hi : i < n := by rw [← h.len]; exact dg_lt (by omega)
    obtain ⟨h3, h4⟩ := k.step b i hb hi hA h1
    exact ⟨h3, by omega⟩
theorem FarA.uniq {A : Nat → Nat → Prop} {n a : Nat} {D E : List Int} (h : FarA A n a D) (k : FarA A n a E) : D = E := by
  refine dg_ext (by rw [h.len, k.len]) fun i _ => ?_
  have l1 := h.lo i
  have l2 := k.lo i
  rcases Int.lt_or_le (dg D i) 0 with h1 | h1
  · rcases Int.lt_or_le (dg E i) 0 with h2 | h2
    · omega
    · obtain ⟨d, hd⟩ := Int.eq_ofNat_of_zero_le h2
      have := (k.le h d i hd).1
      omega
  · obtain ⟨d, hd⟩ := Int.eq_ofNat_of_zero_le h1
    obtain ⟨h2, h3⟩ := h.le k d i hd
    obtain ⟨d', hd'⟩ := Int.eq_ofNat_of_zero_le h2
    have := (k.le h d' i hd').2
    omega
theorem Far.farA {R : Gr} {a : Nat} {D : List Int} (h : Far R a D) : FarA (fun b c => c ∈ row R b) R.length a D :=
  ⟨h.len, h.lo, h.zero, fun b c _ _ hA h0 => h.step b c hA h0, fun i hi => by
    obtain ⟨b, h1, h2⟩ := h.pred i hi
    exact ⟨b, row_lt h1, h1, h2⟩⟩

/-- Who is reached by steps of A. -/
inductive RchA (A : Nat → Nat → Prop) (n a : Nat) : Nat → Prop
  | refl : RchA A n a a
  | tail {b c : Nat} : RchA A n a b → b < n → c < n → A b c → RchA A n a c
theorem FarA.reach {A : Nat → Nat → Prop} {n a : Nat} {D : List Int} (h : FarA A n a D) (i : Nat) : 0 ≤ dg D i ↔ RchA A n a i := by
  constructor
  · intro hi
    obtain ⟨d, hd⟩ := Int.eq_ofNat_of_zero_le hi
    clear hi
    induction d generalizing i with
    | zero => rw [(h.zero i).1 hd]; exact .refl
    | succ d ih =>
      obtain ⟨b, hb, hA, hp⟩ := h.pred i (by omega)
      exact .tail (ih b (by omega)) hb (by rw [← h.len]; exact dg_lt (by omega)) hA
  · intro hr
    induction hr with
    | refl => rw [(h.zero a).2 rfl]; omega
    | tail _ hb hc hA ih => exact (h.step _ _ hb hc hA ih).1
theorem rch_con {R : Gr} (hO : Ok R) {v a : Nat} (ha : a ≠ v) (x : Nat) : RchA (fun b c => c ∈ adj R b ∧ c ≠ v) R.length a x ↔ Con R v a x := by
  constructor
  · intro h
    induction h with
    | refl => exact .refl ha
    | tail _ _ _ hA ih => exact ih.trans (.head ih.last hA.1 (.refl hA.2))
  · intro h
    have key : ∀ p q, Con R v p q → RchA (fun b c => c ∈ adj R b ∧ c ≠ v) R.length a p → RchA (fun b c => c ∈ adj R b ∧ c ≠ v) R.length a q := by
      intro p q hpq
      induction hpq with
      | refl _ => exact id
      | head _ hc hp ih => exact fun hr => ih (.tail hr (adj_lt hO (adj_symm hO hc)) (adj_lt hO hc) ⟨hc, hp.first⟩)
    exact key a x h .refl
theorem rch_joined {R : Gr} (hO : Ok R) {a : Nat} (x : Nat) : RchA (fun b c => c ∈ adj R b) R.length a x ↔ Joined R a x := by
  constructor
  · intro h
    induction h with
    | refl => exact .refl trivial
    | tail _ _ _ hA ih => exact ih.trans (.head trivial hA (.refl trivial))
  · intro h
    have key : ∀ p q, Joined R p q → RchA (fun b c => c ∈ adj R b) R.length a p → RchA (fun b c => c ∈ adj R b) R.length a q := by
      intro p q hpq
      induction hpq with
      | refl _ => exact id
      | head _ hc hp ih => exact fun hr => ih (.tail hr (adj_lt hO (adj_symm hO hc)) (adj_lt hO hc) hc)
    exact key a x h .refl

/-! Level by level -/
/-- Behind the round of far - 1; of the round of far the nodes ahead of b, and of node b the ends ahead of c, are done. -/
structure LvA (A : Nat → Nat → Prop) (n a far b c : Nat) (more : Bool) (D : List Int) : Prop where
  len : D.length = n
  lo : ∀ i, -1 ≤ dg D i
  hi : ∀ i, dg D i ≤ (far : Int) + 1
  zero : ∀ i, dg D i = 0 ↔ i = a
  step : ∀ p q, p < n → q < n → A p q → 0 ≤ dg D p → (dg D p < (far : Int) ∨ (dg D p = (far : Int) ∧ (p < b ∨ (p = b ∧ q < c)))) → 0 ≤ dg D q ∧ dg D q ≤ dg D p + 1
  pred : ∀ i, 1 ≤ dg D i → ∃ p, p < n ∧ A p i ∧ dg D p = dg D i - 1
  mr : more = false → ∀ i, dg D i ≤ (far : Int)
  cnt : D.countP (fun x => decide (x < 0)) + far + 1 + more.toNat ≤ n

theorem lv_start {A : Nat → Nat → Prop} {n a : Nat} (ha : a < n) : LvA A n a 0 0 0 false ((List.replicate n (-1)).set a 0) := by
  have hd : ∀ i, dg ((List.replicate n (-1 : Int)).set a 0) i = if i = a then 0 else -1 := by
    intro i
    rw [dg_set (by simpa using ha)]
    split
    · rfl
    · unfold dg; simp only [List.getD_eq_getElem?_getD, List.getElem?_replicate]; split <;> rfl
  refine ⟨by simp, fun i => ?_, fun i => ?_, fun i => ?_, fun p q _ _ _ h0 h => ?_, fun i h => ?_, fun _ i => ?_, ?_⟩
  · rw [hd]; split <;> omega
  · rw [hd]; split <;> omega
  · rw [hd]
    constructor
    · intro h
      split at h
      · assumption
      · omega
    · intro h; rw [if_pos h]
  · rcases h with h | ⟨_, h | ⟨_, h⟩⟩
    · omega
    · omega
    · omega
  · rw [hd] at h
    split at h <;> omega
  · rw [hd]; split <;> omega
  · rw [List.countP_set (by simpa using ha)]
    have h1 : (List.replicate n (-1 : Int)).countP (fun x => decide (x < 0)) = n := by
      rw [List.countP_replicate]; simp
    rw [h1]
    simp
    omega

theorem LvA.skipB {A : Nat → Nat → Prop} {n a far b : Nat} {more : Bool} {D : List Int} (h : LvA A n a far b 0 more D) (hb : dg D b ≠ (far : Int)) : LvA A n a far (b + 1) 0 more D :=
  ⟨h.len, h.lo, h.hi, h.zero, fun p q hp hq hA h0 hh => h.step p q hp hq hA h0 (by
    rcases hh with hh | ⟨h1, h2 | ⟨_, h2⟩⟩
    · exact .inl hh
    · refine .inr ⟨h1, .inl ?_⟩
      have : p ≠ b := fun e => hb (e ▸ h1)
      omega
    · omega), h.pred, h.mr, h.cnt⟩
theorem LvA.endB {A : Nat → Nat → Prop} {n a far b : Nat} {more : Bool} {D : List Int} (h : LvA A n a far b n more D) : LvA A n a far (b + 1) 0 more D :=
  ⟨h.len, h.lo, h.hi, h.zero, fun p q hp hq hA h0 hh => h.step p q hp hq hA h0 (by
    rcases hh with hh | ⟨h1, h2 | ⟨_, h2⟩⟩
    · exact .inl hh
    · refine .inr ⟨h1, ?_⟩
      by_cases e : p = b
      · exact .inr ⟨e, hq⟩
      · exact .inl (by omega)
    · omega), h.pred, h.mr, h.cnt⟩
theorem LvA.skipC {A : Nat → Nat → Prop} {n a far b c : Nat} {more : Bool} {D : List Int} (h : LvA A n a far b c more D) (hb : dg D b = (far : Int)) (hc : 0 ≤ dg D c ∨ ¬ A b c) : LvA A n a far b (c + 1) more D :=
  ⟨h.len, h.lo, h.hi, h.zero, fun p q hp hq hA h0 hh => by
    by_cases e : p = b ∧ q = c
    · obtain ⟨rfl, rfl⟩ := e
      rcases hc with hc | hc
      · exact ⟨hc, by have := h.hi q; omega⟩
      · exact absurd hA hc
    · refine h.step p q hp hq hA h0 ?_
      rcases hh with hh | ⟨h1, h2 | ⟨h2, h3⟩⟩
      · exact .inl hh
      · exact .inr ⟨h1, .inl h2⟩
      · refine .inr ⟨h1, .inr ⟨h2, ?_⟩⟩
        have : q ≠ c := fun e' => e ⟨h2, e'⟩
        omega, h.pred, h.mr, h.cnt⟩
theorem LvA.put {A : Nat → Nat → Prop} {n a far b c : Nat} {more : Bool} {D : List Int} (h : LvA A n a far b c more D) (hbn : b < n) (hcn : c < n) (hb : dg D b = (far : Int)) (hc : dg D c < 0) (hA : A b c) : LvA A n a far b (c + 1) true (D.set c ((far : Int) + 1)) := by
  have hcl : c < D.length := by rw [h.len]; exact hcn
  have hd : ∀ i, dg (D.set c ((far : Int) + 1)) i = if i = c then (far : Int) + 1 else dg D i := dg_set hcl _
  have hne : ∀ p, 0 ≤ dg D p → p ≠ c := fun p hp e => by rw [e] at hp; omega
  refine ⟨by simpa using h.len, fun i => ?_, fun i => ?_, fun i => ?_, fun p q hp hq hA' h0 hh => ?_, fun i hi => ?_, fun e => (by cases e), ?_⟩
  · rw [hd]; split
    · omega
    · exact h.lo i
  · rw [hd]; split
    · omega
    · exact h.hi i
  · rw [hd]; split
    · rename_i e
      have := (h.zero c)
      constructor
      · intro h'; omega
      · intro h'
        have : dg D c = 0 := (h.zero c).2 (by rw [← e]; exact h')
        omega
    · exact h.zero i
  · rw [hd] at h0 hh
    by_cases ep : p = c
    · rw [if_pos ep] at h0 hh
      rcases hh with hh | ⟨hh, _⟩ <;> omega
    rw [if_neg ep] at h0 hh
    rw [hd p, if_neg ep, hd]
    by_cases e : q = c
    · rw [if_pos e]
      refine ⟨by omega, ?_⟩
      rcases hh with hh | ⟨h1, h2 | ⟨h2, h3⟩⟩
      · have := (h.step p q hp hq hA' h0 (.inl hh)).1
        rw [e] at this; omega
      · have := (h.step p q hp hq hA' h0 (.inr ⟨h1, .inl h2⟩)).1
        rw [e] at this; omega
      · omega
    · rw [if_neg e]
      refine h.step p q hp hq hA' h0 ?_
      rcases hh with hh | ⟨h1, h2 | ⟨h2, h3⟩⟩
      · exact .inl hh
      · exact .inr ⟨h1, .inl h2⟩
      · exact .inr ⟨h1, .inr ⟨h2, by omega⟩⟩
  · rw [hd] at hi
    by_cases e : i = c
    · subst e
      refine ⟨b, hbn, hA, ?_⟩
      rw [hd, hd, if_pos rfl, if_neg (hne b (by omega))]
      omega
    · rw [if_neg e] at hi
      obtain ⟨p, h1, h2, h3⟩ := h.pred i hi
      refine ⟨p, h1, h2, ?_⟩
      rw [hd, hd, if_neg e, if_neg (hne p (by omega))]
      exact h3
  · have hlt := h.cnt
    rw [List.countP_set hcl]
    have e1 : D[c] = dg D c := by simp [dg, List.getD, hcl]
    have hpos : 0 < D.countP (fun x => decide (x < 0)) := List.countP_pos_iff.2 ⟨D[c], List.getElem_mem hcl, by rw [e1]; simpa using hc⟩
    have c1 : decide (D[c] < 0) = true := by rw [e1]; simpa using hc
    have c2 : decide ((far : Int) + 1 < 0) = false := by simp; omega
    rw [if_pos c1, if_neg (by rw [c2]; simp)]
    simp
    omega
/-- A round has ended, and there was more. -/
theorem LvA.next {A : Nat → Nat → Prop} {n a far : Nat} {D : List Int} (h : LvA A n a far n 0 true D) : LvA A n a (far + 1) 0 0 false D :=
  ⟨h.len, h.lo, fun i => by have := h.hi i; omega, h.zero, fun p q hp hq hA h0 hh => h.step p q hp hq hA h0 (by
    rcases hh with hh | ⟨h1, h2 | ⟨_, h2⟩⟩
    · rcases Int.lt_or_le (dg D p) (far : Int) with h3 | h3
      · exact .inl h3
      · exact .inr ⟨by omega, .inl hp⟩
    · omega
    · omega), h.pred, fun _ i => by have := h.hi i; omega, by have := h.cnt; simp at this ⊢; omega⟩
theorem LvA.done {A : Nat → Nat → Prop} {n a far : Nat} {D : List Int} (h : LvA A n a far n 0 false D) : FarA A n a D :=
  ⟨h.len, h.lo, h.zero, fun p q hp hq hA h0 => h.step p q hp hq hA h0 (by
    have := h.mr rfl p
    rcases Int.lt_or_le (dg D p) (far : Int) with h3 | h3
    · exact .inl h3
    · exact .inr ⟨by omega, .inl hp⟩), h.pred⟩
theorem LvA.lt {A : Nat → Nat → Prop} {n a far b c : Nat} {more : Bool} {D : List Int} (h : LvA A n a far b c more D) : far < n := by
  have := h.cnt; omega
end Gq
