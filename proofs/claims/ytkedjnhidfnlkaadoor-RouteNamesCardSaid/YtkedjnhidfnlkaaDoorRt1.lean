/-
  Pure: what routes are: their steps, what is left of them, and what makes no difference to them.
-/
import Derived.Test.YtkedjnhidfnlkaaDoorRt0
namespace Go.Proofs.YtkedjnhidfnlkaaDoor.Rq
set_option maxRecDepth 100000

/-- What is left of a route. -/
def pthR (N : Nat) (nx : Nat → List Nat) (may : Nat → Bool) (e : Nat) (d c : Nat) : List Nat := pthF nx (fun d y => dsO N nx may e y == some d) d c

section
variable {N : Nat} {bk nx : Nat → List Nat} {may may' : Nat → Bool} {e f : Nat} {h : Nat → Nat}

theorem pthR_len (d c : Nat) : (pthR N nx may e d c).length = d + 1 := pthF_len _ d c
theorem pthR_zero (c : Nat) : pthR N nx may e 0 c = [c] := rfl
theorem pthR_succ (he : e < N) (hbn : ∀ x b, b ∈ bk x ↔ b < N ∧ x ∈ nx b) {d c : Nat} (hd : Ds bk may e (d + 1) c) :
    ∃ y, (nx c).find? (fun y => dsO N nx may e y == some d) = some y ∧ y ∈ nx c ∧ Ds bk may e d y ∧ pthR N nx may e (d + 1) c = c :: pthR N nx may e d y := by
  obtain ⟨z, h1, h2, h3⟩ := hd.next (nx := nx) (fun x b hb => ((hbn x b).1 hb).2)
  have hcg : (nx c).find? (fun y => dsO N nx may e y == some d) = some z := by
    rw [← h1]
    refine find_congr (fun y _ => ?_)
    rw [Bool.eq_iff_iff, beq_iff_eq, dsO_some he hbn, dsB_true]
  refine ⟨z, hcg, h2, h3, ?_⟩
  show pthF nx _ (d + 1) c = _
  rw [show pthF nx (fun d y => dsO N nx may e y == some d) (d + 1) c = c :: pthF nx (fun d y => dsO N nx may e y == some d) d (((nx c).find? (fun y => dsO N nx may e y == some d)).getD c) from rfl, hcg]
  rfl
theorem pthR_head (d c : Nat) : (pthR N nx may e d c).getD 0 0 = c := by cases d <;> rfl
/-- Each of its cells is nearer by one; what is behind it is the route from there. -/
theorem pthR_at (he : e < N) (hbn : ∀ x b, b ∈ bk x ↔ b < N ∧ x ∈ nx b) : ∀ {d c : Nat}, Ds bk may e d c → ∀ i, i ≤ d →
    Ds bk may e (d - i) ((pthR N nx may e d c).getD i 0) ∧ (pthR N nx may e d c).drop i = pthR N nx may e (d - i) ((pthR N nx may e d c).getD i 0) := by
  intro d
  induction d with
  | zero =>
    intro c hd i hi
    obtain rfl : i = 0 := by omega
    exact ⟨hd, rfl⟩
  | succ d ih =>
    intro c hd i hi
    cases i with
    | zero => exact ⟨by rw [pthR_head]; exact hd, by rw [pthR_head]; rfl⟩
    | succ i =>
      obtain ⟨y, _, _, h3, h4⟩ := pthR_succ he hbn hd
      rw [h4]
      have := ih h3 i (by omega)
      have e1 : d + 1 - (i + 1) = d - i := by omega
      rw [e1]
      simpa using this
theorem pthR_step (he : e < N) (hbn : ∀ x b, b ∈ bk x ↔ b < N ∧ x ∈ nx b) : ∀ {d c : Nat}, Ds bk may e d c → ∀ i, i < d →
    (pthR N nx may e d c).getD (i + 1) 0 ∈ nx ((pthR N nx may e d c).getD i 0) := by
  intro d
  induction d with
  | zero => intro c hd i hi; omega
  | succ d ih =>
    intro c hd i hi
    obtain ⟨y, _, h2, h3, h4⟩ := pthR_succ he hbn hd
    rw [h4]
    cases i with
    | zero =>
      show (pthR N nx may e d y).getD 0 0 ∈ nx c
      rw [pthR_head]
      exact h2
    | succ i => simpa using ih h3 i (by omega)
theorem pthR_last (he : e < N) (hbn : ∀ x b, b ∈ bk x ↔ b < N ∧ x ∈ nx b) {d c : Nat} (hd : Ds bk may e d c) : (pthR N nx may e d c).getD d 0 = e := by
  have := (pthR_at he hbn hd d (Nat.le_refl _)).1
  rw [Nat.sub_self] at this
  exact this.zero

/-- Ways that two rules agree on. -/
theorem Wy.agree {G : Nat → Nat → Prop} (hG : ∀ d x b, b ∈ bk x → G (d + 1) b → G d x) (hm : ∀ d y, G d y → Wy bk may e d y → may y = true → may' y = true) {d y : Nat} (hw : Wy bk may e d y) (hg : G d y) : Wy bk may' e d y := by
  induction hw with
  | base hme => exact .base (hm 0 e hg (.base hme) hme)
  | step h1 h2 h3 ih => exact .step (ih (hG _ _ _ h2 hg)) h2 (hm _ _ hg (.step h1 h2 h3) h3)
theorem Wy.mono (hm : ∀ y, may y = true → may' y = true) {d y : Nat} (hw : Wy bk may e d y) : Wy bk may' e d y := by
  induction hw with
  | base hme => exact .base (hm _ hme)
  | step h1 h2 h3 ih => exact .step ih h2 (hm _ h3)
/-- Routes that go by the same distances are the same. -/
theorem pthR_agree (he : e < N) (hbn : ∀ x b, b ∈ bk x ↔ b < N ∧ x ∈ nx b) {G : Nat → Nat → Prop} (hG : ∀ d x y, y ∈ nx x → x < N → G (d + 1) x → G d y)
    (hd : ∀ d y, G d y → (Ds bk may e d y ↔ Ds bk may' e d y)) : ∀ {d c : Nat}, Ds bk may e d c → G d c → pthR N nx may e d c = pthR N nx may' e d c := by
  intro d
  induction d with
  | zero => intro c _ _; rfl
  | succ d ih =>
    intro c hc hg
    have hcN := hc.1.lt he (fun x b hb => ((hbn x b).1 hb).1)
    obtain ⟨y, h1, h2, h3, h4⟩ := pthR_succ he hbn hc
    have e1 : (nx c).find? (fun y => dsO N nx may' e y == some d) = (nx c).find? (fun y => dsO N nx may e y == some d) := by
      refine find_congr (fun z hz => ?_)
      rw [Bool.eq_iff_iff, beq_iff_eq, beq_iff_eq, dsO_some he hbn, dsO_some he hbn]
      exact (hd d z (hG d c z hz hcN hg)).symm
    have hc' := (hd _ _ hg).1 hc
    obtain ⟨y', h1', _, _, h4'⟩ := pthR_succ he hbn hc'
    rw [e1, h1] at h1'
    cases h1'
    rw [h4, h4', ih h3 (hG d c y h2 hcN hg)]

/-- From the beginning on, and from the end back. -/
theorem Fw.to_wy {ban : Nat → Bool} (hbn : ∀ x b, b ∈ bk x ↔ b < N ∧ x ∈ nx b) (hf : f < N) (hN : ∀ x y, y ∈ nx x → y < N) (hm : ∀ y, may y = true ↔ (ban y = false ∨ y = f)) : ∀ {n x : Nat}, Fw nx ban f n x → ∀ {m}, Wy bk may e m x → Wy bk may e (n + m) f := by
  intro n
  induction n with
  | zero =>
    intro x hw m hk
    cases hw
    simpa using hk
  | succ n ih =>
    intro x hw m hk
    cases hw with
    | step h1 h2 h3 =>
      rename_i y
      have hyN : y < N ∧ may y = true := by
        cases h1 with
        | base => exact ⟨hf, (hm _).2 (.inr rfl)⟩
        | step _ h5 h6 => exact ⟨hN _ _ h5, (hm _).2 (.inl h6)⟩
      have := ih h1 (.step hk ((hbn _ _).2 ⟨hyN.1, h2⟩) hyN.2)
      rw [show n + 1 + m = n + (m + 1) by omega]
      exact this
theorem Ds.to_fw {ban : Nat → Bool} (hbn : ∀ x b, b ∈ bk x ↔ b < N ∧ x ∈ nx b) (hm : ∀ y, may y = true ↔ (ban y = false ∨ y = f)) {n : Nat} (hd : Ds bk may e n f) : Fw nx ban f n e := by
  have key : ∀ k, k ≤ n → ∃ v, Fw nx ban f k v ∧ Ds bk may e (n - k) v := by
    intro k
    induction k with
    | zero => intro _; exact ⟨f, .base, hd⟩
    | succ k ih =>
      intro hk
      obtain ⟨v, h1, h2⟩ := ih (by omega)
      rw [show n - k = n - (k + 1) + 1 by omega] at h2
      obtain ⟨y, h3, h4⟩ := h2.pred
      have hyf : y ≠ f := by
        rintro rfl
        have := h4.uniq hd
        omega
      have hmy := h4.1.last
      rcases (hm y).1 hmy with h5 | h5
      · exact ⟨y, .step h1 ((hbn _ _).1 h3).2 h5, h4⟩
      · exact absurd h5 hyf
  obtain ⟨v, h1, h2⟩ := key n (Nat.le_refl _)
  rw [Nat.sub_self] at h2
  rw [← h2.zero]
  exact h1
theorem Fw.wy {ban : Nat → Bool} (hbn : ∀ x b, b ∈ bk x ↔ b < N ∧ x ∈ nx b) (hf : f < N) (hN : ∀ x y, y ∈ nx x → y < N) (hm : ∀ y, may y = true ↔ (ban y = false ∨ y = f)) {n : Nat} (hw : Fw nx ban f n e) : Wy bk may e n f := by
  have hme : may e = true := by
    cases hw with
    | base => exact (hm _).2 (.inr rfl)
    | step _ _ h3 => exact (hm _).2 (.inl h3)
  have := Fw.to_wy hbn hf hN hm hw (.base hme)
  simpa using this
/-- One way, and on by another one. -/
theorem Wy.trans {e' n m x : Nat} (h1 : Wy bk may e n e') (h2 : Wy bk may e' m x) : Wy bk may e (n + m) x := by
  induction h2 with
  | base _ => exact h1
  | step _ h4 h5 ih => exact .step ih h4 h5
theorem Lft.le {n x : Nat} (hl : Lft bk h f) (hw : Wy bk may e n x) : h e ≤ h x + n := by
  induction hw with
  | base _ => omega
  | step _ h2 _ ih => have := hl.one _ _ h2; omega
end
end Go.Proofs.YtkedjnhidfnlkaaDoor.Rq
