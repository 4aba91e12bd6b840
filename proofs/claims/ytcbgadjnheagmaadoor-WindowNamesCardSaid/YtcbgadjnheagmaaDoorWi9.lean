/-
  What is early and what is missing, side by side.
-/
import Derived.Test.YtcbgadjnheagmaaDoorWi8
namespace Go.Proofs.YtcbgadjnheagmaaDoor
set_option maxRecDepth 100000
set_option linter.unusedSimpArgs false
namespace Wd
def top (e : Nat) : Nat := topp e.testBit 64
theorem top_le (e : Nat) : top e ≤ 64 := topp_le _ _
theorem posE_top (e : Nat) : posE e = pos e (top e) := early_top _ _
theorem posM_top (e : Nat) : posM e = (List.range (top e)).filter (fun i => !e.testBit i) := gp_filter _ _
theorem compl_len (f : Nat → Bool) : ∀ p, ((List.range p).filter f).length + ((List.range p).filter (fun i => !f i)).length = p
  | 0 => rfl
  | p + 1 => by
    have := compl_len f p
    rw [List.range_succ, List.filter_append, List.filter_append, List.length_append, List.length_append]
    cases h : f p <;> simp [h] <;> omega
theorem top_set (f : Nat → Bool) : ∀ m, 0 < topp f m → f (topp f m - 1) = true
  | 0, h => by simp [topp] at h
  | m + 1, h => by
    unfold topp at h ⊢
    split
    · rename_i hf; simpa using hf
    · rename_i hf
      rw [if_neg hf] at h
      exact top_set f m h
/-- Where one stands behind p numbers. -/
structure AtP (l e p n k : Nat) : Prop where
  sum : n + k = p
  le : p ≤ top e
  hn : n = (pos e p).length
theorem len_sum (l e : Nat) : (early l e).length + (miss l e).length = top e := by
  unfold early miss
  rw [List.length_map, List.length_map, posE_top, posM_top]
  exact compl_len _ _
theorem atP_zero (l e : Nat) : AtP l e 0 0 0 := ⟨rfl, Nat.zero_le _, rfl⟩
theorem atP_end {l e p n k : Nat} (h : AtP l e p n k) (hp : p = top e) : n = (early l e).length ∧ k = (miss l e).length := by
  have h1 := len_sum l e
  have h2 : n = (early l e).length := by
    rw [h.hn, hp]; unfold early; rw [List.length_map, posE_top]
  have := h.sum
  omega
theorem atP_set {l e p n k : Nat} (h : AtP l e p n k) (hp : p < top e) (ht : e.testBit p = true) :
    (n < (early l e).length ∧ (early l e).getD n 0 = l + 1 + p) ∧ AtP l e (p + 1) (n + 1) k := by
  have h1 : (posE e)[n]? = some p := by
    rw [posE_top, h.hn]
    exact nth_filter _ hp ht
  have h2 : n < (posE e).length := by
    rcases Nat.lt_or_ge n (posE e).length with h3 | h3
    · exact h3
    · rw [List.getElem?_eq_none h3] at h1; cases h1
  refine ⟨⟨by unfold early; rw [List.length_map]; exact h2, by unfold early; rw [List.getD_eq_getElem?_getD, List.getElem?_map, h1]; rfl⟩, ?_, hp, ?_⟩
  · have := h.sum; omega
  · rw [pos_succ, if_pos ht, List.length_append, ← h.hn]; rfl
theorem atP_clear {l e p n k : Nat} (h : AtP l e p n k) (hp : p < top e) (ht : e.testBit p = false) :
    (n < (early l e).length ∧ (early l e).getD n 0 ≠ l + 1 + p) ∧ (k < (miss l e).length ∧ (miss l e).getD k 0 = l + 1 + p) ∧ AtP l e (p + 1) n (k + 1) := by
  have hk : k = ((List.range p).filter (fun i => !e.testBit i)).length := by
    have h1 := compl_len e.testBit p
    have h2 := h.hn
    unfold pos at h2
    have := h.sum
    omega
  have h1 : (posM e)[k]? = some p := by
    rw [posM_top, hk]
    exact nth_filter (fun i => !e.testBit i) hp (by simp [ht])
  have h2 : k < (posM e).length := by
    rcases Nat.lt_or_ge k (posM e).length with h3 | h3
    · exact h3
    · rw [List.getElem?_eq_none h3] at h1; cases h1
  have hset : e.testBit (top e - 1) = true := top_set _ _ (by unfold top at hp; omega)
  have hlt : p < top e - 1 := by
    rcases Nat.lt_or_ge p (top e - 1) with h3 | h3
    · exact h3
    · have : top e - 1 = p := by omega
      rw [this, ht] at hset; cases hset
  have hn : n < (posE e).length := by
    rw [posE_top]
    have e1 : top e = (top e - 1) + 1 := by omega
    rw [e1, pos_succ, if_pos hset, List.length_append]
    have := (pos_prefix e (Nat.le_of_lt hlt)).length_le
    rw [← h.hn] at this
    simp only [List.length_cons, List.length_nil]
    omega
  refine ⟨⟨by unfold early; rw [List.length_map]; exact hn, ?_⟩, ⟨by unfold miss; rw [List.length_map]; exact h2, by unfold miss; rw [List.getD_eq_getElem?_getD, List.getElem?_map, h1]; rfl⟩, ?_, hp, ?_⟩
  · unfold early
    rw [List.getD_eq_getElem?_getD, List.getElem?_map, List.getElem?_eq_getElem hn]
    intro hh
    have hq : (posE e)[n] = p := by
      have : l + 1 + (posE e)[n] = l + 1 + p := hh
      omega
    have := (List.mem_filter.1 (List.getElem_mem hn)).2
    rw [hq, ht] at this; cases this
  · have := h.sum; omega
  · rw [pos_succ, ht]; exact h.hn
/-- How many are early, and missing. -/
theorem len_facts {l e : Nat} (h : Ok l e) : (0 < (early l e).length → 0 < (miss l e).length) ∧ (early l e).length + (miss l e).length ≤ 64 ∧ ((early l e).length = 0 → (miss l e).length = 0) := by
  have h1 := len_sum l e
  have h2 := top_le e
  refine ⟨fun h3 => ?_, by omega, fun h3 => ?_⟩
  · have := atP_clear (atP_zero l e) (by omega) h.h0
    exact this.2.1.1
  · rcases Nat.eq_zero_or_pos (top e) with h4 | h4
    · omega
    · have h5 : e.testBit (top e - 1) = true := top_set _ _ h4
      have h6 : (top e - 1) ∈ posE e := List.mem_filter.2 ⟨by simp; omega, h5⟩
      have h7 : (posE e).length = 0 := by
        have h8 := h3
        unfold early at h8
        rwa [List.length_map] at h8
      rw [List.eq_nil_of_length_eq_zero h7] at h6
      cases h6
end Wd
end Go.Proofs.YtcbgadjnheagmaaDoor
