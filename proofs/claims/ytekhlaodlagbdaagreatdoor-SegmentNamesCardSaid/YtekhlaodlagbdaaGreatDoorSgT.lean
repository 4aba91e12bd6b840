/-
  segment.Of, pure: its segments one behind the other.
-/
import Derived.Test.YtekhlaodlagbdaaGreatDoorSgA
namespace Go.Proofs.YtekhlaodlagbdaaGreatDoor
set_option maxRecDepth 100000
set_option linter.unusedSimpArgs false
open Go Go.RowKit

namespace Sg
section
variable {N : Nat} {jn : Nat → List Nat}
theorem map_nodup {q : Nat → Nat} {n : Nat} (h : ∀ i j, i < j → j < n → q i ≠ q j) : ((List.range n).map q).Nodup := by
  rw [List.nodup_iff_pairwise_ne, List.pairwise_map]
  refine (List.pairwise_lt_range (n := n)).imp_of_mem ?_
  intro i j hi hj hij
  exact h i j hij (List.mem_range.1 hj)
theorem two_lt_N (hJ : Jn N jn) {x : Nat} (h : (jn x).length = 2) : x < N := by
  have h1 : (jn x).getD 0 0 ∈ jn x := (two_mem h).2 (.inl rfl)
  exact hJ.bd (hJ.sym h1)
/-- What holds of any segment's cells. -/
theorem ord_list (hJ : Jn N jn) {a : Nat} (ha : a < N) : 0 < (ordF N jn a).1.length ∧ (ordF N jn a).1.Nodup ∧ (∀ x ∈ (ordF N jn a).1, x < N) ∧ a ∈ (ordF N jn a).1 ∧ (ordF N jn a).1.length ≤ N := by
  have key : ∀ l : List Nat, l.Nodup → (∀ x ∈ l, x < N) → l.length ≤ N := fun l h1 h2 => by
    have := h1.length_le_of_subset (l₂ := List.range N) (fun x hx => List.mem_range.2 (h2 x hx))
    simpa using this
  by_cases h2 : (jn a).length = 2
  · rcases ord_two hJ ha h2 with ⟨q, n, e, hc, _, i, hi, hia⟩ | ⟨q, n, e, hr, h0, _⟩
    · rw [e]
      have hn := map_nodup (q := q) hc.inj
      have hb : ∀ x ∈ (List.range n).map q, x < N := by
        intro x hx
        obtain ⟨i, hi, rfl⟩ := List.mem_map.1 hx
        exact two_lt_N hJ (hc.two i (List.mem_range.1 hi))
      refine ⟨?_, hn, hb, List.mem_map.2 ⟨i, List.mem_range.2 hi, hia⟩, key _ hn hb⟩
      have := hc.pos
      simp; omega
    · rw [e]
      have hn := map_nodup (q := q) hr.inj
      have hb : ∀ x ∈ (List.range n).map q, x < N := by
        intro x hx
        obtain ⟨i, hi, rfl⟩ := List.mem_map.1 hx
        exact two_lt_N hJ (hr.two i (List.mem_range.1 hi))
      have hp := hr.pos
      refine ⟨?_, hn, hb, List.mem_map.2 ⟨0, List.mem_range.2 (by omega), h0⟩, key _ hn hb⟩
      simp; omega
  · rw [ord_one h2]
    exact ⟨by simp, by simp, by simpa using ha, by simp, by show 1 ≤ N; omega⟩
end

def stepS (N : Nat) (jn : Nat → List Nat) (s : Pl) (a : Nat) : Pl := if 0 ≤ s.of.getD a 0 then s else s.add (ordF N jn a).1 (ordF N jn a).2
/-- The plan behind some cells. -/
def planK (N : Nat) (jn : Nat → List Nat) (l : List Nat) : Pl := l.foldl (stepS N jn) ⟨List.replicate N (-1), [], []⟩
theorem planK_snoc (N : Nat) (jn : Nat → List Nat) (l : List Nat) (a : Nat) : planK N jn (l ++ [a]) = stepS N jn (planK N jn l) a := by simp [planK, List.foldl_append]
theorem plan_len (N : Nat) (jn : Nat → List Nat) : ∀ l : List Nat, (planK N jn (l.reverse)).of.length = N ∧ (planK N jn l.reverse).cells.length ≤ l.length ∧ (planK N jn l.reverse).kinds.length = (planK N jn l.reverse).cells.length
  | [] => by simp [planK]
  | a :: l => by
    obtain ⟨h1, h2, h3⟩ := plan_len N jn l
    rw [List.reverse_cons, planK_snoc]
    unfold stepS
    split
    · exact ⟨h1, by simp; omega, h3⟩
    · unfold Pl.add
      refine ⟨by rw [setAll_length]; exact h1, by simp; omega, by simp; exact h3⟩
theorem plan_lens (N : Nat) (jn : Nat → List Nat) (l : List Nat) : (planK N jn l).of.length = N ∧ (planK N jn l).cells.length ≤ l.length ∧ (planK N jn l).kinds.length = (planK N jn l).cells.length := by
  have := plan_len N jn l.reverse
  simpa using this
theorem fold_ne (N : Nat) (jn : Nat → List Nat) : ∀ (l : List Nat) (s : Pl), s.cells ≠ [] → (l.foldl (stepS N jn) s).cells ≠ []
  | [], _, h => h
  | a :: l, s, h => by
    rw [List.foldl_cons]
    refine fold_ne N jn l _ ?_
    unfold stepS
    split
    · exact h
    · unfold Pl.add
      simp
theorem planK_ne (N : Nat) (jn : Nat → List Nat) {l : List Nat} (hl : 0 < l.length) (hN : ∀ x ∈ l, x < N) : (planK N jn l).cells ≠ [] := by
  cases l with
  | nil => simp at hl
  | cons a l =>
    have ha := hN a (by simp)
    unfold planK
    rw [List.foldl_cons]
    refine fold_ne N jn l _ ?_
    unfold stepS
    rw [if_neg (by simp [List.getD, ha])]
    unfold Pl.add
    simp
end Sg
/-- A map's plan. -/
def planF (R C : Nat) (ms : List UInt8) : Sg.Pl := Sg.planK ms.length (jnF R C ms) (frees ms)
end Go.Proofs.YtekhlaodlagbdaaGreatDoor
