/-
  The document's edges are the program's.
-/
import Derived.Test.YtlkojoinbogkmaaDoorRe
namespace Go.Proofs.YtlkojoinbogkmaaDoor
set_option maxRecDepth 100000
set_option linter.unusedSimpArgs false
open Go.RowKit

theorem dirK_1 {C a x : Nat} (h : (x : Int) = (a : Int) - 1 ∧ x / C = a / C) : dirK C a x = 1 := by unfold dirK; rw [if_pos]; simpa using h
theorem dirK_0 {C a x : Nat} (h : ¬ ((x : Int) = (a : Int) - 1 ∧ x / C = a / C)) (h2 : x / C < a / C) : dirK C a x = 0 := by unfold dirK; rw [if_neg (by simpa using h), if_pos (by simpa using h2)]
theorem dirK_3 {C a x : Nat} (h : ¬ ((x : Int) = (a : Int) - 1 ∧ x / C = a / C)) (h2 : a / C < x / C) : dirK C a x = 3 := by unfold dirK; rw [if_neg (by simpa using h), if_neg (by simp only [Int.toNat_natCast]; omega), if_pos (by simpa using h2)]
theorem dirK_2 {C a x : Nat} (h : ¬ ((x : Int) = (a : Int) - 1 ∧ x / C = a / C)) (h2 : x / C = a / C) : dirK C a x = 2 := by unfold dirK; rw [if_neg (by simpa using h), if_neg (by simp only [Int.toNat_natCast]; omega), if_neg (by simp only [Int.toNat_natCast]; omega)]

theorem side_far {R C a x k : Nat} (hC : 1 ≤ C) (hk : k < 4) (h : side R C a k = some x) :
    dirK C a x = k ∧ apartZ ((a / C : Nat) : Int) ((x / C : Nat) : Int) + apartZ ((a % C : Nat) : Int) ((x % C : Nat) : Int) = 1 := by
  obtain ⟨_, h1, h2⟩ := (side_iff hC).1 h
  have e1 := Nat.div_add_mod a C
  have e2 := Nat.div_add_mod x C
  have hk' : k = 0 ∨ k = 1 ∨ k = 2 ∨ k = 3 := by omega
  rcases hk' with rfl | rfl | rfl | rfl
  all_goals simp only [dn0, dn1, dn2, dn3, rt0, rt1, rt2, rt3] at h1 h2
  · refine ⟨dirK_0 (by omega) (by omega), ?_⟩
    unfold apartZ
    omega
  · have hr : x / C = a / C := by omega
    rw [hr] at e2
    refine ⟨dirK_1 ⟨by omega, hr⟩, ?_⟩
    unfold apartZ
    omega
  · have hr : x / C = a / C := by omega
    rw [hr] at e2
    refine ⟨dirK_2 (by omega) hr, ?_⟩
    unfold apartZ
    omega
  · refine ⟨dirK_3 (by omega) (by omega), ?_⟩
    unfold apartZ
    omega

theorem far_side {R C a x : Nat} (hC : 1 ≤ C) (hx : x < R * C) (h : apartZ ((a / C : Nat) : Int) ((x / C : Nat) : Int) + apartZ ((a % C : Nat) : Int) ((x % C : Nat) : Int) = 1) : ∃ k, k < 4 ∧ side R C a k = some x := by
  have hs : ∀ k, side R C a k = some x ↔ x < R * C ∧ ((x / C : Nat) : Int) = ((a / C : Nat) : Int) + dnK k ∧ ((x % C : Nat) : Int) = ((a % C : Nat) : Int) + rtK k := fun k => side_iff hC
  simp only [hs]
  unfold apartZ at h
  generalize x / C = r' at *
  generalize a / C = r at *
  generalize x % C = q' at *
  generalize a % C = q at *
  have hc : ((r' : Int) = r - 1 ∧ q' = q) ∨ (r' = r ∧ (q' : Int) = q - 1) ∨ (r' = r ∧ (q' : Int) = q + 1) ∨ ((r' : Int) = r + 1 ∧ q' = q) := by omega
  rcases hc with ⟨e1, e2⟩ | ⟨e1, e2⟩ | ⟨e1, e2⟩ | ⟨e1, e2⟩
  · exact ⟨0, by omega, hx, by rw [dn0]; omega, by rw [rt0]; omega⟩
  · exact ⟨1, by omega, hx, by rw [dn1]; omega, by rw [rt1]; omega⟩
  · exact ⟨2, by omega, hx, by rw [dn2]; omega, by rw [rt2]; omega⟩
  · exact ⟨3, by omega, hx, by rw [dn3]; omega, by rw [rt3]; omega⟩

theorem mk_ne (k : Nat) : mkK k ≠ 35 := by unfold mkK; split <;> (try split) <;> (try split) <;> omega

theorem edge_iff {R C : Nat} {ms : List UInt8} (hC : 1 ≤ C) (hN : R * C = ms.length) {a x : Nat} (ha : a < ms.length) (hx : x < ms.length) :
    edgeB C ms a x = decide (x ∈ outs R C ms a) := by
  have f1 := freeB_nat ha
  have f2 := freeB_nat hx
  have k1 : kindB ms (a : Int) = ms.getD a 0 := by unfold kindB; rw [if_pos (by omega)]; rfl
  have k2 : kindB ms (x : Int) = ms.getD x 0 := by unfold kindB; rw [if_pos (by omega)]; rfl
  have hf : farZ C ms.length (a : Int) (x : Int) = apartZ ((a / C : Nat) : Int) ((x / C : Nat) : Int) + apartZ ((a % C : Nat) : Int) ((x % C : Nat) : Int) := by
    unfold farZ; rw [if_pos (by omega)]; rfl
  unfold edgeB
  rw [f1, f2, k1, k2, hf, ← neq35, ← neq35]
  rw [Bool.eq_iff_iff, decide_eq_true_eq, mem_outs]
  simp only [goes, leavesB, entersB]
  generalize ms.getD a 0 = c
  generalize ms.getD x 0 = d
  constructor
  · intro h
    simp only [Bool.and_eq_true, bne_iff_ne, ne_eq, beq_iff_eq, Bool.or_eq_true] at h
    obtain ⟨⟨⟨h1, h2⟩, h3⟩, h4, h5⟩ := h
    obtain ⟨k, hk, hs⟩ := far_side hC (hN ▸ hx) h3
    have hd := (side_far hC hk hs).1
    rw [hd] at h4 h5
    refine ⟨k, hk, hs, ?_⟩
    simp only [Bool.and_eq_true, bne_iff_ne, ne_eq, beq_iff_eq, Bool.or_eq_true]
    exact ⟨h4, h2, h5⟩
  · rintro ⟨k, hk, hs, h⟩
    obtain ⟨hd, h3⟩ := side_far hC hk hs
    rw [hd, h3]
    simp only [Bool.and_eq_true, bne_iff_ne, ne_eq, beq_iff_eq, Bool.or_eq_true] at h ⊢
    obtain ⟨h4, h2, h5⟩ := h
    refine ⟨⟨⟨?_, h2⟩, trivial⟩, h4, h5⟩
    have := mk_ne k
    rcases h4 with h4 | h4 <;> omega

theorem rise_ext : ∀ {l m : List Nat}, l.Pairwise (· < ·) → m.Pairwise (· < ·) → (∀ x, x ∈ l ↔ x ∈ m) → l = m
  | [], [], _, _, _ => rfl
  | [], y :: ys, _, _, h => absurd ((h y).2 (by simp)) (by simp)
  | x :: xs, [], _, _, h => absurd ((h x).1 (by simp)) (by simp)
  | x :: xs, y :: ys, h1, h2, h => by
    rw [List.pairwise_cons] at h1 h2
    have e : x = y := by
      have hx := (h x).1 (by simp)
      have hy := (h y).2 (by simp)
      rcases List.mem_cons.1 hx with e | hx
      · exact e
      · rcases List.mem_cons.1 hy with e | hy
        · exact e.symm
        · have := h1.1 _ hy; have := h2.1 _ hx; omega
    subst e
    congr 1
    refine rise_ext h1.2 h2.2 fun z => ?_
    have hz := h z
    simp only [List.mem_cons] at hz
    constructor
    · intro hm
      rcases hz.1 (.inr hm) with e | h'
      · subst e; have := h1.1 _ hm; omega
      · exact h'
    · intro hm
      rcases hz.2 (.inr hm) with e | h'
      · subst e; have := h2.1 _ hm; omega
      · exact h'

theorem range_rise (n : Nat) (p : Nat → Bool) : ((List.range n).filter p).Pairwise (· < ·) := by
  refine List.Pairwise.filter _ ?_
  rw [List.range_eq_range']
  exact List.pairwise_lt_range' (step := 1)

/-- No edge from or to what is no cell. -/
theorem edge_out {C : Nat} {ms : List UInt8} {a x : Int} (h : ¬ ((0 ≤ a ∧ a < (ms.length : Int)) ∧ (0 ≤ x ∧ x < (ms.length : Int)))) : edgeB C ms a x = false := by
  rw [Bool.eq_false_iff]
  intro e
  unfold edgeB at e
  simp only [Bool.and_eq_true] at e
  exact h ⟨free_range e.1.1.1, free_range e.1.1.2⟩

theorem next_eq {R C : Nat} {ms : List UInt8} (hC : 1 ≤ C) (hN : R * C = ms.length) (a : Int) :
    (List.range ms.length).filter (fun (x : Nat) => edgeB C ms a x) = nextZ R C ms a := by
  unfold nextZ
  by_cases ha : 0 ≤ a ∧ a < (ms.length : Int)
  · rw [if_pos ha]
    obtain ⟨k, rfl⟩ := Int.eq_ofNat_of_zero_le ha.1
    refine rise_ext (range_rise _ _) (outs_rise R C ms _ hC) fun x => ?_
    simp only [List.mem_filter, List.mem_range, Int.toNat_natCast]
    constructor
    · rintro ⟨h1, h2⟩
      rw [edge_iff hC hN (by omega) h1] at h2
      simpa using h2
    · intro h
      have hx : x < ms.length := hN ▸ outs_bd h
      exact ⟨hx, by rw [edge_iff hC hN (by omega) hx]; simpa using h⟩
  · rw [if_neg ha, List.filter_eq_nil_iff]
    intro x _
    rw [edge_out (fun e => ha e.1)]
    simp

theorem back_eq {R C : Nat} {ms : List UInt8} (hC : 1 ≤ C) (hN : R * C = ms.length) (x : Int) :
    (List.range ms.length).filter (fun (a : Nat) => edgeB C ms a x) = backZ R C ms x := by
  unfold backZ
  by_cases hx : 0 ≤ x ∧ x < (ms.length : Int)
  · rw [if_pos hx]
    obtain ⟨k, rfl⟩ := Int.eq_ofNat_of_zero_le hx.1
    unfold ins
    refine List.filter_congr fun a ha => ?_
    exact edge_iff hC hN (List.mem_range.1 ha) (by omega)
  · rw [if_neg hx, List.filter_eq_nil_iff]
    intro a _
    rw [edge_out (fun e => hx e.2)]
    simp

/-- Whether the program's Edge says so, and the document's. -/
theorem edge_eq {R C : Nat} {ms : List UInt8} (hC : 1 ≤ C) (hN : R * C = ms.length) (a x : Int) : (nextZ R C ms a).any (fun u => (u : Int) == x) = edgeB C ms a x := by
  rw [← next_eq hC hN a]
  by_cases hx : 0 ≤ x ∧ x < (ms.length : Int)
  · obtain ⟨k, rfl⟩ := Int.eq_ofNat_of_zero_le hx.1
    rw [Bool.eq_iff_iff, List.any_eq_true]
    constructor
    · rintro ⟨u, hu, he⟩
      simp only [beq_iff_eq] at he
      have : u = k := by omega
      subst this
      exact (List.mem_filter.1 hu).2
    · intro h
      exact ⟨k, List.mem_filter.2 ⟨List.mem_range.2 (by omega), h⟩, by simp⟩
  · rw [edge_out (fun e => hx e.2), List.any_eq_false]
    intro u hu he
    simp only [beq_iff_eq] at he
    have := List.mem_range.1 (List.mem_filter.1 hu).1
    exact hx (by omega)

theorem eds_sum (R C : Nat) (ms : List UInt8) (n : Nat) : eds R C ms (n + 1) = eds R C ms n + (outs R C ms n).length := by
  unfold outs
  rw [List.length_map]
  rfl
end Go.Proofs.YtlkojoinbogkmaaDoor
