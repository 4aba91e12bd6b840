/-
  segment, pure: what a plan's segments are.
-/
import Derived.Test.YtekhlaodlagbdaaGreatDoorSgT
namespace Go.Proofs.YtekhlaodlagbdaaGreatDoor
set_option maxRecDepth 100000
set_option linter.unusedSimpArgs false
open Go Go.RowKit

namespace Sg
section
variable {N : Nat} {jn : Nat → List Nat}
/-- Who is joined with one of them, and is no junction, is one of them. -/
def Closed (jn : Nat → List Nat) (S : List Nat) : Prop := ∀ x ∈ S, (jn x).length = 2 → ∀ y ∈ jn x, (jn y).length = 2 → y ∈ S
theorem mem_map_range {q : Nat → Nat} {n x : Nat} : x ∈ (List.range n).map q ↔ ∃ i, i < n ∧ q i = x := by simp [List.mem_map]
theorem ord_closed (hJ : Jn N jn) {a : Nat} (ha : a < N) : Closed jn (ordF N jn a).1 := by
  by_cases h2 : (jn a).length = 2
  · rcases ord_two hJ ha h2 with ⟨q, n, e, hc, _⟩ | ⟨q, n, e, hr, _⟩
    · rw [e]
      intro x hx _ y hy hy2
      obtain ⟨i, hi, rfl⟩ := mem_map_range.1 hx
      rcases hc.nb i y hi hy with ⟨h, rfl⟩ | ⟨h, rfl⟩ | h
      · exact mem_map_range.2 ⟨i - 1, by omega, rfl⟩
      · exact mem_map_range.2 ⟨i + 1, h, rfl⟩
      · exact absurd hy2 h
    · rw [e]
      intro x hx _ y hy _
      obtain ⟨i, hi, rfl⟩ := mem_map_range.1 hx
      rcases hr.nb i y hi hy with ⟨h, rfl⟩ | ⟨h, rfl⟩ | ⟨h, rfl⟩ | ⟨h, rfl⟩
      · exact mem_map_range.2 ⟨i - 1, by omega, rfl⟩
      · exact mem_map_range.2 ⟨i + 1, h, rfl⟩
      · exact mem_map_range.2 ⟨n - 1, by omega, rfl⟩
      · exact mem_map_range.2 ⟨0, by omega, rfl⟩
  · rw [ord_one h2]
    intro x hx hx2
    obtain rfl : x = a := by simpa using hx
    exact absurd hx2 h2
/-- A row of cells lies in a closed set, or outside. -/
theorem chain_in (hJ : Jn N jn) {S : List Nat} (hS : Closed jn S) {q : Nat → Nat} {n : Nat} (h2 : ∀ i, i < n → (jn (q i)).length = 2) (ha : ∀ i, i + 1 < n → q (i + 1) ∈ jn (q i)) {i : Nat} (hi : i < n) (hm : q i ∈ S) : ∀ j, j < n → q j ∈ S := by
  have up : ∀ d, i + d < n → q (i + d) ∈ S := by
    intro d
    induction d with
    | zero => intro _; exact hm
    | succ d ih => intro h; exact hS _ (ih (by omega)) (h2 _ (by omega)) _ (ha _ (by omega)) (h2 _ h)
  have dn : ∀ d, d ≤ i → q (i - d) ∈ S := by
    intro d
    induction d with
    | zero => intro _; exact hm
    | succ d ih =>
      intro h
      have h3 := ha (i - (d + 1)) (by omega)
      rw [show i - (d + 1) + 1 = i - d by omega] at h3
      exact hS _ (ih (by omega)) (h2 _ (by omega)) _ (hJ.sym h3) (h2 _ (by omega))
  intro j hj
  rcases Nat.lt_or_ge j i with h | h
  · have := dn (i - j) (by omega)
    rwa [show i - (i - j) = j by omega] at this
  · have := up (j - i) (by omega)
    rwa [show i + (j - i) = j by omega] at this
theorem ord_conn (hJ : Jn N jn) {a : Nat} (ha : a < N) {S : List Nat} (hS : Closed jn S) {x : Nat} (hx : x ∈ (ordF N jn a).1) (hxS : x ∈ S) : a ∈ S := by
  have hm := (ord_list hJ ha).2.2.2.1
  by_cases h2 : (jn a).length = 2
  · rcases ord_two hJ ha h2 with ⟨q, n, e, hc, _⟩ | ⟨q, n, e, hr, _⟩
    · rw [e] at hx hm
      obtain ⟨i, hi, rfl⟩ := mem_map_range.1 hx
      obtain ⟨j, hj, rfl⟩ := mem_map_range.1 hm
      exact chain_in hJ hS hc.two hc.adj hi hxS j hj
    · rw [e] at hx hm
      obtain ⟨i, hi, rfl⟩ := mem_map_range.1 hx
      obtain ⟨j, hj, rfl⟩ := mem_map_range.1 hm
      exact chain_in hJ hS hr.two hr.adj hi hxS j hj
  · rw [ord_one h2] at hx
    obtain rfl : x = a := by simpa using hx
    exact hxS

/-- What holds of a plan's segments. -/
structure Inv (N : Nat) (jn : Nat → List Nat) (free : Nat → Prop) (s : Pl) : Prop where
  len : s.of.length = N
  kl : s.kinds.length = s.cells.length
  ord : ∀ i, i < s.cells.length → ∃ a, a < N ∧ free a ∧ ordF N jn a = (s.cells.getD i [], s.kinds.getD i 0) ∧ ∀ x ∈ s.cells.getD i [], a ≤ x
  of : ∀ x, x < N → -1 ≤ s.of.getD x 0 ∧ ∀ i : Nat, s.of.getD x 0 = (i : Int) ↔ i < s.cells.length ∧ x ∈ s.cells.getD i []
theorem Inv.start (free : Nat → Prop) : Inv N jn free ⟨List.replicate N (-1), [], []⟩ := by
  refine ⟨by simp, rfl, fun i hi => by simp at hi, fun x hx => ?_⟩
  have e : (List.replicate N (-1 : Int)).getD x 0 = -1 := by simp [List.getD, hx]
  simp only [e]
  exact ⟨by omega, fun i => ⟨fun h => by omega, fun h => by simp at h⟩⟩
theorem Inv.add (hJ : Jn N jn) {free : Nat → Prop} {s : Pl} (h : Inv N jn free s) {a : Nat} (ha : a < N) (hfa : free a) (h0 : ¬ 0 ≤ s.of.getD a 0) (hle : ∀ x, x < a → free x → 0 ≤ s.of.getD x 0) (hfr : ∀ x, (jn x).length = 2 → free x) : Inv N jn free (s.add (ordF N jn a).1 (ordF N jn a).2) := by
  obtain ⟨hl1, hl2, hl3, hl4, hl5⟩ := ord_list hJ ha
  have hnew : ∀ x ∈ (ordF N jn a).1, s.of.getD x 0 = -1 := by
    intro x hx
    have hxN := hl3 x hx
    obtain ⟨h1, h2⟩ := h.of x hxN
    rcases Int.lt_or_le (s.of.getD x 0) 0 with h3 | h3
    · omega
    · exfalso
      obtain ⟨i, hi⟩ := Int.eq_ofNat_of_zero_le h3
      obtain ⟨h4, h5⟩ := (h2 i).1 hi
      obtain ⟨b, hb, _, eb, _⟩ := h.ord i h4
      have hcl := ord_closed hJ hb
      rw [eb] at hcl
      have h6 := ord_conn hJ ha hcl hx h5
      have h7 := ((h.of a ha).2 i).2 ⟨h4, h6⟩
      omega
  have hfree : ∀ x ∈ (ordF N jn a).1, free x := by
    intro x hx
    by_cases h2 : (jn a).length = 2
    · rcases ord_two hJ ha h2 with ⟨q, n, e, hc, _⟩ | ⟨q, n, e, hr, _⟩
      · rw [e] at hx
        obtain ⟨i, hi, rfl⟩ := mem_map_range.1 hx
        exact hfr _ (hc.two i hi)
      · rw [e] at hx
        obtain ⟨i, hi, rfl⟩ := mem_map_range.1 hx
        exact hfr _ (hr.two i hi)
    · rw [ord_one h2] at hx
      obtain rfl : x = a := by simpa using hx
      exact hfa
  have hget : ∀ i, i < s.cells.length → (s.cells ++ [(ordF N jn a).1]).getD i [] = s.cells.getD i [] := fun i hi => by simp [List.getD, List.getElem?_append_left hi]
  have hgetn : (s.cells ++ [(ordF N jn a).1]).getD s.cells.length [] = (ordF N jn a).1 := by simp [List.getD]
  have hgk : ∀ i, i < s.cells.length → (s.kinds ++ [(ordF N jn a).2]).getD i 0 = s.kinds.getD i 0 := fun i hi => by simp [List.getD, List.getElem?_append_left (show i < s.kinds.length by rw [h.kl]; exact hi)]
  have hgkn : (s.kinds ++ [(ordF N jn a).2]).getD s.cells.length 0 = (ordF N jn a).2 := by rw [← h.kl]; simp [List.getD]
  unfold Pl.add
  refine ⟨by rw [setAll_length]; exact h.len, by simp [h.kl], fun i hi => ?_, fun x hx => ?_⟩
  · have hi' : i < s.cells.length + 1 := by simpa using hi
    by_cases e : i = s.cells.length
    · subst e
      refine ⟨a, ha, hfa, by rw [hgetn, hgkn], fun x hx => ?_⟩
      rw [hgetn] at hx
      rcases Nat.lt_or_ge x a with h3 | h3
      · have := hle x h3 (hfree x hx)
        have := hnew x hx
        omega
      · exact h3
    · obtain ⟨b, h1, h2, h3, h4⟩ := h.ord i (by omega)
      exact ⟨b, h1, h2, by rw [hget i (by omega), hgk i (by omega)]; exact h3, by rw [hget i (by omega)]; exact h4⟩
  · rw [setAll_at _ _ _ _ (by rw [h.len]; exact hx)]
    obtain ⟨h1, h2⟩ := h.of x hx
    by_cases hm : x ∈ (ordF N jn a).1
    · rw [if_pos hm]
      refine ⟨by omega, fun i => ⟨fun e => ?_, fun ⟨h3, h4⟩ => ?_⟩⟩
      · have : i = s.cells.length := by omega
        subst this
        exact ⟨by simp, by rw [hgetn]; exact hm⟩
      · by_cases e : i = s.cells.length
        · rw [e]
        · have h5 : i < s.cells.length := by
            have : i < s.cells.length + 1 := by simpa using h3
            omega
          rw [hget i h5] at h4
          have h6 := (h2 i).2 ⟨h5, h4⟩
          have h7 := hnew x hm
          omega
    · rw [if_neg hm]
      refine ⟨h1, fun i => ⟨fun e => ?_, fun ⟨h3, h4⟩ => ?_⟩⟩
      · obtain ⟨h5, h6⟩ := (h2 i).1 e
        exact ⟨by simp; omega, by rw [hget i h5]; exact h6⟩
      · by_cases e : i = s.cells.length
        · rw [e, hgetn] at h4
          exact absurd h4 hm
        · have h5 : i < s.cells.length := by
            have : i < s.cells.length + 1 := by simpa using h3
            omega
          rw [hget i h5] at h4
          exact (h2 i).2 ⟨h5, h4⟩
/-- Behind some cells: all of these have their segment. -/
theorem plan_inv (hJ : Jn N jn) {free : Nat → Prop} (hfr : ∀ x, (jn x).length = 2 → free x) : ∀ (r : List Nat), (∀ x ∈ r, x < N ∧ free x) → (r.reverse).Pairwise (· < ·) → (∀ (pre : List Nat) (a : Nat) (post : List Nat), r.reverse = pre ++ a :: post → ∀ x, x < a → free x → x ∈ pre) →
    Inv N jn free (planK N jn r.reverse) ∧ ∀ x ∈ r, 0 ≤ (planK N jn r.reverse).of.getD x 0
  | [], _, _, _ => ⟨by simpa [planK] using Inv.start free, fun x hx => by simp at hx⟩
  | a :: r, h1, h2, h3 => by
    rw [List.reverse_cons] at h2 h3 ⊢
    obtain ⟨ih1, ih2⟩ := plan_inv hJ hfr r (fun x hx => h1 x (List.mem_cons_of_mem _ hx)) (List.pairwise_append.1 h2).1 (fun pre b post e x hx hf => h3 pre b (post ++ [a]) (by rw [e]; simp) x hx hf)
    obtain ⟨haN, hfa⟩ := h1 a (by simp)
    rw [planK_snoc]
    unfold stepS
    by_cases h0 : 0 ≤ (planK N jn r.reverse).of.getD a 0
    · rw [if_pos h0]
      refine ⟨ih1, fun x hx => ?_⟩
      rcases List.mem_cons.1 hx with rfl | hx
      · exact h0
      · exact ih2 x hx
    · rw [if_neg h0]
      refine ⟨ih1.add hJ haN hfa h0 (fun x hx hf => ih2 x (List.mem_reverse.1 (h3 r.reverse a [] rfl x hx hf))) hfr, fun x hx => ?_⟩
      have hxN := (h1 x hx).1
      unfold Pl.add
      rw [setAll_at _ _ _ _ (by rw [ih1.len]; exact hxN)]
      split
      · omega
      · rename_i hm
        rcases List.mem_cons.1 hx with rfl | hx
        · exact absurd (ord_list hJ haN).2.2.2.1 hm
        · exact ih2 x hx
end
end Sg

/-- A map's plan: each free cell is in one segment. -/
theorem plan_ok {R C : Nat} {ms : List UInt8} (hC : 1 ≤ C) (hN : R * C = ms.length) : Sg.Inv ms.length (jnF R C ms) (fun x => freeB ms (x : Int) = true) (planF R C ms) ∧ ∀ x, x < ms.length → freeB ms (x : Int) = true → 0 ≤ (planF R C ms).of.getD x 0 := by
  have hJ := jnF_jn (ms := ms) hC hN
  have hmem : ∀ x, x ∈ frees ms ↔ x < ms.length ∧ freeB ms (x : Int) = true := by
    intro x
    unfold frees freeK
    rw [List.mem_filter, List.mem_range]
    refine and_congr_right fun hx => ?_
    unfold freeB
    simp [hx]
  have hr : (frees ms).Pairwise (· < ·) := by
    unfold frees freeK
    exact List.Pairwise.filter _ (List.pairwise_lt_range (n := ms.length))
  have hfr : ∀ x, (jnF R C ms x).length = 2 → freeB ms (x : Int) = true := by
    intro x hx
    have h1 := (Sg.two_mem hx).2 (.inl rfl)
    rcases (jnF_mem.1 h1).2 with h2 | h2
    · exact (out_facts hC hN (out_from h2) h2).2.2.1
    · exact (out_facts hC hN (out_from h2) h2).2.2.2.1
  have h := Sg.plan_inv hJ (free := fun x => freeB ms (x : Int) = true) hfr (frees ms).reverse (fun x hx => (hmem x).1 (List.mem_reverse.1 hx)) (by rw [List.reverse_reverse]; exact hr) (fun pre a post e x hx hf => by
    rw [List.reverse_reverse] at e
    have hxm : x ∈ frees ms := (hmem x).2 ⟨by
      have ha : a ∈ frees ms := by rw [e]; simp
      have := ((hmem a).1 ha).1
      omega, hf⟩
    rw [e] at hxm hr
    rcases List.mem_append.1 hxm with h | h
    · exact h
    · exfalso
      rcases List.mem_cons.1 h with rfl | h
      · omega
      · have := (List.pairwise_append.1 hr).2.1
        rw [List.pairwise_cons] at this
        have := this.1 x h
        omega)
  rw [List.reverse_reverse] at h
  exact ⟨h.1, fun x hx hf => h.2 x (List.mem_reverse.2 ((hmem x).2 ⟨hx, hf⟩))⟩
end Go.Proofs.YtekhlaodlagbdaaGreatDoor
