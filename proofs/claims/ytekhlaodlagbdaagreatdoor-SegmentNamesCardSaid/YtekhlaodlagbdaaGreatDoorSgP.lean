/-
  Segments, pure: cells that are joined; rows of cells that are joined with two; what is a segment.
-/
import Derived.Test.YtekhlaodlagbdaaGreatDoorRows
namespace Go.Proofs.YtekhlaodlagbdaaGreatDoor
set_option maxRecDepth 100000
set_option linter.unusedSimpArgs false

namespace Sg

/-- Whoever is joined with whom. -/
structure Jn (N : Nat) (jn : Nat → List Nat) : Prop where
  bd : ∀ {a b}, b ∈ jn a → b < N
  sym : ∀ {a b}, b ∈ jn a → a ∈ jn b
  irr : ∀ {a}, a ∉ jn a
  rise : ∀ a, (jn a).Pairwise (· < ·)

/-- The other one of two. -/
def nxt (jn : Nat → List Nat) (last at_ : Nat) : Nat := if (jn at_).getD 0 0 = last then (jn at_).getD 1 0 else (jn at_).getD 0 0
/-- The cells of a row: those behind a cell, by way of one that is joined with it. -/
def rowF (jn : Nat → List Nat) (cell : Nat) : Nat → Nat → Nat → List Nat
  | 0, _, _ => []
  | f + 1, last, at_ => if at_ = cell then [] else if (jn at_).length = 2 then at_ :: rowF jn cell f at_ (nxt jn last at_) else []
/-- Where the row ends. -/
def endF (jn : Nat → List Nat) (cell : Nat) : Nat → Nat → Nat → Nat
  | 0, _, at_ => at_
  | f + 1, last, at_ => if at_ = cell then at_ else if (jn at_).length = 2 then endF jn cell f at_ (nxt jn last at_) else at_
/-- A segment's cells, in order, and its kind, by one of its cells. -/
def ordF (N : Nat) (jn : Nat → List Nat) (a : Nat) : List Nat × Nat :=
  if (jn a).length = 2 then
    let c1 := a :: rowF jn a N a ((jn a).getD 0 0)
    if c1.getD (c1.length - 1) 0 = (jn a).getD 1 0 then (c1, 3)
    else
      let c2 := c1.reverse ++ rowF jn a N a ((jn a).getD 1 0)
      if c2.getD (c2.length - 1) 0 < c2.getD 0 0 then (c2.reverse, 2) else (c2, 2)
  else ([a], 1)

section
variable {N : Nat} {jn : Nat → List Nat}

theorem two_of {l : List Nat} (h : l.length = 2) : l = [l.getD 0 0, l.getD 1 0] := by
  match l, h with
  | [x, y], _ => rfl
theorem two_lt {l : List Nat} (h : l.length = 2) (hr : l.Pairwise (· < ·)) : l.getD 0 0 < l.getD 1 0 := by
  rw [two_of h] at hr
  simpa using hr
theorem two_mem {l : List Nat} (h : l.length = 2) {x : Nat} : x ∈ l ↔ x = l.getD 0 0 ∨ x = l.getD 1 0 := by
  conv => lhs; rw [two_of h]
  simp
theorem nxt_mem {a b : Nat} (h : (jn b).length = 2) : nxt jn a b ∈ jn b := by
  unfold nxt
  split
  · exact (two_mem h).2 (.inr rfl)
  · exact (two_mem h).2 (.inl rfl)
theorem nxt_ne {a b : Nat} (hJ : Jn N jn) (h : (jn b).length = 2) : nxt jn a b ≠ a := by
  have h1 := two_lt h (hJ.rise b)
  unfold nxt
  split
  · omega
  · assumption
/-- Who is joined with one that is joined with two. -/
theorem nxt_or {a b y : Nat} (h : (jn b).length = 2) (ha : a ∈ jn b) (hy : y ∈ jn b) : y = a ∨ y = nxt jn a b := by
  rw [two_mem h] at ha hy
  unfold nxt
  split
  · rcases hy with rfl | rfl
    · exact .inl (by assumption)
    · exact .inr rfl
  · rcases hy with rfl | rfl
    · exact .inr rfl
    · rcases ha with rfl | rfl
      · rename_i h; exact absurd rfl h
      · exact .inl rfl

/-- A walk: from p 0 on, p 1 .. p k are joined with two, and it goes never back. -/
structure Trail (jn : Nat → List Nat) (p : Nat → Nat) (k : Nat) : Prop where
  two : ∀ i, i ≤ k → (jn (p i)).length = 2
  adj : ∀ i, i ≤ k → p (i + 1) ∈ jn (p i)
  on : ∀ i, i < k → p (i + 2) = nxt jn (p i) (p (i + 1))
  inj : ∀ i j, i < j → j ≤ k → p i ≠ p j

theorem Trail.fresh (hJ : Jn N jn) {p : Nat → Nat} {k : Nat} (h : Trail jn p k) {i : Nat} (h1 : 1 ≤ i) (hi : i ≤ k) : p (k + 1) ≠ p i := by
  intro e
  obtain ⟨i, rfl⟩ : ∃ m, i = m + 1 := ⟨i - 1, by omega⟩
  have h2 := h.two (i + 1) hi
  have h3 : p k ∈ jn (p (i + 1)) := by rw [← e]; exact hJ.sym (h.adj k (by omega))
  have h4 : p i ∈ jn (p (i + 1)) := hJ.sym (h.adj i (by omega))
  by_cases hk : i + 1 = k
  · rw [hk] at h3
    exact hJ.irr h3
  · rcases nxt_or h2 h4 h3 with h5 | h5
    · exact h.inj i k (by omega) (by omega) h5.symm
    · rw [← h.on i (by omega)] at h5
      by_cases hk2 : i + 2 = k
      · have h6 := h.on (i + 1) (by omega)
        have h7 : p (i + 1 + 2) ≠ p (i + 1) := by
          rw [h6]
          exact nxt_ne hJ (h.two (i + 1 + 1) (by omega))
        apply h7
        rw [show i + 1 + 2 = k + 1 by omega]
        exact e
      · exact h.inj (i + 2) k (by omega) (by omega) h5.symm
theorem Trail.next (hJ : Jn N jn) {p : Nat → Nat} {k : Nat} (h : Trail jn p k) (h0 : p (k + 1) ≠ p 0) (h2 : (jn (p (k + 1))).length = 2) (hn : p (k + 2) = nxt jn (p k) (p (k + 1))) : Trail jn p (k + 1) := by
  refine ⟨fun i hi => ?_, fun i hi => ?_, fun i hi => ?_, fun i j hij hj => ?_⟩
  · rcases Nat.lt_or_ge i (k + 1) with h3 | h3
    · exact h.two i (by omega)
    · rw [show i = k + 1 by omega]; exact h2
  · rcases Nat.lt_or_ge i (k + 1) with h3 | h3
    · exact h.adj i (by omega)
    · rw [show i = k + 1 by omega, hn]; exact nxt_mem h2
  · rcases Nat.lt_or_ge i k with h3 | h3
    · exact h.on i h3
    · rw [show i = k by omega]; exact hn
  · rcases Nat.lt_or_ge j (k + 1) with h3 | h3
    · exact h.inj i j hij (by omega)
    · obtain rfl : j = k + 1 := by omega
      rcases Nat.eq_zero_or_pos i with rfl | h4
      · exact h0.symm
      · exact (h.fresh hJ h4 (by omega)).symm
/-- The cells of a walk, one behind the other. -/
theorem Trail.lt (hJ : Jn N jn) {p : Nat → Nat} {k : Nat} (h : Trail jn p k) (h0 : p 0 < N) : k < N := by
  have hb : ∀ i, i ≤ k → p i < N := fun i hi => by
    rcases Nat.eq_zero_or_pos i with rfl | h1
    · exact h0
    · have := hJ.bd (h.adj (i - 1) (by omega))
      rwa [show i - 1 + 1 = i by omega] at this
  have hn : ((List.range (k + 1)).map p).Nodup := by
    rw [List.nodup_iff_pairwise_ne, List.pairwise_map]
    refine (List.pairwise_lt_range (n := k + 1)).imp_of_mem ?_
    intro i j hi hj hij
    exact h.inj i j hij (by have := List.mem_range.1 hj; omega)
  have hs : ((List.range (k + 1)).map p) ⊆ List.range N := by
    intro x hx
    obtain ⟨i, hi, rfl⟩ := List.mem_map.1 hx
    exact List.mem_range.2 (hb i (by have := List.mem_range.1 hi; omega))
  have := hn.length_le_of_subset hs
  simp at this
  omega

/-- The walk of a row: the beginning, the cells, and where it ends. -/
def wlk (jn : Nat → List Nat) (a s : Nat) : Nat → Nat
  | 0 => a
  | 1 => s
  | i + 2 => nxt jn (wlk jn a s i) (wlk jn a s (i + 1))
theorem wlk_zero (a s : Nat) : wlk jn a s 0 = a := rfl
theorem wlk_one (a s : Nat) : wlk jn a s 1 = s := rfl
theorem wlk_on (a s i : Nat) : wlk jn a s (i + 2) = nxt jn (wlk jn a s i) (wlk jn a s (i + 1)) := rfl
theorem trail_start {a s : Nat} (h : (jn a).length = 2) (hs : s ∈ jn a) : Trail jn (wlk jn a s) 0 :=
  ⟨fun i hi => by rw [show i = 0 by omega]; exact h, fun i hi => by rw [show i = 0 by omega]; exact hs, fun i hi => by omega, fun i j hij hj => by omega⟩

/-- A row, all of it: k cells. -/
structure Row (jn : Nat → List Nat) (a s k : Nat) : Prop where
  trail : Trail jn (wlk jn a s) k
  stop : wlk jn a s (k + 1) = a ∨ (jn (wlk jn a s (k + 1))).length ≠ 2
theorem row_run (hJ : Jn N jn) {a s : Nat} (ha : a < N) : ∀ (f k : Nat), Trail jn (wlk jn a s) k → N ≤ f + k → ∃ m, k ≤ m ∧ Row jn a s m ∧ rowF jn a f (wlk jn a s k) (wlk jn a s (k + 1)) = (List.range' (k + 1) (m - k)).map (wlk jn a s)
  | 0, k, h, hN => by
    have := h.lt hJ (by exact ha)
    omega
  | f + 1, k, h, hN => by
    unfold rowF
    by_cases h0 : wlk jn a s (k + 1) = a
    · rw [if_pos h0]
      exact ⟨k, Nat.le_refl _, ⟨h, .inl h0⟩, by simp⟩
    · rw [if_neg h0]
      by_cases h2 : (jn (wlk jn a s (k + 1))).length = 2
      · rw [if_pos h2]
        have h3 := h.next hJ h0 h2 (wlk_on a s k)
        obtain ⟨m, hm, hr, e⟩ := row_run hJ ha f (k + 1) h3 (by omega)
        refine ⟨m, by omega, hr, ?_⟩
        rw [← wlk_on a s k, e, show m - k = (m - (k + 1)) + 1 by omega, List.range'_succ, List.map_cons]
      · rw [if_neg h2]
        exact ⟨k, Nat.le_refl _, ⟨h, .inr h2⟩, by simp⟩
theorem row_all (hJ : Jn N jn) {a s : Nat} (ha : a < N) (h2 : (jn a).length = 2) (hs : s ∈ jn a) : ∃ k, Row jn a s k ∧ rowF jn a N a s = (List.range' 1 k).map (wlk jn a s) := by
  obtain ⟨m, _, hr, e⟩ := row_run hJ ha N 0 (trail_start h2 hs) (by omega)
  exact ⟨m, hr, by simpa [wlk_zero, wlk_one] using e⟩

theorem Row.uniq {a s k m : Nat} (h : Row jn a s k) (h' : Row jn a s m) : k = m := by
  have key : ∀ {k m}, Row jn a s k → Row jn a s m → ¬ k < m := fun {k m} h h' hlt => by
    rcases h.stop with h1 | h1
    · exact h'.trail.inj 0 (k + 1) (by omega) (by omega) h1.symm
    · exact h1 (h'.trail.two (k + 1) (by omega))
  have h1 := key h h'
  have h2 := key h' h
  omega
/-- What is left of a row. -/
theorem Row.left (hJ : Jn N jn) {a s m : Nat} (ha : a < N) (h : Row jn a s m) {k : Nat} (hk : k ≤ m) : rowF jn a N (wlk jn a s k) (wlk jn a s (k + 1)) = (List.range' (k + 1) (m - k)).map (wlk jn a s) := by
  have ht : Trail jn (wlk jn a s) k := ⟨fun i hi => h.trail.two i (by omega), fun i hi => h.trail.adj i (by omega), fun i hi => h.trail.on i (by omega), fun i j hij hj => h.trail.inj i j hij (by omega)⟩
  obtain ⟨m', _, hr, e⟩ := row_run hJ ha N k ht (by omega)
  obtain rfl := h.uniq hr
  exact e
theorem Row.ends {a s m k : Nat} (h : Row jn a s m) (hk : k ≤ m) (e : wlk jn a s (k + 1) = a ∨ (jn (wlk jn a s (k + 1))).length ≠ 2) : k = m := by
  rcases Nat.lt_or_ge k m with h1 | h1
  · rcases e with e | e
    · exact absurd e.symm (h.trail.inj 0 (k + 1) (by omega) (by omega))
    · exact absurd (h.trail.two (k + 1) (by omega)) e
  · omega
theorem Row.goes {a s m k : Nat} (h : Row jn a s m) (hk : k ≤ m) (e : wlk jn a s (k + 1) ≠ a) (e2 : (jn (wlk jn a s (k + 1))).length = 2) : k < m := by
  rcases Nat.lt_or_ge k m with h1 | h1
  · exact h1
  · obtain rfl : k = m := by omega
    rcases h.stop with h2 | h2
    · exact absurd h2 e
    · exact absurd e2 h2
theorem row_snoc (p : Nat → Nat) (k : Nat) : (List.range' 1 (k + 1)).map p = (List.range' 1 k).map p ++ [p (k + 1)] := by
  rw [List.range'_concat, List.map_append]
  simp [Nat.add_comm]
/-- Whoever is joined with a cell of a row. -/
theorem Row.nb (hJ : Jn N jn) {a s k : Nat} (h : Row jn a s k) {i y : Nat} (hi : i < k) (hy : y ∈ jn (wlk jn a s (i + 1))) : y = wlk jn a s i ∨ y = wlk jn a s (i + 2) := by
  have h1 := nxt_or (h.trail.two (i + 1) (by omega)) (hJ.sym (h.trail.adj i (by omega))) hy
  rwa [← wlk_on] at h1
/-- It comes back to its beginning just by the other one of the two. -/
theorem Row.round (hJ : Jn N jn) {a s t k : Nat} (h : Row jn a s k) (h2 : (jn a).length = 2) (hs : s ∈ jn a) (ht : t ∈ jn a) (hne : s ≠ t) (e : wlk jn a s (k + 1) = a) : 1 ≤ k ∧ wlk jn a s k = t := by
  rcases Nat.eq_zero_or_pos k with rfl | hk
  · exact absurd (show s = a from e) (fun e' => hJ.irr (e' ▸ hs))
  · refine ⟨hk, ?_⟩
    have h3 : wlk jn a s k ∈ jn a := by
      have h6 := hJ.sym (h.trail.adj k (Nat.le_refl _))
      rwa [e] at h6
    rw [two_mem h2] at h3 hs ht
    have h4 : wlk jn a s k ≠ s := by
      intro e2
      rcases Nat.lt_or_ge 1 k with h5 | h5
      · exact h.trail.inj 1 k h5 (Nat.le_refl _) e2.symm
      · obtain rfl : k = 1 := by omega
        have := nxt_ne (a := wlk jn a s 0) hJ (h.trail.two 1 (Nat.le_refl _))
        rw [← wlk_on] at this
        exact this e
    omega
theorem Row.round' (hJ : Jn N jn) {a s t k : Nat} (h : Row jn a s k) (ht : t ∈ jn a) (hne : s ≠ t) (hk : 1 ≤ k) (e : wlk jn a s k = t) : wlk jn a s (k + 1) = a := by
  obtain ⟨k, rfl⟩ : ∃ m, k = m + 1 := ⟨k - 1, by omega⟩
  have h3 : a ∈ jn (wlk jn a s (k + 1)) := by rw [e]; exact hJ.sym ht
  rcases h.nb hJ (Nat.lt_succ_self k) h3 with h4 | h4
  · rcases Nat.eq_zero_or_pos k with rfl | hk
    · exact absurd (show s = t from e) hne
    · exact absurd h4 (h.trail.inj 0 k hk (by omega))
  · exact h4.symm
/-- Two rows from one cell that do not come back to it meet nowhere. -/
theorem Row.apart (hJ : Jn N jn) {a s t k m : Nat} (h : Row jn a s k) (h' : Row jn a t m) (hne : s ≠ t) (he : (jn (wlk jn a s (k + 1))).length ≠ 2) : ∀ j, 1 ≤ j → j ≤ m → ∀ i, 1 ≤ i → i ≤ k → wlk jn a t j ≠ wlk jn a s i := by
  intro j
  induction j with
  | zero => intro h1; omega
  | succ j ih =>
    intro _ hj i hi1 hik e
    obtain ⟨i, rfl⟩ : ∃ n, i = n + 1 := ⟨i - 1, by omega⟩
    have h3 : wlk jn a t j ∈ jn (wlk jn a s (i + 1)) := by rw [← e]; exact hJ.sym (h'.trail.adj j (by omega))
    rcases h.nb hJ (by omega) h3 with h4 | h4
    · rcases Nat.eq_zero_or_pos j with rfl | hj0
      · rcases Nat.eq_zero_or_pos i with rfl | hi0
        · exact hne e.symm
        · exact h.trail.inj 0 i hi0 (by omega) h4
      · rcases Nat.eq_zero_or_pos i with rfl | hi0
        · exact h'.trail.inj 0 j hj0 (by omega) h4.symm
        · exact ih (by omega) (by omega) i hi0 (by omega) h4
    · rcases Nat.lt_or_ge (i + 1) k with h5 | h5
      · rcases Nat.eq_zero_or_pos j with rfl | hj0
        · exact h.trail.inj 0 (i + 2) (by omega) (by omega) h4
        · exact ih (by omega) (by omega) (i + 2) (by omega) (by omega) h4
      · rw [show i + 2 = k + 1 by omega] at h4
        apply he
        rw [← h4]
        exact h'.trail.two j (by omega)

/-- A corridor's cells, in order. -/
structure Cor (jn : Nat → List Nat) (q : Nat → Nat) (n : Nat) : Prop where
  pos : 1 ≤ n
  two : ∀ i, i < n → (jn (q i)).length = 2
  adj : ∀ i, i + 1 < n → q (i + 1) ∈ jn (q i)
  inj : ∀ i j, i < j → j < n → q i ≠ q j
  nb : ∀ i y, i < n → y ∈ jn (q i) → (1 ≤ i ∧ y = q (i - 1)) ∨ (i + 1 < n ∧ y = q (i + 1)) ∨ (jn y).length ≠ 2
  e0 : ∃ y, y ∈ jn (q 0) ∧ (jn y).length ≠ 2
  e1 : ∃ y, y ∈ jn (q (n - 1)) ∧ (jn y).length ≠ 2
/-- A ring's. -/
structure Rng (jn : Nat → List Nat) (q : Nat → Nat) (n : Nat) : Prop where
  pos : 3 ≤ n
  two : ∀ i, i < n → (jn (q i)).length = 2
  adj : ∀ i, i + 1 < n → q (i + 1) ∈ jn (q i)
  wrap : q 0 ∈ jn (q (n - 1))
  inj : ∀ i j, i < j → j < n → q i ≠ q j
  nb : ∀ i y, i < n → y ∈ jn (q i) → (1 ≤ i ∧ y = q (i - 1)) ∨ (i + 1 < n ∧ y = q (i + 1)) ∨ (i = 0 ∧ y = q (n - 1)) ∨ (i + 1 = n ∧ y = q 0)

theorem Cor.rev (hJ : Jn N jn) {q : Nat → Nat} {n : Nat} (h : Cor jn q n) : Cor jn (fun i => q (n - 1 - i)) n where
  pos := h.pos
  two i hi := h.two _ (by omega)
  adj i hi := by
    have := hJ.sym (h.adj (n - 1 - (i + 1)) (by omega))
    rwa [show n - 1 - (i + 1) + 1 = n - 1 - i by omega] at this
  inj i j hij hj e := h.inj (n - 1 - j) (n - 1 - i) (by omega) (by omega) e.symm
  nb i y hi hy := by
    rcases h.nb (n - 1 - i) y (by omega) hy with ⟨h1, h2⟩ | ⟨h1, h2⟩ | h1
    · exact .inr (.inl ⟨by omega, by rw [h2]; show _ = q (n - 1 - (i + 1)); congr 1⟩)
    · exact .inl ⟨by omega, by rw [h2]; show _ = q (n - 1 - (i - 1)); congr 1; omega⟩
    · exact .inr (.inr h1)
  e0 := by simpa using h.e1
  e1 := by
    have := h.e0
    rwa [show (0 : Nat) = n - 1 - (n - 1) by omega] at this

theorem map_cons (a : Nat) (p : Nat → Nat) (hp : p 0 = a) (k : Nat) : a :: (List.range' 1 k).map p = (List.range (k + 1)).map p := by
  rw [List.range_eq_range', List.range'_succ, List.map_cons, hp]
theorem map_at (q : Nat → Nat) {n i : Nat} (h : i < n) : ((List.range n).map q).getD i 0 = q i := by simp [List.getD, h]
theorem map_rev (q : Nat → Nat) (n : Nat) : ((List.range n).map q).reverse = (List.range n).map (fun i => q (n - 1 - i)) := by
  apply List.ext_getElem (by simp)
  intro i h1 h2
  simp
theorem map_app (p q : Nat → Nat) (n m : Nat) : (List.range n).map p ++ (List.range' 1 m).map q = (List.range (n + m)).map (fun i => if i < n then p i else q (i + 1 - n)) := by
  apply List.ext_getElem (by simp)
  intro i h1 h2
  simp only [List.getElem_append, List.length_map, List.length_range, List.getElem_map, List.getElem_range, List.getElem_range']
  split
  · rfl
  · congr 1; omega

/-- What is a segment, by one of its cells that is no junction. -/
theorem ord_two (hJ : Jn N jn) {a : Nat} (ha : a < N) (h2 : (jn a).length = 2) :
    (∃ q n, ordF N jn a = ((List.range n).map q, 2) ∧ Cor jn q n ∧ q 0 ≤ q (n - 1) ∧ ∃ i, i < n ∧ q i = a) ∨ (∃ q n, ordF N jn a = ((List.range n).map q, 3) ∧ Rng jn q n ∧ q 0 = a ∧ q 1 < q (n - 1)) := by
  have h01 := two_lt h2 (hJ.rise a)
  have hs : (jn a).getD 0 0 ∈ jn a := (two_mem h2).2 (.inl rfl)
  have ht : (jn a).getD 1 0 ∈ jn a := (two_mem h2).2 (.inr rfl)
  have hab := two_mem (x := a) h2
  have hnb := fun y => two_mem (x := y) h2
  unfold ordF
  rw [if_pos h2]
  simp only
  generalize (jn a).getD 0 0 = s at *
  generalize (jn a).getD 1 0 = t at *
  obtain ⟨k, hr, e1⟩ := row_all hJ ha h2 hs
  obtain ⟨m, hr', e2⟩ := row_all hJ ha h2 ht
  rw [e1, e2, map_cons a _ (wlk_zero a s)]
  have hl : ((List.range (k + 1)).map (wlk jn a s)).length - 1 = k := by simp
  rw [hl, map_at _ (by omega)]
  by_cases hg : wlk jn a s k = t
  · rw [if_pos hg]
    have hk : 1 ≤ k := by
      rcases Nat.eq_zero_or_pos k with rfl | hk
      · exact absurd (show a = t from hg) (fun e => hJ.irr (e ▸ ht))
      · exact hk
    have he := hr.round' hJ ht (by omega) hk hg
    have hk2 : 2 ≤ k := by
      rcases Nat.lt_or_ge 1 k with h | h
      · exact h
      · obtain rfl : k = 1 := by omega
        exact absurd (show s = t from hg) (by omega)
    refine .inr ⟨wlk jn a s, k + 1, rfl, ⟨by omega, fun i hi => hr.trail.two i (by omega), fun i hi => hr.trail.adj i (by omega), ?_, fun i j hij hj => hr.trail.inj i j hij (by omega), fun i y hi hy => ?_⟩, rfl, ?_⟩
    · rw [Nat.add_sub_cancel]
      have := hr.trail.adj k (Nat.le_refl _)
      rwa [he] at this
    · rcases Nat.eq_zero_or_pos i with rfl | hi0
      · rcases (hnb y).1 hy with h | h
        · exact .inr (.inl ⟨by omega, h⟩)
        · exact .inr (.inr (.inl ⟨rfl, by rw [Nat.add_sub_cancel, hg]; exact h⟩))
      · obtain ⟨i, rfl⟩ : ∃ n, i = n + 1 := ⟨i - 1, by omega⟩
        rcases hr.nb hJ (by omega) hy with h | h
        · exact .inl ⟨by omega, h⟩
        · rcases Nat.lt_or_ge (i + 1) k with h3 | h3
          · exact .inr (.inl ⟨by omega, h⟩)
          · refine .inr (.inr (.inr ⟨by omega, ?_⟩))
            rw [show i + 2 = k + 1 by omega, he] at h
            exact h
    · rw [Nat.add_sub_cancel, hg]
      exact h01
  · rw [if_neg hg]
    have hE0 : (jn (wlk jn a s (k + 1))).length ≠ 2 := by
      rcases hr.stop with h | h
      · exact absurd (hr.round hJ h2 hs ht (by omega) h).2 hg
      · exact h
    have hap := hr.apart hJ hr' (by omega) hE0
    have hE1 : (jn (wlk jn a t (m + 1))).length ≠ 2 := by
      rcases hr'.stop with h | h
      · obtain ⟨hm, h3⟩ := hr'.round hJ h2 ht hs (by omega) h
        rcases Nat.eq_zero_or_pos k with rfl | hk
        · intro _
          apply hE0
          show (jn s).length = 2
          rw [← h3]
          exact hr'.trail.two m (Nat.le_refl _)
        · exact absurd h3 (hap m hm (Nat.le_refl _) 1 (Nat.le_refl _) hk)
      · exact h
    -- the cells, from the one end to the other
    obtain ⟨q, hq⟩ : ∃ q : Nat → Nat, q = fun i => if i < k + 1 then wlk jn a s (k - i) else wlk jn a t (i + 1 - (k + 1)) := ⟨_, rfl⟩
    have hlo : ∀ i, i ≤ k → q i = wlk jn a s (k - i) := fun i hi => by rw [hq]; exact if_pos (by omega)
    have hhi : ∀ i, k ≤ i → q i = wlk jn a t (i - k) := fun i hi => by
      rcases Nat.lt_or_ge k i with h | h
      · rw [hq]
        show (if i < k + 1 then _ else _) = _
        rw [if_neg (by omega)]
        congr 1; omega
      · obtain rfl : i = k := by omega
        rw [hlo i (Nat.le_refl _), Nat.sub_self]; rfl
    have hc : Cor jn q (k + 1 + m) := by
      refine ⟨by omega, fun i hi => ?_, fun i hi => ?_, fun i j hij hj => ?_, fun i y hi hy => ?_, ?_, ?_⟩
      · rcases Nat.lt_or_ge k i with h | h
        · rw [hhi i (by omega)]; exact hr'.trail.two _ (by omega)
        · rw [hlo i h]; exact hr.trail.two _ (by omega)
      · rcases Nat.lt_or_ge i k with h | h
        · rw [hlo i (by omega), hlo (i + 1) (by omega)]
          have := hJ.sym (hr.trail.adj (k - (i + 1)) (by omega))
          rwa [show k - (i + 1) + 1 = k - i by omega] at this
        · rw [hhi i h, hhi (i + 1) (by omega), show i + 1 - k = i - k + 1 by omega]
          exact hr'.trail.adj _ (by omega)
      · rcases Nat.lt_or_ge k j with h | h
        · rcases Nat.lt_or_ge k i with h' | h'
          · rw [hhi i (by omega), hhi j (by omega)]
            exact hr'.trail.inj _ _ (by omega) (by omega)
          · rw [hlo i h', hhi j (by omega)]
            intro e
            rcases Nat.lt_or_ge i k with h5 | h5
            · exact hap (j - k) (by omega) (by omega) (k - i) (by omega) (by omega) e.symm
            · obtain rfl : i = k := by omega
              rw [Nat.sub_self] at e
              exact hr'.trail.inj 0 (j - i) (by omega) (by omega) e
        · rw [hlo i (by omega), hlo j h]
          exact (hr.trail.inj (k - j) (k - i) (by omega) (by omega)).symm
      · rcases Nat.lt_or_ge i k with h | h
        · rw [hlo i (by omega)] at hy
          obtain ⟨c, hcc⟩ : ∃ c, k - i = c + 1 := ⟨k - i - 1, by omega⟩
          rw [hcc] at hy
          rcases hr.nb hJ (by omega) hy with h3 | h3
          · refine .inr (.inl ⟨by omega, ?_⟩)
            rw [hlo (i + 1) (by omega), h3]; congr 1; omega
          · rcases Nat.eq_zero_or_pos i with rfl | hi0
            · refine .inr (.inr ?_)
              rw [show c + 2 = k + 1 by omega] at h3
              rw [h3]; exact hE0
            · refine .inl ⟨hi0, ?_⟩
              rw [hlo (i - 1) (by omega), h3]; congr 1; omega
        · rcases Nat.lt_or_ge k i with h' | h'
          · rw [hhi i h] at hy
            obtain ⟨c, hcc⟩ : ∃ c, i - k = c + 1 := ⟨i - k - 1, by omega⟩
            rw [hcc] at hy
            rcases hr'.nb hJ (by omega) hy with h3 | h3
            · refine .inl ⟨by omega, ?_⟩
              rw [hhi (i - 1) (by omega), h3]; congr 1; omega
            · rcases Nat.lt_or_ge (i + 1) (k + 1 + m) with h5 | h5
              · refine .inr (.inl ⟨h5, ?_⟩)
                rw [hhi (i + 1) (by omega), h3]; congr 1; omega
              · refine .inr (.inr ?_)
                rw [show c + 2 = m + 1 by omega] at h3
                rw [h3]; exact hE1
          · obtain rfl : i = k := by omega
            rw [hlo i (Nat.le_refl _), Nat.sub_self, wlk_zero] at hy
            rcases (hnb y).1 hy with h3 | h3
            · rcases Nat.eq_zero_or_pos i with rfl | hi0
              · exact .inr (.inr (by rw [h3]; exact hE0))
              · refine .inl ⟨hi0, ?_⟩
                rw [hlo (i - 1) (by omega), h3, show i - (i - 1) = 1 by omega]; rfl
            · rcases Nat.eq_zero_or_pos m with rfl | hm0
              · exact .inr (.inr (by rw [h3]; exact hE1))
              · refine .inr (.inl ⟨by omega, ?_⟩)
                rw [hhi (i + 1) (by omega), h3, show i + 1 - i = 1 by omega]; rfl
      · refine ⟨_, ?_, hE0⟩
        rw [hlo 0 (by omega), Nat.sub_zero]
        exact hr.trail.adj k (Nat.le_refl _)
      · refine ⟨_, ?_, hE1⟩
        rw [hhi (k + 1 + m - 1) (by omega), show k + 1 + m - 1 - k = m by omega]
        exact hr'.trail.adj m (Nat.le_refl _)
    have hrl : ((List.range (k + 1)).map (wlk jn a s)).reverse ++ (List.range' 1 m).map (wlk jn a t) = (List.range (k + 1 + m)).map q := by
      rw [map_rev, map_app, hq]
      apply List.map_congr_left
      intro i _
      show (if i < k + 1 then wlk jn a s (k + 1 - 1 - i) else _) = _
      rw [Nat.add_sub_cancel]
    have hla : ((List.range (k + 1 + m)).map q).length - 1 = k + m := by rw [List.length_map, List.length_range]; omega
    rw [hrl, hla, map_at q (by omega), map_at q (by omega)]
    have hak : q k = a := by rw [hlo k (Nat.le_refl _), Nat.sub_self]; rfl
    by_cases hlt : q (k + m) < q 0
    · rw [if_pos hlt, map_rev]
      refine .inl ⟨_, _, rfl, hc.rev hJ, ?_, k + 1 + m - 1 - k, by omega, ?_⟩
      · show q (k + 1 + m - 1 - 0) ≤ q (k + 1 + m - 1 - (k + 1 + m - 1))
        rw [show k + 1 + m - 1 - 0 = k + m by omega, show k + 1 + m - 1 - (k + 1 + m - 1) = 0 by omega]
        omega
      · show q (k + 1 + m - 1 - (k + 1 + m - 1 - k)) = a
        rw [show k + 1 + m - 1 - (k + 1 + m - 1 - k) = k by omega, hak]
    · rw [if_neg hlt]
      refine .inl ⟨q, _, rfl, hc, ?_, k, by omega, hak⟩
      rw [show k + 1 + m - 1 = k + m by omega]
      omega
theorem ord_one {a : Nat} (h2 : (jn a).length ≠ 2) : ordF N jn a = ([a], 1) := by unfold ordF; rw [if_neg h2]
end
end Sg
end Go.Proofs.YtekhlaodlagbdaaGreatDoor
