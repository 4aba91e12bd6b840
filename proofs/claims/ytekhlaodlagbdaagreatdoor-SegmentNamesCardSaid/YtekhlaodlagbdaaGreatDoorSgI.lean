/-
  How far cells are within a segment: pure.
-/
import Derived.Test.YtekhlaodlagbdaaGreatDoorSgU
namespace Go.Proofs.YtekhlaodlagbdaaGreatDoor
set_option maxRecDepth 100000
namespace Sg
/-- The place that is come to after k steps. -/
def posI (n e i k : Nat) : Nat := (i + k * e) % n
theorem pos_lt {n e i k : Nat} (h : 0 < n) : posI n e i k < n := Nat.mod_lt _ h
theorem pos_zero {n e i : Nat} (h : i < n) : posI n e i 0 = i := by unfold posI; rw [Nat.zero_mul, Nat.add_zero]; exact Nat.mod_eq_of_lt h
theorem pos_on (n e i k : Nat) : posI n e i (k + 1) = (posI n e i k + e) % n := by
  unfold posI
  rw [Nat.mod_add_mod, Nat.add_mul, Nat.one_mul, Nat.add_assoc]
theorem pos_back {n e e' i k : Nat} (he : e + e' = n) : (posI n e i (k + 1) + e') % n = posI n e i k := by
  unfold posI
  rw [Nat.mod_add_mod, Nat.add_mul, Nat.one_mul, show i + (k * e + e) + e' = i + k * e + n by omega, Nat.add_mod_right]
theorem pos_all {n e i : Nat} (h : i < n) : posI n e i n = i := by
  unfold posI
  rw [Nat.add_mul_mod_self_left]
  exact Nat.mod_eq_of_lt h

def alM (E : Nat → Nat → Bool) (l : List Nat) (e i : Nat) : Nat → Nat → Nat
  | 0, k => k
  | f + 1, k => if E (l.getD (posI l.length e i (k - 1)) 0) (l.getD (posI l.length e i k) 0) = true then alM E l e i f (k + 1) else k
structure Al (E : Nat → Nat → Bool) (l : List Nat) (e i m : Nat) : Prop where
  pos : 1 ≤ m
  le : m ≤ l.length
  go : ∀ k, k + 1 < m → E (l.getD (posI l.length e i k) 0) (l.getD (posI l.length e i (k + 1)) 0) = true
  stop : m = l.length ∨ E (l.getD (posI l.length e i (m - 1)) 0) (l.getD (posI l.length e i m) 0) = false
theorem al_run (E : Nat → Nat → Bool) (l : List Nat) (e i : Nat) : ∀ (f k : Nat), 1 ≤ k → k + f = l.length → (∀ j, j + 1 < k → E (l.getD (posI l.length e i j) 0) (l.getD (posI l.length e i (j + 1)) 0) = true) → Al E l e i (alM E l e i f k)
  | 0, k, h1, h2, h3 => ⟨h1, by show k ≤ _; omega, h3, .inl h2⟩
  | f + 1, k, h1, h2, h3 => by
    unfold alM
    by_cases h : E (l.getD (posI l.length e i (k - 1)) 0) (l.getD (posI l.length e i k) 0) = true
    · rw [if_pos h]
      refine al_run E l e i f (k + 1) (by omega) (by omega) (fun j hj => ?_)
      rcases Nat.lt_or_ge (j + 1) k with h4 | h4
      · exact h3 j h4
      · obtain rfl : j = k - 1 := by omega
        rw [Nat.sub_add_cancel h1]
        exact h
    · rw [if_neg h]
      exact ⟨h1, by omega, h3, .inr (by simpa using h)⟩
theorem al_all (E : Nat → Nat → Bool) {l : List Nat} (e i : Nat) (hl : 0 < l.length) : Al E l e i (alM E l e i (l.length - 1) 1) :=
  al_run E l e i _ 1 (Nat.le_refl _) (by omega) (fun j hj => by omega)
/-- What is told: how far, and the cell. -/
def alF (E : Nat → Nat → Bool) (l : List Nat) (e i : Nat) : List (Nat × Nat) := (List.range (alM E l e i (l.length - 1) 1)).map fun k => (k, l.getD (posI l.length e i k) 0)
theorem mem_alF {E : Nat → Nat → Bool} {l : List Nat} {e i : Nat} {x : Nat × Nat} : x ∈ alF E l e i ↔ x.1 < alM E l e i (l.length - 1) 1 ∧ x.2 = l.getD (posI l.length e i x.1) 0 := by
  unfold alF
  simp only [List.mem_map, List.mem_range]
  constructor
  · rintro ⟨k, h, rfl⟩
    exact ⟨h, rfl⟩
  · rintro ⟨h1, h2⟩
    exact ⟨x.1, h1, by rw [← h2]⟩
/-- The least so far. -/
def lesF (b : Int) (acc : Int) (x : Nat × Nat) : Int := if (x.2 : Int) = b ∧ (acc < 0 ∨ (x.1 : Int) < acc) then (x.1 : Int) else acc
def leaF (b : Int) (xs : List (Nat × Nat)) (acc : Int) : Int := xs.foldl (lesF b) acc
theorem leaF_snoc (b : Int) (xs : List (Nat × Nat)) (x : Nat × Nat) (acc : Int) : leaF b (xs ++ [x]) acc = lesF b (leaF b xs acc) x := by simp [leaF, List.foldl_append]
theorem lea_spec (b : Int) : ∀ (xs : List (Nat × Nat)) (acc : Int), (leaF b xs acc = acc ∨ ∃ x ∈ xs, (x.2 : Int) = b ∧ leaF b xs acc = (x.1 : Int)) ∧ (0 ≤ acc → 0 ≤ leaF b xs acc ∧ leaF b xs acc ≤ acc) ∧ ∀ x ∈ xs, (x.2 : Int) = b → 0 ≤ leaF b xs acc ∧ leaF b xs acc ≤ (x.1 : Int)
  | [], acc => ⟨.inl rfl, fun h => ⟨h, Int.le_refl _⟩, fun x hx => by cases hx⟩
  | y :: xs, acc => by
    obtain ⟨h1, h2, h3⟩ := lea_spec b xs (lesF b acc y)
    have e : leaF b (y :: xs) acc = leaF b xs (lesF b acc y) := rfl
    have hl : lesF b acc y = acc ∨ ((y.2 : Int) = b ∧ lesF b acc y = (y.1 : Int)) := by
      unfold lesF
      by_cases h : (y.2 : Int) = b ∧ (acc < 0 ∨ (y.1 : Int) < acc)
      · rw [if_pos h]; exact .inr ⟨h.1, rfl⟩
      · rw [if_neg h]; exact .inl rfl
    have hle : 0 ≤ acc → 0 ≤ lesF b acc y ∧ lesF b acc y ≤ acc := by
      intro h0
      unfold lesF
      by_cases h : (y.2 : Int) = b ∧ (acc < 0 ∨ (y.1 : Int) < acc)
      · rw [if_pos h]; omega
      · rw [if_neg h]; omega
    have hly : (y.2 : Int) = b → 0 ≤ lesF b acc y ∧ lesF b acc y ≤ (y.1 : Int) := by
      intro h0
      unfold lesF
      by_cases h : acc < 0 ∨ (y.1 : Int) < acc
      · rw [if_pos ⟨h0, h⟩]; omega
      · rw [if_neg (fun h' => h h'.2)]; omega
    rw [e]
    refine ⟨?_, fun h0 => ?_, fun x hx hxb => ?_⟩
    · rcases h1 with h1 | ⟨x, hx, hb, hv⟩
      · rw [h1]
        rcases hl with h | ⟨hb, hv⟩
        · exact .inl h
        · exact .inr ⟨y, List.mem_cons_self, hb, hv⟩
      · exact .inr ⟨x, List.mem_cons_of_mem _ hx, hb, hv⟩
    · have a1 := hle h0
      have a2 := h2 a1.1
      omega
    · rcases List.mem_cons.1 hx with rfl | hx
      · have a1 := hly hxb
        have a2 := h2 a1.1
        omega
      · exact h3 x hx hxb
/-- How far a cell is from one within a segment's cells; -1 if it is not come to. -/
def insF (E : Nat → Nat → Bool) (l : List Nat) (a : Nat) (b : Int) : Int := leaF b (alF E l (l.length - 1) (l.idxOf a)) (leaF b (alF E l 1 (l.idxOf a)) (-1))
theorem ins_le {E : Nat → Nat → Bool} {l : List Nat} {a : Nat} {b : Int} {x : Nat × Nat} (h : x ∈ alF E l 1 (l.idxOf a) ∨ x ∈ alF E l (l.length - 1) (l.idxOf a)) (hb : (x.2 : Int) = b) : 0 ≤ insF E l a b ∧ insF E l a b ≤ (x.1 : Int) := by
  obtain ⟨_, h2, h3⟩ := lea_spec b (alF E l (l.length - 1) (l.idxOf a)) (leaF b (alF E l 1 (l.idxOf a)) (-1))
  obtain ⟨_, _, k3⟩ := lea_spec b (alF E l 1 (l.idxOf a)) (-1)
  unfold insF
  rcases h with h | h
  · have a1 := k3 x h hb
    have a2 := h2 a1.1
    omega
  · exact h3 x h hb
theorem ins_ex {E : Nat → Nat → Bool} {l : List Nat} {a : Nat} {b : Int} : insF E l a b = -1 ∨ ∃ x, (x ∈ alF E l 1 (l.idxOf a) ∨ x ∈ alF E l (l.length - 1) (l.idxOf a)) ∧ (x.2 : Int) = b ∧ insF E l a b = (x.1 : Int) := by
  obtain ⟨h1, _, _⟩ := lea_spec b (alF E l (l.length - 1) (l.idxOf a)) (leaF b (alF E l 1 (l.idxOf a)) (-1))
  obtain ⟨k1, _, _⟩ := lea_spec b (alF E l 1 (l.idxOf a)) (-1)
  unfold insF
  rcases h1 with h | ⟨x, hx, hb, hv⟩
  · rcases k1 with k | ⟨x, hx, hb, hv⟩
    · exact .inl (h.trans k)
    · exact .inr ⟨x, .inl hx, hb, h.trans hv⟩
  · exact .inr ⟨x, .inr hx, hb, hv⟩
section
variable {E : Nat → Nat → Bool} {l : List Nat} {a : Nat}
theorem idx_at (ha : a ∈ l) : l.idxOf a < l.length ∧ l.getD (l.idxOf a) 0 = a := by
  have h := List.idxOf_lt_length_of_mem ha
  refine ⟨h, ?_⟩
  simp [List.getD, h]
theorem ins_self (ha : a ∈ l) : insF E l a (a : Int) = 0 := by
  obtain ⟨h1, h2⟩ := idx_at ha
  have hm : ((0, a) : Nat × Nat) ∈ alF E l 1 (l.idxOf a) := mem_alF.2 ⟨(al_all E 1 _ (by omega)).pos, by rw [pos_zero h1, h2]⟩
  have := ins_le (.inl hm) (b := (a : Int)) rfl
  simp at this
  omega
/-- One step more. -/
theorem al_step {e e' k c : Nat} (he : e + e' = l.length) (ha : a ∈ l) (hk : k < alM E l e (l.idxOf a) (l.length - 1) 1)
    (hc : c = l.getD ((posI l.length e (l.idxOf a) k + e) % l.length) 0 ∨ c = l.getD ((posI l.length e (l.idxOf a) k + e') % l.length) 0) (hE : E (l.getD (posI l.length e (l.idxOf a) k) 0) c = true) :
    ∃ j, j ≤ k + 1 ∧ ((j, c) ∈ alF E l e (l.idxOf a) ∨ (j, c) ∈ alF E l e' (l.idxOf a)) := by
  obtain ⟨h1, h2⟩ := idx_at ha
  have hA := al_all E e (l.idxOf a) (l := l) (by omega)
  have hA' := al_all E e' (l.idxOf a) (l := l) (by omega)
  have self : c = a → ∃ j, j ≤ k + 1 ∧ ((j, c) ∈ alF E l e (l.idxOf a) ∨ (j, c) ∈ alF E l e' (l.idxOf a)) := fun h => ⟨0, by omega, .inl (mem_alF.2 ⟨hA.pos, by show c = _; rw [pos_zero h1, h2, h]⟩)⟩
  have ahead : ∀ {d j}, Al E l d (l.idxOf a) (alM E l d (l.idxOf a) (l.length - 1) 1) → j < alM E l d (l.idxOf a) (l.length - 1) 1 → c = l.getD (posI l.length d (l.idxOf a) (j + 1)) 0 → E (l.getD (posI l.length d (l.idxOf a) j) 0) c = true → c = a ∨ (j + 1, c) ∈ alF E l d (l.idxOf a) := by
    intro d j hD hj hcj hEj
    rcases Nat.lt_or_ge (j + 1) (alM E l d (l.idxOf a) (l.length - 1) 1) with h | h
    · exact .inr (mem_alF.2 ⟨h, hcj⟩)
    · have hjm : alM E l d (l.idxOf a) (l.length - 1) 1 = j + 1 := by omega
      rcases hD.stop with h3 | h3
      · left
        rw [hcj, ← hjm, h3, pos_all h1, h2]
      · exfalso
        rw [hjm, Nat.add_sub_cancel, ← hcj, hEj] at h3
        cases h3
  rcases hc with hc | hc
  · rw [← pos_on] at hc
    rcases ahead hA hk hc hE with h | h
    · exact self h
    · exact ⟨k + 1, Nat.le_refl _, .inl h⟩
  · cases k with
    | zero =>
      rw [pos_zero h1] at hc hE
      have hc' : c = l.getD (posI l.length e' (l.idxOf a) (0 + 1)) 0 := by rw [pos_on, pos_zero h1]; exact hc
      rcases ahead hA' (by have := hA'.pos; omega) hc' (by rw [pos_zero h1]; exact hE) with h | h
      · exact self h
      · exact ⟨0 + 1, Nat.le_refl _, .inr h⟩
    | succ k =>
      rw [pos_back he] at hc
      exact ⟨k, by omega, .inl (mem_alF.2 ⟨by show k < _; omega, hc⟩)⟩
/-- Cells of a segment that are joined stand beside one another in it. -/
def Beside (jn : Nat → List Nat) (l : List Nat) : Prop := ∀ t c, t < l.length → c ∈ l → c ∈ jn (l.getD t 0) → c = l.getD ((t + 1) % l.length) 0 ∨ c = l.getD ((t + (l.length - 1)) % l.length) 0
theorem ins_step {jn : Nat → List Nat} (hB : Beside jn l) {y c : Nat} (ha : a ∈ l) (hc : c ∈ l) (hj : c ∈ jn y) (hE : E y c = true) (h0 : 0 ≤ insF E l a (y : Int)) : 0 ≤ insF E l a (c : Int) ∧ insF E l a (c : Int) ≤ insF E l a (y : Int) + 1 := by
  have hl : 0 < l.length := List.length_pos_of_mem ha
  rcases ins_ex (E := E) (l := l) (a := a) (b := (y : Int)) with h | ⟨⟨k, y'⟩, hx, hy, hv⟩
  · omega
  · obtain rfl : y' = y := by have h' : ((y' : Nat) : Int) = (y : Int) := hy; omega
    rw [hv]
    rcases hx with hx | hx
    · obtain ⟨h1, h2⟩ := mem_alF.1 hx
      have hb := hB _ c (pos_lt hl) hc (by rw [← h2]; exact hj)
      obtain ⟨j, hj2, hm⟩ := al_step (e := 1) (e' := l.length - 1) (by omega) ha h1 hb (by rw [← h2]; exact hE)
      have := ins_le hm (b := (c : Int)) rfl
      simp only at this ⊢
      omega
    · obtain ⟨h1, h2⟩ := mem_alF.1 hx
      have hb := hB _ c (pos_lt hl) hc (by rw [← h2]; exact hj)
      obtain ⟨j, hj2, hm⟩ := al_step (e := l.length - 1) (e' := 1) (by omega) ha h1 hb.symm (by rw [← h2]; exact hE)
      have := ins_le hm.symm (b := (c : Int)) rfl
      simp only at this ⊢
      omega
/-- Whatever grows by 1 at most along an edge is no greater than how far a cell is. -/
theorem ins_far {g : Nat → Int} (ha : a ∈ l) (h0 : g a ≤ 0) (hg : ∀ x y, x ∈ l → E x y = true → g y ≤ g x + 1) {b : Nat} (hb : 0 ≤ insF E l a (b : Int)) : g b ≤ insF E l a (b : Int) ∧ insF E l a (b : Int) < (l.length : Int) := by
  have hl : 0 < l.length := List.length_pos_of_mem ha
  obtain ⟨i1, i2⟩ := idx_at ha
  have run : ∀ e k, k < alM E l e (l.idxOf a) (l.length - 1) 1 → g (l.getD (posI l.length e (l.idxOf a) k) 0) ≤ (k : Int) := by
    intro e k
    have hA := al_all E e (l.idxOf a) hl
    induction k with
    | zero => intro _; rw [pos_zero i1, i2]; exact h0
    | succ k ih =>
      intro hk
      have a1 := ih (by omega)
      have hp := pos_lt (n := l.length) (e := e) (i := l.idxOf a) (k := k) hl
      have a2 := hg _ _ (by rw [show l.getD (posI l.length e (l.idxOf a) k) 0 = l[posI l.length e (l.idxOf a) k] by simp [List.getD, hp]]; exact List.getElem_mem hp) (hA.go k hk)
      push_cast
      omega
  rcases ins_ex (E := E) (l := l) (a := a) (b := (b : Int)) with h | ⟨⟨k, y'⟩, hx, hy, hv⟩
  · omega
  · obtain rfl : y' = b := by have h' : ((y' : Nat) : Int) = (b : Int) := hy; omega
    rw [hv]
    rcases hx with hx | hx
    · obtain ⟨h1, h2⟩ := mem_alF.1 hx
      have := (al_all E 1 (l.idxOf a) hl).le
      refine ⟨?_, ?_⟩
      · show g y' ≤ (k : Int); rw [show y' = _ from h2]; exact run _ _ h1
      · simp only at h1 ⊢; omega
    · obtain ⟨h1, h2⟩ := mem_alF.1 hx
      have := (al_all E (l.length - 1) (l.idxOf a) hl).le
      refine ⟨?_, ?_⟩
      · show g y' ≤ (k : Int); rw [show y' = _ from h2]; exact run _ _ h1
      · simp only at h1 ⊢; omega
end
section
variable {N : Nat} {jn : Nat → List Nat}
theorem ord_beside (hJ : Jn N jn) {a : Nat} (ha : a < N) : Beside jn (ordF N jn a).1 := by
  by_cases h2 : (jn a).length = 2
  · rcases ord_two hJ ha h2 with ⟨q, n, e, hq, _⟩ | ⟨q, n, e, hq, _⟩
    · rw [e]
      intro t c ht hc hj
      rw [List.length_map, List.length_range] at ht ⊢
      rw [map_at q ht] at hj
      rcases hq.nb t c ht hj with ⟨k1, k2⟩ | ⟨k1, k2⟩ | k
      · right
        rw [show t + (n - 1) = t - 1 + n by omega, Nat.add_mod_right, Nat.mod_eq_of_lt (by omega), map_at q (by omega)]
        exact k2
      · left
        rw [Nat.mod_eq_of_lt k1, map_at q k1]
        exact k2
      · exfalso
        obtain ⟨i, hi, rfl⟩ := mem_map_range.1 hc
        exact k (hq.two i hi)
    · rw [e]
      intro t c ht hc hj
      rw [List.length_map, List.length_range] at ht ⊢
      rw [map_at q ht] at hj
      rcases hq.nb t c ht hj with ⟨k1, k2⟩ | ⟨k1, k2⟩ | ⟨k1, k2⟩ | ⟨k1, k2⟩
      · right
        rw [show t + (n - 1) = t - 1 + n by omega, Nat.add_mod_right, Nat.mod_eq_of_lt (by omega), map_at q (by omega)]
        exact k2
      · left
        rw [Nat.mod_eq_of_lt k1, map_at q k1]
        exact k2
      · right
        rw [k1, Nat.zero_add, Nat.mod_eq_of_lt (by omega), map_at q (by omega)]
        exact k2
      · left
        rw [k1, Nat.mod_self, map_at q (by omega)]
        exact k2
  · rw [ord_one h2]
    intro t c ht hc hj
    obtain rfl : c = a := by simpa using hc
    obtain rfl : t = 0 := by simpa using ht
    exact (hJ.irr hj).elim
end
end Sg
end Go.Proofs.YtekhlaodlagbdaaGreatDoor
