/-
  Graphs as plain lists: rows of nodes, rising.
-/
import Derived.Test.YtmfbokaaoffdnaaDoorRows
namespace Gq

abbrev Gr := List (List Nat)
def row (R : Gr) (i : Nat) : List Nat := R.getD i []
theorem row_get {R : Gr} {i : Nat} (h : i < R.length) : row R i = R[i] := by simp [row, List.getD, h]
theorem row_out {R : Gr} {i : Nat} (h : R.length ≤ i) : row R i = [] := by simp [row, List.getD, h]
theorem row_set {R : Gr} {i j : Nat} {x : List Nat} (h : i < R.length) : row (R.set i x) j = if j = i then x else row R j := by
  unfold row
  simp only [List.getD_eq_getElem?_getD, List.getElem?_set]
  by_cases e : i = j
  · subst e; simp [h]
  · rw [if_neg e, if_neg (fun h => e h.symm)]
theorem row_lt {R : Gr} {i j : Nat} (h : j ∈ row R i) : i < R.length := by
  rcases Nat.lt_or_ge i R.length with h1 | h1
  · exact h1
  · rw [row_out h1] at h; simp at h

/-- b put where it belongs. -/
def insN (b : Nat) : List Nat → List Nat
  | [] => [b]
  | y :: r => if b < y then b :: y :: r else if b = y then y :: r else y :: insN b r

theorem mem_insN {b x : Nat} {l : List Nat} : x ∈ insN b l ↔ x = b ∨ x ∈ l := by
  induction l with
  | nil => simp [insN]
  | cons y r ih =>
    unfold insN
    split
    · simp
    · split
      · rename_i h; subst h; simp
      · simp [ih]
        constructor
        · rintro (h | h | h)
          · exact .inr (.inl h)
          · exact .inl h
          · exact .inr (.inr h)
        · rintro (h | h | h)
          · exact .inr (.inl h)
          · exact .inl h
          · exact .inr (.inr h)
theorem insN_rise {b : Nat} {l : List Nat} (h : l.Pairwise (· < ·)) : (insN b l).Pairwise (· < ·) := by
  induction l with
  | nil => simp [insN]
  | cons y r ih =>
    obtain ⟨h1, h2⟩ := List.pairwise_cons.1 h
    unfold insN
    split
    · rename_i hb
      refine List.pairwise_cons.2 ⟨fun z hz => ?_, h⟩
      rcases List.mem_cons.1 hz with rfl | hz
      · exact hb
      · exact Nat.lt_trans hb (h1 z hz)
    · split
      · exact h
      · refine List.pairwise_cons.2 ⟨fun z hz => ?_, ih h2⟩
        rcases mem_insN.1 hz with rfl | hz
        · omega
        · exact h1 z hz
theorem insN_same {b : Nat} {l : List Nat} (h : l.Pairwise (· < ·)) (hb : b ∈ l) : insN b l = l := by
  induction l with
  | nil => simp at hb
  | cons y r ih =>
    obtain ⟨h1, h2⟩ := List.pairwise_cons.1 h
    unfold insN
    rcases List.mem_cons.1 hb with rfl | hb
    · simp
    · have := h1 b hb
      rw [if_neg (by omega), if_neg (by omega), ih h2 hb]
theorem insN_new {b : Nat} {l : List Nat} (h : l.Pairwise (· < ·)) (hb : b ∉ l) : insN b l = l.take (l.countP (· < b)) ++ b :: l.drop (l.countP (· < b)) := by
  induction l with
  | nil => simp [insN]
  | cons y r ih =>
    obtain ⟨h1, h2⟩ := List.pairwise_cons.1 h
    have hby : b ≠ y := fun e => hb (by simp [e])
    unfold insN
    by_cases hlt : b < y
    · rw [if_pos hlt]
      have : (y :: r).countP (· < b) = 0 := by
        rw [List.countP_eq_zero]
        intro z hz
        rcases List.mem_cons.1 hz with rfl | hz
        · simp; omega
        · have := h1 z hz; simp; omega
      rw [this]; simp
    · rw [if_neg hlt, if_neg hby, ih h2 (fun h => hb (List.mem_cons_of_mem _ h))]
      have : (y :: r).countP (· < b) = r.countP (· < b) + 1 := by rw [List.countP_cons_of_pos (by simp; omega)]
      rw [this]; simp
theorem insN_length {b : Nat} {l : List Nat} : (insN b l).length ≤ l.length + 1 := by
  induction l with
  | nil => simp [insN]
  | cons y r ih =>
    unfold insN
    split
    · simp
    · split
      · simp
      · simpa using ih
theorem rise_length {l : List Nat} {n : Nat} (h : l.Pairwise (· < ·)) (hl : ∀ x ∈ l, x < n) : l.length ≤ n := by
  have hn : l.Nodup := h.imp (fun h => Nat.ne_of_lt h)
  have h1 : l ⊆ List.range n := fun x hx => List.mem_range.2 (hl x hx)
  have h2 := hn.length_le_of_subset h1
  simpa using h2

/-- Rows are rising, among the nodes, and none has its own node. -/
structure Ok (R : Gr) : Prop where
  size : R.length ≤ 1024
  rise : ∀ i, (row R i).Pairwise (· < ·)
  node : ∀ i, ∀ j ∈ row R i, j < R.length
  self : ∀ i, i ∉ row R i
theorem Ok.len {R : Gr} (h : Ok R) (i : Nat) : (row R i).length ≤ R.length := rise_length (h.rise i) (h.node i)

def addE (R : Gr) (a b : Nat) : Gr := R.set a (insN b (row R a))
theorem addE_length (R : Gr) (a b : Nat) : (addE R a b).length = R.length := by simp [addE]
theorem row_addE {R : Gr} {a b i : Nat} (ha : a < R.length) : row (addE R a b) i = if i = a then insN b (row R a) else row R i := row_set ha
theorem addE_ok {R : Gr} (h : Ok R) {a b : Nat} (ha : a < R.length) (hb : b < R.length) (hab : a ≠ b) : Ok (addE R a b) := by
  refine ⟨by rw [addE_length]; exact h.size, fun i => ?_, fun i j hj => ?_, fun i hi => ?_⟩
  · rw [row_addE ha]
    split
    · exact insN_rise (h.rise a)
    · exact h.rise i
  · rw [addE_length]
    rw [row_addE ha] at hj
    split at hj
    · rcases mem_insN.1 hj with rfl | hj
      · exact hb
      · exact h.node a j hj
    · exact h.node i j hj
  · rw [row_addE ha] at hi
    split at hi
    · rename_i e
      rcases mem_insN.1 hi with h1 | h1
      · exact hab (by rw [← e, h1])
      · rw [e] at h1; exact h.self a h1
    · exact h.self i hi

def none_ (n : Nat) : Gr := List.replicate n []
theorem row_none (n i : Nat) : row (none_ n) i = [] := by
  unfold row none_
  simp only [List.getD_eq_getElem?_getD, List.getElem?_replicate]
  split <;> rfl
theorem none_ok {n : Nat} (h : n ≤ 1024) : Ok (none_ n) := ⟨by simpa [none_] using h, fun i => by rw [row_none]; simp, fun i j hj => by rw [row_none] at hj; simp at hj, fun i hi => by rw [row_none] at hi; simp at hi⟩

/-- The edges, one by one, of those that may be. -/
def addI (R : Gr) (e : Int × Int) : Gr := if 0 ≤ e.1 ∧ e.1 < R.length ∧ 0 ≤ e.2 ∧ e.2 < R.length ∧ e.1 ≠ e.2 then addE R e.1.toNat e.2.toNat else R
theorem addI_length (R : Gr) (e : Int × Int) : (addI R e).length = R.length := by
  unfold addI
  split
  · exact addE_length ..
  · rfl
theorem addI_ok {R : Gr} (h : Ok R) (e : Int × Int) : Ok (addI R e) := by
  unfold addI
  split
  · rename_i he
    exact addE_ok h (by omega) (by omega) (by omega)
  · exact h
def built (n : Nat) (l : List (Int × Int)) : Gr := l.foldl addI (none_ n)
theorem foldl_length (l : List (Int × Int)) (R : Gr) : (l.foldl addI R).length = R.length := by
  induction l generalizing R with
  | nil => rfl
  | cons e l ih => rw [List.foldl_cons, ih, addI_length]
theorem built_length (n : Nat) (l : List (Int × Int)) : (built n l).length = n := by unfold built; rw [foldl_length]; simp [none_]
theorem foldl_ok (l : List (Int × Int)) {R : Gr} (h : Ok R) : Ok (l.foldl addI R) := by
  induction l generalizing R with
  | nil => exact h
  | cons e l ih => exact ih (addI_ok h e)
theorem built_ok {n : Nat} (hn : n ≤ 1024) (l : List (Int × Int)) : Ok (built n l) := foldl_ok l (none_ok hn)
theorem built_snoc (n : Nat) (l : List (Int × Int)) (e : Int × Int) : built n (l ++ [e]) = addI (built n l) e := by simp [built, List.foldl_append]
end Gq
