/-
  Plain facts: items, their order, heaps as lists, sorted lists. No program.
-/
namespace Go.Proofs.YtkfijjjnidiejaaDoor.Pq
set_option maxRecDepth 100000

structure It where
  c : Int
  t : Int
  i : Int
deriving DecidableEq, Inhabited

def lt (a b : It) : Bool := decide (a.c < b.c ∨ a.c = b.c ∧ (a.t < b.t ∨ a.t = b.t ∧ a.i < b.i))

theorem It.eq_of {a b : It} (h1 : a.c = b.c) (h2 : a.t = b.t) (h3 : a.i = b.i) : a = b := by
  cases a; cases b; simp_all

theorem lt_irrefl (a : It) : lt a a = false := by unfold lt; simp
theorem lt_asymm {a b : It} (h : lt a b = true) : lt b a = false := by unfold lt at *; simp at *; omega
theorem lt_trans {a b c : It} (h : lt a b = true) (k : lt b c = true) : lt a c = true := by unfold lt at *; simp at *; omega
theorem eq_of_nlt {a b : It} (h : lt a b = false) (k : lt b a = false) : a = b := by
  unfold lt at *; simp at *
  apply It.eq_of <;> omega
/-- a stands nowhere behind b. -/
def le (a b : It) : Prop := lt b a = false
theorem le_refl (a : It) : le a a := lt_irrefl a
theorem le_trans {a b c : It} (h : le a b) (k : le b c) : le a c := by unfold le lt at *; simp at *; omega
theorem le_antisymm {a b : It} (h : le a b) (k : le b a) : a = b := eq_of_nlt k h
theorem le_of_lt {a b : It} (h : lt a b = true) : le a b := lt_asymm h
theorem le_total (a b : It) : le a b ∨ le b a := by unfold le lt; simp; omega
theorem le_of_nlt {a b : It} (h : lt a b = false) : le b a := h

/-- Sorted. -/
def Srt (l : List It) : Prop := l.Pairwise le

def ins (x : It) : List It → List It
  | [] => [x]
  | y :: l => if lt x y then x :: y :: l else y :: ins x l

theorem ins_perm (x : It) (l : List It) : (ins x l).Perm (x :: l) := by
  induction l with
  | nil => exact List.Perm.refl _
  | cons y l ih =>
    unfold ins
    split
    · exact List.Perm.refl _
    · exact (List.Perm.cons y ih).trans (List.Perm.swap x y l)

theorem ins_srt (x : It) {l : List It} (h : Srt l) : Srt (ins x l) := by
  unfold Srt at *
  induction l with
  | nil => simp [ins]
  | cons y l ih =>
    rw [List.pairwise_cons] at h
    unfold ins
    split
    · rename_i hxy
      rw [List.pairwise_cons]
      refine ⟨?_, List.pairwise_cons.2 h⟩
      intro z hz
      rcases List.mem_cons.1 hz with rfl | hz
      · exact le_of_lt hxy
      · exact le_trans (le_of_lt hxy) (h.1 z hz)
    · rename_i hxy
      rw [List.pairwise_cons]
      refine ⟨?_, ih h.2⟩
      intro z hz
      rcases List.mem_cons.1 ((ins_perm x l).mem_iff.1 hz) with rfl | hz
      · exact le_of_nlt (by simpa using hxy)
      · exact h.1 z hz

theorem srt_unique : ∀ {l m : List It}, Srt l → Srt m → l.Perm m → l = m
  | [], m, _, _, hp => by rw [List.nil_perm] at hp; exact hp.symm
  | a :: l, [], _, _, hp => by rw [List.perm_nil] at hp; exact hp
  | a :: l, b :: m, hl, hm, hp => by
    have hl' := List.pairwise_cons.1 hl
    have hm' := List.pairwise_cons.1 hm
    have e : a = b := by
      apply le_antisymm
      · rcases List.mem_cons.1 (hp.mem_iff.2 (List.mem_cons_self (a := b) (l := m))) with h | h
        · rw [h]; exact le_refl _
        · exact hl'.1 b h
      · rcases List.mem_cons.1 (hp.mem_iff.1 (List.mem_cons_self (a := a) (l := l))) with h | h
        · rw [h]; exact le_refl _
        · exact hm'.1 a h
    subst e
    rw [srt_unique hl'.2 hm'.2 (List.perm_cons a |>.1 hp)]

theorem ins_length (x : It) (l : List It) : (ins x l).length = l.length + 1 := (ins_perm x l).length_eq

/-- All that is pushed, in order. -/
def srt (l : List It) : List It := l.foldl (fun s x => ins x s) []
theorem foldl_ins_perm (l s : List It) : (l.foldl (fun s x => ins x s) s).Perm (l ++ s) := by
  induction l generalizing s with
  | nil => exact List.Perm.refl _
  | cons x l ih =>
    refine (ih (ins x s)).trans ?_
    refine (List.Perm.append_left l (ins_perm x s)).trans ?_
    exact List.perm_middle
theorem foldl_ins_srt (l : List It) {s : List It} (h : Srt s) : Srt (l.foldl (fun s x => ins x s) s) := by
  induction l generalizing s with
  | nil => exact h
  | cons x l ih => exact ih (ins_srt x h)
theorem srt_perm (l : List It) : (srt l).Perm l := by have := foldl_ins_perm l []; simpa [srt] using this
theorem srt_srt (l : List It) : Srt (srt l) := foldl_ins_srt l List.Pairwise.nil
theorem srt_length (l : List It) : (srt l).length = l.length := (srt_perm l).length_eq
theorem srt_congr {l m : List It} (h : l.Perm m) : srt l = srt m := srt_unique (srt_srt l) (srt_srt m) ((srt_perm l).trans (h.trans (srt_perm m).symm))
theorem srt_of_srt {l : List It} (h : Srt l) : srt l = l := srt_unique (srt_srt l) h (srt_perm l)
theorem srt_cons (x : It) (l : List It) : srt (x :: l) = ins x (srt l) :=
  srt_unique (srt_srt _) (ins_srt x (srt_srt l)) ((srt_perm _).trans (((srt_perm l).symm.cons x).trans (ins_perm x _).symm))
theorem srt_snoc (l : List It) (x : It) : srt (l ++ [x]) = ins x (srt l) := by
  rw [← srt_cons]; exact srt_congr (by simp)
theorem ins_of_le {x : It} {l : List It} (h : ∀ y ∈ l, le x y) (hl : Srt l) : ins x l = x :: l := by
  refine srt_unique (ins_srt x hl) (List.pairwise_cons.2 ⟨h, hl⟩) (ins_perm x l)

/-- The item at a place. -/
def at_ (l : List It) (k : Nat) : It := l.getD k default
theorem at_get {l : List It} {k : Nat} (h : k < l.length) : at_ l k = l[k] := by simp [at_, List.getD, h]
theorem at_some {l : List It} {k : Nat} (h : k < l.length) : l[k]? = some (at_ l k) := by rw [at_get h]; exact List.getElem?_eq_getElem h
theorem at_set {l : List It} {k j : Nat} {x : It} (hk : k < l.length) : at_ (l.set k x) j = if j = k then x else at_ l j := by
  unfold at_
  rw [List.getD_eq_getElem?_getD, List.getD_eq_getElem?_getD, List.getElem?_set]
  by_cases h : k = j
  · subst h; simp [hk]
  · have h' : ¬ j = k := fun e => h e.symm
    simp [h, h']
theorem at_mem {l : List It} {k : Nat} (h : k < l.length) : at_ l k ∈ l := by rw [at_get h]; simp
theorem at_cons_zero (x : It) (l : List It) : at_ (x :: l) 0 = x := rfl
theorem at_cons_succ (x : It) (l : List It) (k : Nat) : at_ (x :: l) (k + 1) = at_ l k := by simp [at_, List.getD]
theorem at_take {l : List It} {k n : Nat} (h : k < n) : at_ (l.take n) k = at_ l k := by
  unfold at_; rw [List.getD_eq_getElem?_getD, List.getD_eq_getElem?_getD, List.getElem?_take]; simp [h]
theorem at_append_left {l m : List It} {k : Nat} (h : k < l.length) : at_ (l ++ m) k = at_ l k := by
  unfold at_; rw [List.getD_eq_getElem?_getD, List.getD_eq_getElem?_getD, List.getElem?_append_left h]
theorem at_append_last (l : List It) (x : It) : at_ (l ++ [x]) l.length = x := by simp [at_, List.getD]

/-- Two places exchanged. -/
def swp (l : List It) (a b : Nat) : List It := (l.set a (at_ l b)).set b (at_ l a)
theorem swp_length (l : List It) (a b : Nat) : (swp l a b).length = l.length := by simp [swp]
theorem at_swp {l : List It} {a b j : Nat} (ha : a < l.length) (hb : b < l.length) : at_ (swp l a b) j = if j = b then at_ l a else if j = a then at_ l b else at_ l j := by
  unfold swp
  rw [at_set (by simpa using hb), at_set ha]
theorem set_self {l : List It} {k : Nat} (h : k < l.length) : l.set k (at_ l k) = l := by
  rw [at_get h]; exact List.set_getElem_self h
theorem perm_set {l : List It} {k : Nat} (h : k < l.length) (x : It) : (at_ l k :: l.set k x).Perm (x :: l) := by
  induction l generalizing k with
  | nil => simp at h
  | cons y l ih =>
    cases k with
    | zero => simp [at_cons_zero]; exact List.Perm.swap x y l
    | succ k =>
      rw [at_cons_succ, List.set_cons_succ]
      have := ih (k := k) (by simpa using h)
      exact (List.Perm.swap _ _ _).trans ((this.cons y).trans (List.Perm.swap _ _ _))
theorem swp_perm {l : List It} {a b : Nat} (ha : a < l.length) (hb : b < l.length) : (swp l a b).Perm l := by
  unfold swp
  have h1 := perm_set (l := l.set a (at_ l b)) (k := b) (by simpa using hb) (at_ l a)
  have h2 := perm_set ha (at_ l b)
  rw [at_set ha] at h1
  by_cases e : b = a
  · subst e
    simp only [if_true] at h1
    exact (List.perm_cons _).1 (h1.trans h2)
  · rw [if_neg e] at h1
    exact (List.perm_cons _).1 (h1.trans h2)

/-- None stands ahead of the one over it. -/
def Heap (l : List It) : Prop := ∀ k, 0 < k → k < l.length → le (at_ l ((k - 1) / 2)) (at_ l k)

theorem heap_first {l : List It} (h : Heap l) : ∀ k, k < l.length → le (at_ l 0) (at_ l k) := by
  intro k
  induction k using Nat.strongRecOn with
  | _ k ih =>
    intro hk
    by_cases h0 : k = 0
    · subst h0; exact le_refl _
    · exact le_trans (ih ((k - 1) / 2) (by omega) (by omega)) (h k (by omega) hk)

/-- Going up: all is in order but for place k and the one over it. -/
def UpInv (l : List It) (k : Nat) : Prop :=
  (∀ i, 0 < i → i < l.length → i ≠ k → le (at_ l ((i - 1) / 2)) (at_ l i)) ∧ (∀ i, 0 < i → i < l.length → (i - 1) / 2 = k → 0 < k → le (at_ l ((k - 1) / 2)) (at_ l i))

theorem up_push {l : List It} (h : Heap l) (x : It) : UpInv (l ++ [x]) l.length := by
  constructor
  · intro i h0 hi hne
    simp at hi
    rw [at_append_left (by omega), at_append_left (by omega)]
    exact h i h0 (by omega)
  · intro i h0 hi hk hpos
    simp at hi
    omega

theorem up_done {l : List It} {k : Nat} (h : UpInv l k) (hk : k = 0 ∨ lt (at_ l k) (at_ l ((k - 1) / 2)) = false) : Heap l := by
  intro i h0 hi
  by_cases e : i = k
  · subst e
    rcases hk with hk | hk
    · omega
    · exact hk
  · exact h.1 i h0 hi e

theorem up_step {l : List It} {k : Nat} (h : UpInv l k) (h0 : 0 < k) (hk : k < l.length) (hlt : lt (at_ l k) (at_ l ((k - 1) / 2)) = true) : UpInv (swp l k ((k - 1) / 2)) ((k - 1) / 2) := by
  have hp : (k - 1) / 2 < l.length := by omega
  have hpk : (k - 1) / 2 < k := by omega
  constructor
  · intro i hi0 hi hne
    rw [swp_length] at hi
    rw [at_swp hk hp, at_swp hk hp]
    by_cases e1 : i = k
    · subst e1
      rw [if_pos rfl, if_neg (by omega), if_pos rfl]
      exact le_of_lt hlt
    · rw [if_neg hne, if_neg e1]
      by_cases e2 : (i - 1) / 2 = (k - 1) / 2
      · rw [if_pos e2]
        have := h.1 i hi0 hi e1
        rw [e2] at this
        exact le_trans (le_of_lt hlt) this
      · rw [if_neg e2]
        by_cases e3 : (i - 1) / 2 = k
        · rw [if_pos e3]
          exact h.2 i hi0 hi e3 h0
        · rw [if_neg e3]
          exact h.1 i hi0 hi e1
  · intro i hi0 hi hpar hpos
    rw [swp_length] at hi
    have hpp : le (at_ l (((k - 1) / 2 - 1) / 2)) (at_ l ((k - 1) / 2)) := h.1 _ hpos hp (by omega)
    rw [at_swp hk hp, at_swp hk hp]
    rw [if_neg (show ¬ ((k - 1) / 2 - 1) / 2 = (k - 1) / 2 by omega), if_neg (show ¬ ((k - 1) / 2 - 1) / 2 = k by omega)]
    by_cases e1 : i = k
    · subst e1
      rw [if_neg (by omega), if_pos rfl]
      exact hpp
    · rw [if_neg (show ¬ i = (k - 1) / 2 by omega), if_neg e1]
      have := h.1 i hi0 hi e1
      rw [hpar] at this
      exact le_trans hpp this

/-- Going down: all is in order but for place k and the ones under it. -/
def DownInv (l : List It) (k : Nat) : Prop :=
  (∀ i, 0 < i → i < l.length → (i - 1) / 2 ≠ k → le (at_ l ((i - 1) / 2)) (at_ l i)) ∧ (∀ i, 0 < i → i < l.length → (i - 1) / 2 = k → 0 < k → le (at_ l ((k - 1) / 2)) (at_ l i))

theorem down_done {l : List It} {k : Nat} (h : DownInv l k) (hk : ∀ i, 0 < i → i < l.length → (i - 1) / 2 = k → le (at_ l k) (at_ l i)) : Heap l := by
  intro i h0 hi
  by_cases e : (i - 1) / 2 = k
  · rw [e]; exact hk i h0 hi e
  · exact h.1 i h0 hi e

theorem down_step {l : List It} {k f : Nat} (h : DownInv l k) (hk : k < l.length) (hf : f < l.length) (hp : (f - 1) / 2 = k) (hf0 : 0 < f)
    (hmin : ∀ i, 0 < i → i < l.length → (i - 1) / 2 = k → le (at_ l f) (at_ l i)) (hfk : le (at_ l f) (at_ l k)) : DownInv (swp l k f) f := by
  have hkf : k < f := by omega
  constructor
  · intro i hi0 hi hne
    rw [swp_length] at hi
    rw [at_swp hk hf, at_swp hk hf]
    rw [if_neg hne]
    by_cases e1 : (i - 1) / 2 = k
    · rw [if_pos e1]
      by_cases e2 : i = f
      · subst e2; rw [if_pos rfl]; exact hfk
      · rw [if_neg e2, if_neg (by omega)]
        exact hmin i hi0 hi e1
    · rw [if_neg e1]
      by_cases e2 : i = f
      · subst e2; exact absurd hp e1
      · rw [if_neg e2]
        by_cases e3 : i = k
        · subst e3
          rw [if_pos rfl]
          exact h.2 f hf0 hf hp hi0
        · rw [if_neg e3]
          exact h.1 i hi0 hi e1
  · intro i hi0 hi hpar _
    rw [swp_length] at hi
    rw [at_swp hk hf, at_swp hk hf]
    rw [hp, if_neg (show ¬ k = f by omega), if_pos rfl, if_neg (show ¬ i = f by omega), if_neg (show ¬ i = k by omega)]
    have := h.1 i hi0 hi (by omega)
    rw [hpar] at this
    exact this

/-- The first one taken out: the last one in its place. -/
def cutl (l : List It) : List It := (l.set 0 (at_ l (l.length - 1))).take (l.length - 1)
theorem cutl_length (l : List It) : (cutl l).length = l.length - 1 := by simp [cutl]
theorem cutl_down {l : List It} (h : Heap l) (h0 : 0 < l.length) : DownInv (cutl l) 0 := by
  constructor
  · intro i hi0 hi hne
    rw [cutl_length] at hi
    unfold cutl
    rw [at_take (by omega), at_take (by omega), at_set h0, at_set h0, if_neg hne, if_neg (by omega)]
    exact h i hi0 (by omega)
  · intro i _ _ _ hpos
    omega
theorem perm_last {l : List It} (h0 : 0 < l.length) : l.Perm (at_ l (l.length - 1) :: l.take (l.length - 1)) := by
  have : l = l.take (l.length - 1) ++ [at_ l (l.length - 1)] := by
    rw [at_get (by omega)]
    conv => lhs; rw [← List.take_length (l := l)]
    have e : l.length = (l.length - 1) + 1 := by omega
    conv => lhs; rw [e]
    rw [List.take_succ_eq_append_getElem (by omega)]
  conv => lhs; rw [this]
  exact List.perm_append_comm
theorem cutl_perm {l : List It} (h0 : 0 < l.length) : (at_ l 0 :: cutl l).Perm l := by
  have h1 := perm_set h0 (at_ l (l.length - 1))
  have h2 := perm_last (l := l.set 0 (at_ l (l.length - 1))) (by simpa using h0)
  simp only [List.length_set] at h2
  rw [at_set h0] at h2
  have h3 : (if l.length - 1 = 0 then at_ l (l.length - 1) else at_ l (l.length - 1)) = at_ l (l.length - 1) := by split <;> rfl
  rw [h3] at h2
  have h4 : (at_ l (l.length - 1) :: (at_ l 0 :: cutl l)).Perm (at_ l (l.length - 1) :: l) :=
    (List.Perm.swap _ _ _).trans (((h2.symm.cons (at_ l 0))).trans h1)
  exact (List.perm_cons _).1 h4

/-- What a heap has at its head is the first of its items. -/
theorem heap_head {l s : List It} (h : Heap l) (hs : Srt s) (hp : l.Perm s) (h0 : 0 < l.length) : ∃ s', s = at_ l 0 :: s' ∧ (cutl l).Perm s' ∧ Srt s' := by
  cases s with
  | nil => rw [hp.length_eq] at h0; simp at h0
  | cons x s' =>
    have hs' := List.pairwise_cons.1 hs
    have e : at_ l 0 = x := by
      apply le_antisymm
      · obtain ⟨j, hj, hx⟩ := List.getElem_of_mem (hp.mem_iff.2 (List.mem_cons_self (a := x) (l := s')))
        rw [← hx, ← at_get hj]
        exact heap_first h j hj
      · rcases List.mem_cons.1 (hp.mem_iff.1 (at_mem h0)) with e | e
        · rw [e]; exact le_refl _
        · exact hs'.1 _ e
    subst e
    exact ⟨s', rfl, (List.perm_cons _).1 ((cutl_perm h0).trans hp), hs'.2⟩
end Go.Proofs.YtkfijjjnidiejaaDoor.Pq
