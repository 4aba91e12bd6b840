/-
  Plain facts on a warehouse map's text: a list of bytes read row by row. No program stands here.
-/
namespace Go.Proofs.YtlkojoinbogkmaaDoor
namespace Pure

/-- Is a byte a cell's? -/
def okc (c : UInt8) : Bool := c == 35 || c == 46 || c == 60 || c == 62 || c == 94 || c == 118

/-- How many cells the rows have. -/
def wid (L : List (List UInt8)) : Nat := (L.headD []).length

/-- How many cells a row may have at most. -/
def most (L : List (List UInt8)) : Nat := if L = [] then 32 else wid L

/-- May a byte stand behind the rows L and the cells r? -/
def fits (L : List (List UInt8)) (r : List UInt8) (c : UInt8) : Bool :=
  decide (L.length < 32) && (if c = 10 then decide (0 < r.length) && decide (L = [] ∨ r.length = wid L) else okc c && decide (r.length < most L))

def parse : List UInt8 → List (List UInt8) → List UInt8 → Bool × List (List UInt8) × List UInt8
  | [], L, r => (true, L, r)
  | c :: s, L, r => if fits L r c = true then (if c = 10 then parse s (L ++ [r]) [] else parse s L (r ++ [c])) else (false, L, r)

/-- What a text comes to: an error's line and column, or rows. -/
inductive Res
  | bad (l c : Nat)
  | good (L : List (List UInt8))

def wall (L : List (List UInt8)) : Bool := L.flatten.all (· == 35)

def fin : Bool × List (List UInt8) × List UInt8 → Res
  | (false, L, r) => .bad (L.length + 1) (r.length + 1)
  | (true, L, r) => if L = [] ∨ r ≠ [] then .bad (L.length + 1) (r.length + 1) else if wall L = true then .bad 0 0 else .good L

def verdict (s : List UInt8) : Res := fin (parse s [] [])

/-- What holds of the rows so far, and of the cells behind them. -/
structure Inv (L : List (List UInt8)) (r : List UInt8) : Prop where
  len : L.length ≤ 32
  last : L.length = 32 → r = []
  row : ∀ x ∈ L, x.length = wid L
  pos : L ≠ [] → 1 ≤ wid L ∧ wid L ≤ 32
  cur : r.length ≤ most L
  ok : ∀ x ∈ L, ∀ c ∈ x, okc c = true
  okr : ∀ c ∈ r, okc c = true

theorem inv_nil : Inv [] [] := ⟨by simp, by simp, by simp, by simp, by simp, by simp, by simp⟩

theorem most_le {L : List (List UInt8)} {r : List UInt8} (h : Inv L r) : most L ≤ 32 := by
  unfold most; split
  · omega
  · rename_i hn; exact (h.pos hn).2

theorem wid_snoc (L : List (List UInt8)) (r : List UInt8) (h : L ≠ []) : wid (L ++ [r]) = wid L := by
  cases L with
  | nil => exact absurd rfl h
  | cons a l => rfl
theorem wid_one (r : List UInt8) : wid [r] = r.length := rfl

theorem okc_ten : okc 10 = false := by decide
theorem okc_zero : okc 0 = false := by decide

theorem fits_ten {L : List (List UInt8)} {r : List UInt8} (h : fits L r 10 = true) : L.length < 32 ∧ 0 < r.length ∧ (L = [] ∨ r.length = wid L) := by
  simpa [fits, Bool.and_eq_true] using h

theorem fits_cell {L : List (List UInt8)} {r : List UInt8} {c : UInt8} (hc : c ≠ 10) (h : fits L r c = true) : L.length < 32 ∧ okc c = true ∧ r.length < most L := by
  simpa [fits, Bool.and_eq_true, hc] using h

theorem inv_row {L : List (List UInt8)} {r : List UInt8} (h : Inv L r) (hf : fits L r 10 = true) : Inv (L ++ [r]) [] := by
  obtain ⟨h1, h2, h3⟩ := fits_ten hf
  by_cases hL : L = []
  · subst hL
    have hm := h.cur
    simp [most] at hm
    refine ⟨by simp, by simp, by simp [wid], ?_, by simp, ?_, by simp⟩
    · intro _; simp only [List.nil_append, wid_one]; omega
    · intro x hx; simp at hx; subst hx; exact h.okr
  · have hw := wid_snoc L r hL
    have h3' : r.length = wid L := by simpa [hL] using h3
    refine ⟨by simp; omega, by simp, ?_, ?_, by simp, ?_, by simp⟩
    · intro x hx
      rw [hw]
      rcases List.mem_append.1 hx with hx | hx
      · exact h.row x hx
      · simp at hx; subst hx; exact h3'
    · intro _; rw [hw]; exact h.pos hL
    · intro x hx
      rcases List.mem_append.1 hx with hx | hx
      · exact h.ok x hx
      · simp at hx; subst hx; exact h.okr

theorem inv_cell {L : List (List UInt8)} {r : List UInt8} {c : UInt8} (h : Inv L r) (hc : c ≠ 10) (hf : fits L r c = true) : Inv L (r ++ [c]) := by
  obtain ⟨h1, h2, h3⟩ := fits_cell hc hf
  refine ⟨h.len, by omega, h.row, h.pos, by simp; omega, h.ok, ?_⟩
  intro x hx
  rcases List.mem_append.1 hx with hx | hx
  · exact h.okr x hx
  · simp at hx; subst hx; exact h2

/-- A map's text. -/
def text (L : List (List UInt8)) : List UInt8 := L.flatMap (· ++ [10])

theorem text_snoc (L : List (List UInt8)) (r : List UInt8) : text (L ++ [r]) = text L ++ r ++ [10] := by simp [text]

/-- What is read is what stands there, and keeps what holds of rows. -/
theorem parse_inv (s : List UInt8) : ∀ L r, Inv L r → Inv (parse s L r).2.1 (parse s L r).2.2 := by
  induction s with
  | nil => intro L r h; exact h
  | cons c s ih =>
    intro L r h
    unfold parse
    split
    · rename_i hf
      split
      · rename_i hc; subst hc; exact ih _ _ (inv_row h hf)
      · rename_i hc; exact ih _ _ (inv_cell h hc hf)
    · exact h

theorem parse_text (s : List UInt8) : ∀ L r, (parse s L r).1 = true → text (parse s L r).2.1 ++ (parse s L r).2.2 = text L ++ r ++ s := by
  induction s with
  | nil => intro L r _; simp [parse]
  | cons c s ih =>
    intro L r
    unfold parse
    split
    · split
      · rename_i hc; subst hc
        intro h; rw [ih _ _ h, text_snoc]; simp
      · intro h; rw [ih _ _ h]; simp
    · intro h; cases h

/-- A map: at least one row, no cell behind, each row as long. -/
structure Good (L : List (List UInt8)) : Prop where
  ne : L ≠ []
  len : L.length ≤ 32
  row : ∀ x ∈ L, x.length = wid L
  lo : 1 ≤ wid L
  hi : wid L ≤ 32
  ok : ∀ x ∈ L, ∀ c ∈ x, okc c = true
  free : wall L = false

theorem good_of {s : List UInt8} {L : List (List UInt8)} (h : verdict s = .good L) : Good L ∧ text L = s := by
  have hi := parse_inv s [] [] inv_nil
  have ht := parse_text s [] []
  unfold verdict at h
  generalize parse s [] [] = q at h hi ht
  obtain ⟨b, L', r'⟩ := q
  cases b with
  | false => simp [fin] at h
  | true =>
    simp only [fin] at h
    split at h
    · cases h
    · rename_i h1
      split at h
      · cases h
      · rename_i h2
        have hn : L' ≠ [] := fun e => h1 (Or.inl e)
        have hr : r' = [] := Decidable.of_not_not (fun e => h1 (Or.inr e))
        cases h
        subst hr
        refine ⟨⟨hn, hi.len, hi.row, (hi.pos hn).1, (hi.pos hn).2, hi.ok, by simpa using h2⟩, ?_⟩
        simpa [text] using ht rfl

theorem flat_len {n : Nat} : ∀ (L : List (List UInt8)), (∀ x ∈ L, x.length = n) → L.flatten.length = L.length * n := by
  intro L
  induction L with
  | nil => intro _; simp
  | cons a L ih =>
    intro h
    have h1 := h a (by simp)
    have h2 := ih (fun x hx => h x (by simp [hx]))
    simp only [List.flatten_cons, List.length_append, List.length_cons, h1, h2, Nat.add_mul]; omega

theorem Good.size {L : List (List UInt8)} (h : Good L) : L.flatten.length = L.length * wid L := flat_len L h.row

theorem Good.small {L : List (List UInt8)} (h : Good L) : L.flatten.length ≤ 1024 := by
  rw [h.size]; exact Nat.le_trans (Nat.mul_le_mul h.len h.hi) (by decide)

/-- Cell n of the rows. -/
theorem flat_at {n : Nat} (hn : 0 < n) : ∀ (L : List (List UInt8)), (∀ x ∈ L, x.length = n) → ∀ k, L.flatten[k]? = (L[k / n]?).bind (fun r => r[k % n]?) := by
  intro L
  induction L with
  | nil => intro _ k; simp
  | cons a L ih =>
    intro h k
    have h1 := h a (by simp)
    have h2 := ih (fun x hx => h x (by simp [hx]))
    rw [List.flatten_cons]
    by_cases hk : k < n
    · rw [List.getElem?_append_left (by omega), Nat.div_eq_of_lt hk, Nat.mod_eq_of_lt hk]; simp
    · rw [List.getElem?_append_right (by omega), h1, h2]
      have e1 : k / n = (k - n) / n + 1 := by
        rw [show k = (k - n) + n by omega, Nat.add_div_right _ hn]; congr 1
        simp
      have e2 : k % n = (k - n) % n := by
        conv => lhs; rw [show k = (k - n) + n by omega]
        exact Nat.add_mod_right _ _
      rw [e1, e2]; simp

theorem parse_take {s : List UInt8} {L : List (List UInt8)} {r : List UInt8} {c : UInt8} (h : fits L r c = true) (hc : c ≠ 10) : parse (c :: s) L r = parse s L (r ++ [c]) := by
  rw [parse, if_pos h, if_neg hc]
theorem parse_line {s : List UInt8} {L : List (List UInt8)} {r : List UInt8} (h : fits L r 10 = true) : parse (10 :: s) L r = parse s (L ++ [r]) [] := by
  rw [parse, if_pos h, if_pos rfl]
theorem parse_stop {s : List UInt8} {L : List (List UInt8)} {r : List UInt8} {c : UInt8} (h : fits L r c = false) : parse (c :: s) L r = (false, L, r) := by
  rw [parse, if_neg (by simp [h])]

/-- How many cells there are so far. -/
theorem inv_size {L : List (List UInt8)} {r : List UInt8} (h : Inv L r) : L.flatten.length + r.length ≤ 1056 := by
  have h1 := flat_len L h.row
  have h2 := most_le h
  have h3 := h.cur
  have h4 : L.length * wid L ≤ 32 * 32 := by
    by_cases hL : L = []
    · subst hL; simp
    · exact Nat.mul_le_mul h.len (h.pos hL).2
  omega

theorem wid_row {L : List (List UInt8)} {r : List UInt8} (hf : fits L r 10 = true) : wid (L ++ [r]) = r.length := by
  obtain ⟨_, _, h3⟩ := fits_ten hf
  by_cases hL : L = []
  · subst hL; rfl
  · rw [wid_snoc L r hL]
    rcases h3 with h3 | h3
    · exact absurd h3 hL
    · exact h3.symm
end Pure
end Go.Proofs.YtlkojoinbogkmaaDoor
