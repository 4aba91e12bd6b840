/-
  Windows as numbers: the last in order, and a bit each for those ahead.
-/
import Derived.Lib.TrailingZeros
import Derived.Lib.Hide
namespace Go.Proofs.YtfgajjfcjlejmaaDoor
set_option maxRecDepth 100000
set_option linter.unusedSimpArgs false
namespace Wd

def two64 : Nat := 18446744073709551616
/-- Whether a number was met. -/
def has (l e n : Nat) : Bool := decide (n ≠ 0) && (decide (n ≤ l) || e.testBit (n - l - 1))
structure Ok (l e : Nat) : Prop where
  hl : l ≤ 4294967295
  he : e < 18446744073709551616
  h0 : e.testBit 0 = false
  hb : ∀ i, e.testBit i = true → l + 1 + i ≤ 4294967295
/-- How many low bits are set. -/
def run1 (e : Nat) : Nat := Go.Lib.ctz 64 (18446744073709551615 - e)
def code (l e n : Nat) : Nat := if n = 0 then 0 else if has l e n then 2 else if l + 64 < n then 3 else 1
def put (l e n : Nat) : Nat := e ||| 2 ^ (n - l - 1)
def nl (l e n : Nat) : Nat := if code l e n = 1 then l + run1 (put l e n) else l
def ne (l e n : Nat) : Nat := if code l e n = 1 then put l e n >>> run1 (put l e n) else e

theorem compl_bit {e : Nat} (h : e < 18446744073709551616) (i : Nat) : (18446744073709551615 - e).testBit i = (decide (i < 64) && !e.testBit i) := by
  have := @Nat.testBit_two_pow_sub_succ e 64 (by simpa using h) i
  have e2 : 2 ^ 64 - (e + 1) = 18446744073709551615 - e := by omega
  rw [e2] at this
  exact this
theorem bit_hi {e : Nat} (h : e < 18446744073709551616) {i : Nat} (hi : 64 ≤ i) : e.testBit i = false := by
  refine Nat.testBit_lt_two_pow (Nat.lt_of_lt_of_le h ?_)
  exact Nat.pow_le_pow_right (by omega : 2 > 0) hi
theorem run1_spec {e : Nat} (h : e < 18446744073709551616) : run1 e ≤ 64 ∧ (∀ i, i < run1 e → e.testBit i = true) ∧ e.testBit (run1 e) = false := by
  unfold run1
  by_cases h0 : 18446744073709551615 - e = 0
  · have he : e = 18446744073709551615 := by omega
    have hr : Go.Lib.ctz 64 (18446744073709551615 - e) = 64 := by rw [h0]; rfl
    rw [hr]
    refine ⟨Nat.le_refl _, fun i hi => ?_, bit_hi h (Nat.le_refl _)⟩
    have := compl_bit h i
    rw [h0] at this
    simp [hi] at this
    exact this
  · obtain ⟨m, hm, hk⟩ := Go.Lib.ctzFrom_spec 64 (18446744073709551615 - e) (by omega) (by omega)
    have hr : Go.Lib.ctz 64 (18446744073709551615 - e) = Go.Lib.ctzFrom 64 (18446744073709551615 - e) := by simp [Go.Lib.ctz, h0]
    rw [hr]
    generalize Go.Lib.ctzFrom 64 (18446744073709551615 - e) = k at *
    have hbit : ∀ i, (18446744073709551615 - e).testBit i = (decide (k ≤ i) && (2 * m + 1).testBit (i - k)) := fun i => by
      rw [hm, Nat.mul_comm, Nat.testBit_mul_two_pow]
    refine ⟨by omega, fun i hi => ?_, ?_⟩
    · have h1 := hbit i
      rw [compl_bit h] at h1
      have h2 : ¬ k ≤ i := by omega
      have h3 : i < 64 := by omega
      simp [h2, h3] at h1
      exact h1
    · have h1 := hbit k
      rw [compl_bit h] at h1
      simp [hk, Nat.testBit_zero] at h1
      exact h1
theorem put_bit (l e n i : Nat) : (put l e n).testBit i = (e.testBit i || decide (n - l - 1 = i)) := by
  unfold put
  rw [Nat.testBit_or, Nat.testBit_two_pow]
theorem put_lt {l e n : Nat} (h : e < 18446744073709551616) (h1 : n ≤ l + 64) (h2 : l < n) : put l e n < 18446744073709551616 := by
  have h3 : 2 ^ (n - l - 1) < 2 ^ 64 := Nat.pow_lt_pow_right (by omega) (by omega)
  exact Nat.or_lt_two_pow (n := 64) h h3
theorem has_zero (l e : Nat) : has l e 0 = false := rfl
theorem has_low {l e n : Nat} (h0 : n ≠ 0) (h : n ≤ l) : has l e n = true := by simp [has, h0, h]
theorem has_high {l e n : Nat} (h : l < n) : has l e n = e.testBit (n - l - 1) := by
  have h0 : n ≠ 0 := by omega
  have h1 : ¬ n ≤ l := by omega
  simp [has, h0, h1]
theorem code_one {l e n : Nat} (h : code l e n = 1) : n ≠ 0 ∧ has l e n = false ∧ l < n ∧ n ≤ l + 64 := by
  unfold code at h
  by_cases h0 : n = 0
  · simp [h0] at h
  · by_cases h1 : has l e n = true
    · simp [h0, h1] at h
    · by_cases h2 : l + 64 < n
      · simp [h0, h1, h2] at h
      · refine ⟨h0, by simpa using h1, ?_, by omega⟩
        apply Nat.lt_of_not_le
        intro h3
        exact h1 (has_low h0 h3)
theorem mid {l e1 : Nat} (he : e1 < 18446744073709551616) (hb : ∀ i, e1.testBit i = true → l + 1 + i ≤ 4294967295) (hl : l ≤ 4294967295) {j : Nat} (hj : j ≤ run1 e1) : l + j ≤ 4294967295 ∧ e1 >>> j < 18446744073709551616 := by
  have hs := run1_spec he
  refine ⟨?_, ?_⟩
  · rcases Nat.eq_zero_or_pos j with rfl | h
    · omega
    · have := hb (j - 1) (hs.2.1 (j - 1) (by omega)); omega
  · exact Nat.lt_of_le_of_lt (Nat.shiftRight_le _ _) he
theorem put_ok {l e n : Nat} (h : Ok l e) (hn : n ≤ 4294967295) (h1 : l < n) : ∀ i, (put l e n).testBit i = true → l + 1 + i ≤ 4294967295 := by
  intro i hi
  rw [put_bit] at hi
  simp only [Bool.or_eq_true, decide_eq_true_eq] at hi
  rcases hi with hi | hi
  · exact h.hb i hi
  · omega
theorem step_ok {l e n : Nat} (h : Ok l e) (hn : n ≤ 4294967295) : Ok (nl l e n) (ne l e n) := by
  unfold nl ne
  by_cases hc : code l e n = 1
  · rw [if_pos hc, if_pos hc]
    obtain ⟨h0, h1, h2, h3⟩ := code_one hc
    have hp := put_lt h.he h3 h2
    have hb := put_ok h hn h2
    have hs := run1_spec hp
    have hm := mid hp hb h.hl (Nat.le_refl _)
    refine ⟨hm.1, hm.2, ?_, fun i hi => ?_⟩
    · rw [Nat.testBit_shiftRight]; simpa using hs.2.2
    · rw [Nat.testBit_shiftRight] at hi
      have := hb _ hi
      omega
  · rw [if_neg hc, if_neg hc]; exact h
theorem step_has {l e n : Nat} (h : Ok l e) (m : Nat) : has (nl l e n) (ne l e n) m = (has l e m || (decide (code l e n = 1) && decide (m = n))) := by
  unfold nl ne
  by_cases hc : code l e n = 1
  · rw [if_pos hc, if_pos hc]
    obtain ⟨h0, h1, h2, h3⟩ := code_one hc
    have hp := put_lt h.he h3 h2
    have hs := run1_spec hp
    have hpb := put_bit l e n
    generalize run1 (put l e n) = k at *
    generalize put l e n = e1 at *
    simp only [hc, decide_true, Bool.true_and]
    by_cases hm0 : m = 0
    · subst hm0; simp [has_zero]; omega
    by_cases hm : m ≤ l
    · rw [has_low hm0 (by omega), has_low hm0 hm]; rfl
    · rw [has_high (by omega : l < m)]
      have hb := hpb (m - l - 1)
      have hd : decide (n - l - 1 = m - l - 1) = decide (m = n) := by
        by_cases hh : m = n
        · subst hh; simp
        · rw [decide_eq_false hh, decide_eq_false (by omega)]
      rw [hd] at hb
      rw [← hb]
      by_cases hk : m ≤ l + k
      · rw [has_low hm0 hk, hs.2.1 _ (by omega)]
      · rw [has_high (by omega), Nat.testBit_shiftRight]
        congr 1; omega
  · rw [if_neg hc, if_neg hc]; simp [hc]
theorem nl_ge (l e n : Nat) : l ≤ nl l e n := by unfold nl; split <;> omega
theorem nl_le {l e n : Nat} (h : Ok l e) : nl l e n ≤ l + 64 := by
  unfold nl
  split
  · rename_i hc
    obtain ⟨h0, h1, h2, h3⟩ := code_one hc
    have := (run1_spec (put_lt h.he h3 h2)).1
    omega
  · omega
theorem ok_zero : Ok 0 0 := ⟨by omega, by omega, rfl, fun i h => by simp at h⟩
/-- The number behind the last in order was not met. -/
theorem not_next {l e : Nat} (h : Ok l e) : has l e (l + 1) = false := by
  rw [has_high (by omega)]
  have : l + 1 - l - 1 = 0 := by omega
  rw [this]; exact h.h0
/-- Windows that met the same are the same. -/
theorem ext {l e l' e' : Nat} (h : Ok l e) (h' : Ok l' e') (hs : ∀ n, has l e n = has l' e' n) : l = l' ∧ e = e' := by
  have hl : l = l' := by
    rcases Nat.lt_trichotomy l l' with hlt | heq | hgt
    · have h1 := not_next h
      rw [hs, has_low (by omega) (by omega)] at h1
      cases h1
    · exact heq
    · have h1 := not_next h'
      rw [← hs, has_low (by omega) (by omega)] at h1
      cases h1
  subst hl
  refine ⟨rfl, Nat.eq_of_testBit_eq fun i => ?_⟩
  have := hs (l + 1 + i)
  rw [has_high (by omega), has_high (by omega)] at this
  have e3 : l + 1 + i - l - 1 = i := by omega
  rwa [e3] at this

/-- Behind the last position that is set. -/
def topp (f : Nat → Bool) : Nat → Nat
  | 0 => 0
  | m + 1 => if f m then m + 1 else topp f m
/-- What lies between the told ones. -/
def gp : Nat → List Nat → List Nat
  | _, [] => []
  | s, p :: r => List.range' s (p - s) ++ gp (p + 1) r
def endP : Nat → List Nat → Nat
  | s, [] => s
  | _, p :: r => endP (p + 1) r
theorem gp_append : ∀ (s : Nat) (L : List Nat) (p : Nat), gp s (L ++ [p]) = gp s L ++ List.range' (endP s L) (p - endP s L)
  | s, [], p => by simp [gp, endP]
  | s, q :: r, p => by
    simp only [List.cons_append, gp, endP, List.append_assoc]
    rw [gp_append]
theorem endP_append : ∀ (s : Nat) (L : List Nat) (p : Nat), endP s (L ++ [p]) = p + 1
  | s, [], p => rfl
  | s, q :: r, p => by simp only [List.cons_append, endP]; exact endP_append _ r p
theorem topp_le (f : Nat → Bool) : ∀ m, topp f m ≤ m
  | 0 => Nat.le_refl _
  | m + 1 => by
    unfold topp; split
    · omega
    · have := topp_le f m; omega
theorem topp_none (f : Nat → Bool) : ∀ m i, topp f m ≤ i → i < m → f i = false
  | 0, i, _, h => by omega
  | m + 1, i, h1, h2 => by
    unfold topp at h1
    split at h1
    · omega
    · rename_i hf
      by_cases hi : i = m
      · subst hi; simpa using hf
      · exact topp_none f m i h1 (by omega)
theorem range_split {a b : Nat} (h : a ≤ b) : List.range b = List.range a ++ List.range' a (b - a) := by
  rw [List.range_eq_range', List.range_eq_range']
  have := List.range'_append_1 (s := 0) (m := a) (n := b - a)
  rw [Nat.zero_add] at this
  rw [this]
  congr 1; omega
theorem early_top (f : Nat → Bool) (m : Nat) : (List.range m).filter f = (List.range (topp f m)).filter f := by
  rw [range_split (topp_le f m), List.filter_append]
  have : (List.range' (topp f m) (m - topp f m)).filter f = [] := by
    rw [List.filter_eq_nil_iff]
    intro i hi
    rw [List.mem_range'_1] at hi
    rw [topp_none f m i hi.1 (by omega)]; simp
  rw [this, List.append_nil]
theorem endP_filter (f : Nat → Bool) : ∀ m, endP 0 ((List.range m).filter f) = topp f m
  | 0 => rfl
  | m + 1 => by
    rw [List.range_succ, List.filter_append]
    unfold topp
    by_cases h : f m = true
    · simp [h, endP_append]
    · simp [h]; exact endP_filter f m
theorem gp_filter (f : Nat → Bool) : ∀ m, gp 0 ((List.range m).filter f) = (List.range (topp f m)).filter (fun i => !f i)
  | 0 => rfl
  | m + 1 => by
    rw [List.range_succ, List.filter_append]
    by_cases h : f m = true
    · have ht : topp f (m + 1) = m + 1 := by unfold topp; rw [if_pos h]
      have e1 : List.filter f [m] = [m] := by simp [h]
      rw [e1, gp_append, gp_filter f m, endP_filter, ht, List.range_succ, List.filter_append]
      have e2 : List.filter (fun i => !f i) [m] = [] := by simp [h]
      rw [e2, List.append_nil, range_split (topp_le f m), List.filter_append]
      congr 1
      symm
      rw [List.filter_eq_self]
      intro i hi
      rw [List.mem_range'_1] at hi
      simp [topp_none f m i hi.1 (by omega)]
    · have ht : topp f (m + 1) = topp f m := by
        conv => lhs; unfold topp
        rw [if_neg h]
      have e1 : List.filter f [m] = [] := by simp [h]
      rw [e1, List.append_nil, ht]; exact gp_filter f m
theorem nth_filter (f : Nat → Bool) {p T : Nat} (h : p < T) (hf : f p = true) : ((List.range T).filter f)[((List.range p).filter f).length]? = some p := by
  rw [range_split (Nat.le_of_lt h), List.filter_append, List.getElem?_append_right (Nat.le_refl _), Nat.sub_self]
  obtain ⟨d, hd⟩ : ∃ d, T - p = d + 1 := ⟨T - p - 1, by omega⟩
  rw [hd, List.range'_succ]
  simp [hf]

/-- The positions ahead that were met, and those between that were not. -/
def posE (e : Nat) : List Nat := (List.range 64).filter e.testBit
def posM (e : Nat) : List Nat := gp 0 (posE e)
def early (l e : Nat) : List Nat := (posE e).map (l + 1 + ·)
def miss (l e : Nat) : List Nat := (posM e).map (l + 1 + ·)
theorem posE_lt {e i : Nat} (h : i ∈ posE e) : i < 64 := by
  unfold posE at h
  have := List.mem_filter.1 h
  simpa using this.1
theorem posE_length (e : Nat) : (posE e).length ≤ 64 := by
  unfold posE
  refine Nat.le_trans (List.length_filter_le _ _) ?_
  simp
theorem posM_length (e : Nat) : (posM e).length ≤ 64 := by
  unfold posM posE
  rw [gp_filter]
  refine Nat.le_trans (List.length_filter_le _ _) ?_
  simp only [List.length_range]
  exact topp_le _ _
end Wd
end Go.Proofs.YtfgajjfcjlejmaaDoor
