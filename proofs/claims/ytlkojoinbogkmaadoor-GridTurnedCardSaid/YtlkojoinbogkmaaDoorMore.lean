/-
  GridWalled, GridTurned: plain facts: every map's text is read as the map; a row of walls.
-/
import Derived.Test.YtlkojoinbogkmaaDoorGBm
namespace Go.Proofs.YtlkojoinbogkmaaDoor
set_option maxRecDepth 100000
set_option linter.unusedSimpArgs false
open Go.RowKit

namespace Pure
theorem okc_ne {c : UInt8} (h : okc c = true) : c ≠ 10 := by
  intro e; subst e; rw [okc_ten] at h; cases h

theorem parse_row (M : List (List UInt8)) (s : List UInt8) (hM : M.length < 32) : ∀ (x r : List UInt8), (∀ c ∈ x, okc c = true) → (r ++ x).length ≤ most M → 0 < (r ++ x).length → (M = [] ∨ (r ++ x).length = wid M) →
    parse (x ++ 10 :: s) M r = parse s (M ++ [r ++ x]) []
  | [], r, _, _, hp, hw => by
    have hf : fits M r 10 = true := by
      simp only [List.append_nil] at hp hw
      simp only [fits, Bool.and_eq_true, decide_eq_true_eq, if_true]
      exact ⟨hM, hp, hw⟩
    rw [List.nil_append, parse, if_pos hf, if_pos rfl, List.append_nil]
  | c :: x, r, hok, hm, hp, hw => by
    have hc := hok c (by simp)
    have hc10 := okc_ne hc
    have hlt : r.length < most M := by simp at hm; omega
    have hf : fits M r c = true := by
      simp only [fits, Bool.and_eq_true, decide_eq_true_eq, if_neg hc10]
      exact ⟨hM, hc, hlt⟩
    have e : (r ++ [c]) ++ x = r ++ c :: x := by simp
    rw [List.cons_append, parse, if_pos hf, if_neg hc10, parse_row M s hM x (r ++ [c]) (fun d hd => hok d (by simp [hd])) (by rw [e]; exact hm) (by rw [e]; exact hp) (by rw [e]; exact hw), e]

theorem parse_rows {W : Nat} (h1 : 1 ≤ W) (h2 : W ≤ 32) : ∀ (K M : List (List UInt8)), M.length + K.length ≤ 32 → (∀ x ∈ K, x.length = W ∧ ∀ c ∈ x, okc c = true) → (M = [] ∨ wid M = W) →
    parse (text K) M [] = (true, M ++ K, [])
  | [], M, _, _, _ => by simp [text, parse]
  | x :: K, M, hl, hx, hM => by
    have hxx := hx x (by simp)
    have hm : W ≤ most M := by
      unfold most
      split
      · exact h2
      · rename_i hn
        rcases hM with e | e
        · exact absurd e hn
        · omega
    have ht : text (x :: K) = x ++ 10 :: text K := by simp [text]
    simp only [List.length_cons] at hl
    rw [ht, parse_row M (text K) (by omega) x [] hxx.2 (by simpa [hxx.1] using hm) (by simp [hxx.1]; omega) (by rcases hM with e | e; exact .inl e; exact .inr (by simp [hxx.1, e])), List.nil_append,
      parse_rows h1 h2 K (M ++ [x]) (by simp; omega) (fun y hy => hx y (by simp [hy])) ?_]
    · simp
    · right
      rcases hM with rfl | e
      · exact hxx.1
      · rcases Decidable.em (M = []) with rfl | hn
        · exact hxx.1
        · rw [wid_snoc M x hn, e]

theorem verdict_text {L : List (List UInt8)} (h : Good L) : verdict (text L) = .good L := by
  have hp := parse_rows h.lo h.hi L [] (by simpa using h.len) (fun x hx => ⟨h.row x hx, h.ok x hx⟩) (.inl rfl)
  rw [List.nil_append] at hp
  unfold verdict
  rw [hp]
  simp only [fin]
  rw [if_neg (by simp [h.ne]), if_neg (by simp [h.free])]

/-- A row of walls. -/
def wallRow (W : Nat) : List UInt8 := List.replicate W 35

theorem good_below {L : List (List UInt8)} (h : Good L) (hr : L.length < 32) : Good (L ++ [wallRow (wid L)]) := by
  have hw := wid_snoc L (wallRow (wid L)) h.ne
  refine ⟨by simp, by simp; omega, ?_, by rw [hw]; exact h.lo, by rw [hw]; exact h.hi, ?_, ?_⟩
  · intro x hx
    rw [hw]
    rcases List.mem_append.1 hx with hx | hx
    · exact h.row x hx
    · simp at hx; subst hx; simp [wallRow]
  · intro x hx c hc
    rcases List.mem_append.1 hx with hx | hx
    · exact h.ok x hx c hc
    · simp at hx; subst hx
      simp only [wallRow, List.mem_replicate] at hc
      rw [hc.2]; decide
  · have hf := h.free
    unfold wall at hf ⊢
    rw [List.flatten_append, List.all_append, hf, Bool.false_and]

theorem good_above {L : List (List UInt8)} (h : Good L) (hr : L.length < 32) : Good (wallRow (wid L) :: L) := by
  have hw : wid (wallRow (wid L) :: L) = wid L := by show (wallRow (wid L)).length = _; simp [wallRow]
  refine ⟨by simp, by simp; omega, ?_, by rw [hw]; exact h.lo, by rw [hw]; exact h.hi, ?_, ?_⟩
  · intro x hx
    rw [hw]
    rcases List.mem_cons.1 hx with rfl | hx
    · simp [wallRow]
    · exact h.row x hx
  · intro x hx c hc
    rcases List.mem_cons.1 hx with rfl | hx
    · simp only [wallRow, List.mem_replicate] at hc
      rw [hc.2]; decide
    · exact h.ok x hx c hc
  · have hf := h.free
    unfold wall at hf ⊢
    rw [List.flatten_cons, List.all_append, hf, Bool.and_false]
end Pure

/-- Nobody leaves a wall. -/
theorem leaves_wall (k : Nat) : leavesB k 35 = false := by
  unfold leavesB
  have := mk_ne k
  have e : (((35 : UInt8).toNat : Nat) : Int) = 35 := rfl
  rw [e, Bool.or_eq_false_iff]
  exact ⟨rfl, by rw [beq_eq_false_iff_ne]; exact fun h => this h.symm⟩
theorem enters_wall (k : Nat) : entersB k 35 = false := by
  unfold entersB
  rfl

theorem outs_wall {R C : Nat} {ms : List UInt8} {a : Nat} (h : ms.getD a 0 = 35) : outs R C ms a = [] := by
  rw [List.eq_nil_iff_forall_not_mem]
  intro b hb
  obtain ⟨k, _, _, hg⟩ := mem_outs.1 hb
  unfold goes at hg
  rw [h, leaves_wall, Bool.false_and] at hg
  cases hg

theorem getD_low {ms us : List UInt8} {a : Nat} (h : a < ms.length) : (ms ++ us).getD a 0 = ms.getD a 0 := by
  simp [List.getD, List.getElem?_append_left h]
theorem getD_high {ms us : List UInt8} (a : Nat) : (ms ++ us).getD (ms.length + a) 0 = us.getD a 0 := by
  simp [List.getD, List.getElem?_append_right]
theorem getD_wall {W a : Nat} (h : a < W) : (Pure.wallRow W).getD a 0 = 35 := by
  simp [List.getD, Pure.wallRow, List.getElem?_replicate, h]

/-- A row of walls below changes no edge. -/
theorem outs_below {R C : Nat} {ms : List UInt8} (hC : 1 ≤ C) (hN : R * C = ms.length) {a : Nat} (ha : a < ms.length) : outs (R + 1) C (ms ++ Pure.wallRow C) a = outs R C ms a := by
  refine rise_ext (outs_rise _ _ _ _ hC) (outs_rise _ _ _ _ hC) fun b => ?_
  rw [mem_outs, mem_outs, getD_low ha]
  constructor
  · rintro ⟨k, hk, hs, hg⟩
    have hb := side_bd hs
    rw [Nat.add_mul, Nat.one_mul, hN] at hb
    rcases Nat.lt_or_ge b ms.length with h | h
    · refine ⟨k, hk, (side_iff hC).2 ⟨hN ▸ h, ((side_iff hC).1 hs).2⟩, ?_⟩
      unfold goes at hg ⊢
      dsimp only at hg ⊢
      rwa [getD_low h] at hg
    · exfalso
      unfold goes at hg
      dsimp only at hg
      have e : b = ms.length + (b - ms.length) := by omega
      rw [e, getD_high, getD_wall (by omega), enters_wall, Bool.and_false] at hg
      cases hg
  · rintro ⟨k, hk, hs, hg⟩
    obtain ⟨hb, h1, h2⟩ := (side_iff hC).1 hs
    refine ⟨k, hk, (side_iff hC).2 ⟨by rw [Nat.add_mul]; omega, h1, h2⟩, ?_⟩
    unfold goes at hg ⊢
    dsimp only at hg ⊢
    rwa [getD_low (hN ▸ hb)]

theorem eds_below {R C : Nat} {ms : List UInt8} (hC : 1 ≤ C) (hN : R * C = ms.length) : ∀ n, n ≤ ms.length → eds (R + 1) C (ms ++ Pure.wallRow C) n = eds R C ms n
  | 0, _ => rfl
  | n + 1, h => by rw [eds_sum, eds_sum, eds_below hC hN n (by omega), outs_below hC hN (by omega)]
theorem eds_below_wall {R C : Nat} {ms : List UInt8} (hC : 1 ≤ C) (hN : R * C = ms.length) : ∀ n, n ≤ C → eds (R + 1) C (ms ++ Pure.wallRow C) (ms.length + n) = eds R C ms ms.length
  | 0, _ => eds_below hC hN _ (Nat.le_refl _)
  | n + 1, h => by
    rw [← Nat.add_assoc, eds_sum, eds_below_wall hC hN n (by omega), outs_wall (by rw [getD_high, getD_wall (by omega)])]
    rfl

/-- A row of walls above moves each edge by a row. -/
theorem outs_above {R C : Nat} {ms : List UInt8} (hC : 1 ≤ C) (hN : R * C = ms.length) (a : Nat) : outs (R + 1) C (Pure.wallRow C ++ ms) (C + a) = (outs R C ms a).map (C + ·) := by
  have hlen : (Pure.wallRow C).length = C := by simp [Pure.wallRow]
  have hget : ∀ x, (Pure.wallRow C ++ ms).getD (C + x) 0 = ms.getD x 0 := fun x => by
    have := getD_high (ms := Pure.wallRow C) (us := ms) x
    rwa [hlen] at this
  have hdiv : ∀ x, (C + x) / C = x / C + 1 := fun x => by rw [Nat.add_div_left x (by omega)]
  have hmod : ∀ x, (C + x) % C = x % C := fun x => Nat.add_mod_left C x
  have hr2 : ((outs R C ms a).map (C + ·)).Pairwise (· < ·) := by
    rw [List.pairwise_map]
    exact (outs_rise R C ms a hC).imp (fun h => by omega)
  refine rise_ext (outs_rise _ _ _ _ hC) hr2 fun b => ?_
  rw [mem_outs, List.mem_map, hget a]
  constructor
  · rintro ⟨k, hk, hs, hg⟩
    obtain ⟨hb, h1, h2⟩ := (side_iff hC).1 hs
    rw [hdiv a] at h1
    rw [hmod a] at h2
    rcases Nat.lt_or_ge b C with h | h
    · exfalso
      unfold goes at hg
      dsimp only at hg
      rw [getD_low (by rw [hlen]; exact h), getD_wall h, enters_wall, Bool.and_false] at hg
      cases hg
    · obtain ⟨y, rfl⟩ : ∃ y, b = C + y := ⟨b - C, by omega⟩
      rw [hdiv y] at h1
      rw [hmod y] at h2
      rw [Nat.add_mul, Nat.one_mul] at hb
      refine ⟨y, mem_outs.2 ⟨k, hk, (side_iff hC).2 ⟨by omega, by omega, h2⟩, ?_⟩, rfl⟩
      unfold goes at hg ⊢
      dsimp only at hg ⊢
      rwa [hget y] at hg
  · rintro ⟨y, hy, rfl⟩
    obtain ⟨k, hk, hs, hg⟩ := mem_outs.1 hy
    obtain ⟨hb, h1, h2⟩ := (side_iff hC).1 hs
    refine ⟨k, hk, (side_iff hC).2 ⟨by rw [Nat.add_mul, Nat.one_mul]; omega, by rw [hdiv a, hdiv y]; omega, by rw [hmod a, hmod y]; exact h2⟩, ?_⟩
    unfold goes at hg ⊢
    dsimp only at hg ⊢
    rwa [hget y]

theorem eds_above_wall {R C : Nat} {ms : List UInt8} : ∀ n, n ≤ C → eds (R + 1) C (Pure.wallRow C ++ ms) n = 0
  | 0, _ => rfl
  | n + 1, h => by
    rw [eds_sum, eds_above_wall n (by omega), outs_wall (by rw [getD_low (by simp [Pure.wallRow]; omega), getD_wall (by omega)])]
    rfl
theorem eds_above {R C : Nat} {ms : List UInt8} (hC : 1 ≤ C) (hN : R * C = ms.length) : ∀ n, n ≤ ms.length → eds (R + 1) C (Pure.wallRow C ++ ms) (C + n) = eds R C ms n
  | 0, _ => eds_above_wall C (Nat.le_refl _)
  | n + 1, h => by rw [← Nat.add_assoc, eds_sum, eds_sum, eds_above hC hN n (by omega), outs_above hC hN n, List.length_map]

/-- The free cells stay. -/
theorem frees_below (ms : List UInt8) (C : Nat) : frees (ms ++ Pure.wallRow C) = frees ms := by
  have hlen : (ms ++ Pure.wallRow C).length = ms.length + C := by simp [Pure.wallRow]
  have key : ∀ n, n ≤ C → freeK (ms ++ Pure.wallRow C) (ms.length + n) = freeK ms ms.length := by
    intro n
    induction n with
    | zero =>
      intro _
      unfold freeK
      refine List.filter_congr fun i hi => ?_
      rw [getD_low (List.mem_range.1 hi)]
    | succ n ih =>
      intro h
      rw [← Nat.add_assoc, freeK_miss (by rw [getD_high, getD_wall (by omega)]; rfl), ih (by omega)]
  unfold frees
  rw [hlen]
  exact key C (Nat.le_refl _)
end Go.Proofs.YtlkojoinbogkmaaDoor
