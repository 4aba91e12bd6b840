/-
  The document's queue: Ahead, Find, Put, Raise.
-/
import Derived.Test.YtnecmlkljijofaaSpq
import Derived.Test.YtnecmlkljijofaaSp8
namespace Go.Proofs.Ytnecmlkljijofaa
set_option maxRecDepth 100000
set_option linter.unusedSimpArgs false
open Go Go.RowKit Sp
attribute [local go_sem] Oper.semAt_some

set_option maxHeartbeats 1000000 in
theorem rahead_any (w : World) (a b : Wt) :
    Calls Try.prog 28 #[wv a, wv b] w fun e w' => e = .returned (.bool (fore a b)) ∧ Below w.heap.size w w' ∧ w'.heap.size = w.heap.size + 2 := by
  obtain ⟨P, hP⟩ : ∃ P : Ending → World → Prop, P = fun e w' => e = .returned (.bool (fore a b)) ∧ Below w.heap.size w w' ∧ w'.heap.size = w.heap.size + 2 := ⟨_, rfl⟩
  have HP : Hid (∀ t t' c c', P (.returned (.bool (fore a b))) ((w.alloc (.cells c t)).alloc (.cells c' t'))) := by
    rw [hP]; intro t t' c c'; exact ⟨rfl, ((Below.refl _ w).alloc (Nat.le_refl _) _).alloc (by simp) _, by simp⟩
  rw [← hP]
  clear hP
  unfold fore at HP
  obtain ⟨r1, s1, p1⟩ := a
  obtain ⟨r2, s2, p2⟩ := b
  simp only [wv] at HP ⊢
  by_cases h1 : p1 = p2
  · subst h1
    by_cases h2 : s1 = s2
    · subst h2
      rw [if_pos rfl, if_pos rfl] at HP
      go_enter Try.func28, Try.ntmps28
      go_wp2
      exact HP.out _ _ _ _
    · rw [if_pos rfl, if_neg h2] at HP
      have e2 : (s1 == s2) = false := by simpa using h2
      go_enter Try.func28, Try.ntmps28
      go_wp2
      exact HP.out _ _ _ _
  · rw [if_neg h1] at HP
    have e1 : (p1 == p2) = false := by simpa using h1
    go_enter Try.func28, Try.ntmps28
    go_wp2
    exact HP.out _ _ _ _


set_option maxHeartbeats 1000000 in
theorem rfind_any {w : World} {b : Nat} {v : Value} {m : List Wt} (h : RQ w b v m) (hm : m.length ≤ 8) (r : Int) :
    Calls Try.prog 24 #[.pointer (some ⟨b, 0, none⟩), .int .i64 r] w fun e w' => e = .returned (.int .i64 (atI m r)) ∧ w = w' := by
  obtain ⟨P, hP⟩ : ∃ P : Ending → World → Prop, P = fun e w' => e = .returned (.int .i64 (atI m r)) ∧ w = w' := ⟨_, rfl⟩
  have HS : Hid (∀ j, j < m.length → (∀ i, i < j → (m.getD i w0).r ≠ r) → (m.getD j w0).r = r → P (.returned (.int .i64 (j : Int))) w) := by
    rw [hP]
    intro j hj h1 h2
    have h3 : idx m r = j := by
      unfold idx
      rw [List.findIdx_eq hj]
      refine ⟨by simpa [List.getD, hj] using h2, fun i hi => ?_⟩
      have := h1 i hi
      simpa [List.getD, show i < m.length by omega] using this
    refine ⟨?_, rfl⟩
    unfold atI has
    rw [h3, if_pos (by simpa using hj)]
  have HN : Hid ((∀ i, i < m.length → (m.getD i w0).r ≠ r) → P (.returned (.int .i64 (-1))) w) := by
    rw [hP]
    intro h1
    refine ⟨?_, rfl⟩
    unfold atI
    rw [if_neg]
    rw [has_iff]
    rintro ⟨x, hx, e⟩
    obtain ⟨i, hi, rfl⟩ := List.getElem_of_mem hx
    exact h1 i hi (by simpa [List.getD, hi] using e)
  rw [← hP]
  clear hP
  have z0 := h.cell.1
  obtain ⟨A, cap, rfl, hc⟩ := h.isW
  have HC : Hid (∀ j, j < m.length → ∃ g, A = some ⟨g, 0, none⟩ ∧ w.cell? ⟨g, j * 3, none⟩ = some (.int .i64 (m.getD j w0).r)) := fun j hj => by
    obtain ⟨g, e, c0, _⟩ := hc j hj
    exact ⟨g, e, c0⟩
  clear h hc
  generalize m.length = N at *
  go_enter Try.func24, Try.ntmps24
  go_wp2
  go_loopw [5] (fun i wr => ∃ j : Nat, j ≤ N ∧ i = .int .i64 (j : Int) ∧ wr = w ∧ ∀ q, q < j → (m.getD q w0).r ≠ r) (fun i _ => N - (intOf i).toNat)
  case atStart => exact ⟨0, by omega, rfl, rfl, fun q hq => by omega⟩
  case round =>
    obtain ⟨j, hj, rfl, rfl, hq⟩ := hrel
    have HQ := Lib.hid hq
    clear hq
    by_cases hlt : j < N
    · obtain ⟨g, rfl, hc⟩ := HC.out j hlt
      have j0 : (0 : Int) ≤ (j : Int) := by omega
      have j1 : (j : Int) < (N : Int) := by omega
      by_cases he : (m.getD j w0).r = r
      · have HF := Lib.hid (HS.out j hlt HQ.out he)
        rw [he] at hc
        clear he HS HN HC
        go_wp2
        exact HF.out
      · have HQ2 : Hid (∀ q, q < j + 1 → (m.getD q w0).r ≠ r) := fun q hq => by
          by_cases e : q = j
          · subst e; exact he
          · exact HQ.out q (by omega)
        generalize (m.getD j w0).r = x at *
        have hd : (x == r) = false := by simpa using he
        clear HQ HS HN HC
        go_wp2
        go_roundw
        case rel => exact ⟨j + 1, by omega, by go_num, by first | rfl | trivial, HQ2.out⟩
        case measure => simp [intOf]; omega
    · obtain rfl : j = N := by omega
      have HF := Lib.hid (HN.out HQ.out)
      clear HS HN HC
      go_wp2
      exact HF.out

/-- One of the document's list is turned. -/
theorem csA_set {m : List Wt} {i : Nat} (hi : i < m.length) (y : Wt) : csA (m.set i y) = (csA m).take (i * 3) ++ (wc y ++ (csA m).drop (i * 3 + 3)) := by
  rw [List.set_eq_take_append_cons_drop, if_pos hi, csA_append, csA_take]
  congr 1
  rw [show y :: m.drop (i + 1) = [y] ++ m.drop (i + 1) from rfl, csA_append, csA_drop]
  have : csA [y] = wc y := by simp [csA]
  rw [this, Nat.add_mul]
theorem row_set {w : World} {base g cap : Nat} {m : List Wt} {i : Nat} (h : w.ownsRow base 40 3 (.slice (some ⟨g, 0, none⟩) m.length cap) m.length (csA m)) (hi : i < m.length) (y : Wt) :
    (((w.setCell ⟨g, i * 3, none⟩ (.int .i64 y.r)).setCell ⟨g, i * 3 + 1, none⟩ (.int .u64 y.s)).setCell ⟨g, i * 3 + 2, none⟩ (.int .i64 y.p)).ownsRow base 40 3 (.slice (some ⟨g, 0, none⟩) m.length cap) m.length (csA (m.set i y)) := by
  refine ⟨by rw [csA_length, List.length_set], ?_⟩
  rcases h.2 with ⟨h1, _⟩ | ⟨g', cap', cur, h1, hb, hg, hle, hmx, hsz, htk⟩
  · cases h1
  injection h1 with e1 _ e3
  injection e1 with e1
  injection e1 with e1
  subst e1 e3
  refine .inr ⟨g, cap, _, rfl, hb, blk_set (blk_set (blk_set hg _ _) _ _) _ _, hle, hmx, by simpa using hsz, ?_⟩
  have hcl : (csA m).length = m.length * 3 := csA_length m
  rw [csA_set hi, ← htk]
  apply List.ext_getElem?
  intro j
  simp only [Array.toList_setIfInBounds, List.getElem?_take, List.getElem?_set, List.length_set]
  have hs : cur.toList.length = cap * 3 := by simpa using hsz
  by_cases hj : j < m.length * 3
  · rw [if_pos hj]
    by_cases c2 : i * 3 + 2 = j
    · rw [if_pos c2, if_pos (by omega), List.getElem?_append_right (by simp [hs]; omega), List.getElem?_append_left (by simp [wc, hs]; omega)]
      have : j - (List.take (i * 3) (List.take (m.length * 3) cur.toList)).length = 2 := by simp [hs]; omega
      rw [this]; rfl
    · rw [if_neg c2]
      by_cases c1 : i * 3 + 1 = j
      · rw [if_pos c1, if_pos (by omega), List.getElem?_append_right (by simp [hs]; omega), List.getElem?_append_left (by simp [wc, hs]; omega)]
        have : j - (List.take (i * 3) (List.take (m.length * 3) cur.toList)).length = 1 := by simp [hs]; omega
        rw [this]; rfl
      · rw [if_neg c1]
        by_cases c0 : i * 3 = j
        · rw [if_pos c0, if_pos (by omega), List.getElem?_append_right (by simp [hs]; omega), List.getElem?_append_left (by simp [wc, hs]; omega)]
          have : j - (List.take (i * 3) (List.take (m.length * 3) cur.toList)).length = 0 := by simp [hs]; omega
          rw [this]; rfl
        · rw [if_neg c0]
          by_cases c3 : j < i * 3
          · rw [List.getElem?_append_left (by simp [hs]; omega), List.getElem?_take, if_pos c3, List.getElem?_take, if_pos hj]
          · rw [List.getElem?_append_right (by simp [hs]; omega), List.getElem?_append_right (by simp [wc, hs]; omega), List.getElem?_drop, List.getElem?_take, if_pos (by simp [wc, hs]; omega)]
            congr 1
            simp [wc, hs]
            omega
  · rw [if_neg hj, List.getElem?_eq_none]
    simp [wc, hs]; omega
end Go.Proofs.Ytnecmlkljijofaa
