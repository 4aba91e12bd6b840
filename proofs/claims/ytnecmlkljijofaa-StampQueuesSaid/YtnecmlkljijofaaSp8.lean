/-
  Where a robot's waiter stands in a list, and the list without it; a list of waiters that is put.
-/
import Derived.Test.YtnecmlkljijofaaSp7
import Derived.Test.YtnecmlkljijofaaSpi
import Derived.Laws.AppendOwn
namespace Go.Proofs.Ytnecmlkljijofaa
set_option maxRecDepth 100000
set_option linter.unusedSimpArgs false
open Go Go.RowKit Sp

namespace Sp
def atI (l : List Wt) (r : Int) : Int := if has l r then (idx l r : Nat) else -1
def rest (l : List Wt) (r : Int) : List Wt := l.filter (fun x => x.r != r)
def putS (l : List Wt) (w : Wt) : List Wt := if may w then putL w l else l
def puts (l : List Wt) : List Wt := l.foldl putS []
theorem puts_ok (l : List Wt) : Ok (puts l) := by
  unfold puts
  generalize hm : ([] : List Wt) = m
  have h : Ok m := by rw [← hm]; exact Ok.nil
  clear hm
  induction l generalizing m with
  | nil => exact h
  | cons x l ih => exact ih _ (by unfold putS; split; exact h.put x; exact h)
theorem puts_take {l : List Wt} {j : Nat} (hj : j < l.length) : puts (l.take (j + 1)) = putS (puts (l.take j)) (l.getD j w0) := by
  rw [List.take_succ_eq_append_getElem hj, puts, List.foldl_append]
  simp [puts, List.getD, hj]
theorem ins_rest (w : Wt) (l : List Wt) : rest (ins w l) w.r = rest l w.r := by
  unfold rest ins
  rw [List.filter_append, List.filter_cons, if_neg (by simp), ← List.filter_append, List.take_append_drop]
theorem erase_rest {l : List Wt} {r : Int} (hi : idx l r < l.length) : rest (l.eraseIdx (idx l r)) r = rest l r := by
  obtain ⟨h1, h2, h3⟩ := idx_spec hi
  have he : l = l.take (idx l r) ++ at_ l r :: l.drop (idx l r + 1) := by
    have h4 : l[idx l r] = at_ l r := by rw [List.getElem?_eq_getElem hi] at h3; exact Option.some.inj h3
    rw [← h4, List.getElem_cons_drop hi, List.take_append_drop]
  rw [List.eraseIdx_eq_take_drop_succ]
  conv => rhs; rw [he]
  unfold rest
  rw [List.filter_append, List.filter_append, List.filter_cons, if_neg (by simp [h2])]
theorem up_rest (l : List Wt) (r p : Int) : rest (upL l r p) r = rest l r := by
  unfold upL
  split
  · rename_i h1
    have h2 : idx l r < l.length := by unfold upB has at h1; simp at h1; exact h1.1.1
    have h4 := (idx_spec h2).2.1
    obtain ⟨y, hy⟩ : ∃ y : Wt, y = { at_ l r with p := p } := ⟨_, rfl⟩
    have h5 : y.r = r := by rw [hy]; exact h4
    have h3 := ins_rest y (l.eraseIdx (idx l r))
    rw [h5] at h3
    rw [← hy, h3, erase_rest h2]
  · rfl
theorem up_len (l : List Wt) (r p : Int) : (upL l r p).length = l.length := by
  unfold upL
  split
  · rename_i h1
    have h2 : idx l r < l.length := by unfold upB has at h1; simp at h1; exact h1.1.1
    rw [ins_length, erase_len h2]; omega
  · rfl
theorem findIdx_le_of {α : Type} {p : α → Bool} {l : List α} {i : Nat} (h : ∀ x, l[i]? = some x → p x = true) (hi : i ≤ l.length) : l.findIdx p ≤ i := by
  rcases Nat.lt_or_ge i (l.findIdx p) with h1 | h1
  · have h2 := List.findIdx_le_length (p := p) (xs := l)
    have h3 := List.not_of_lt_findIdx h1
    have h4 := h _ (List.getElem?_eq_getElem (by omega : i < l.length))
    rw [h4] at h3
    simp at h3
  · exact h1
theorem fore_more {y x : Wt} {p : Int} (h : fore y x = true) (hp : y.p ≤ p) : fore { y with p := p } x = true := by
  rw [fore_iff] at *
  simp only
  omega
theorem idx_ins {w : Wt} {l : List Wt} (h : ∀ x ∈ l, x.r ≠ w.r) : idx (ins w l) w.r = l.findIdx (fore w) := by
  have hle := List.findIdx_le_length (p := fore w) (xs := l)
  unfold idx ins
  rw [List.findIdx_append]
  have h1 : (l.take (l.findIdx (fore w))).findIdx (fun x => x.r == w.r) = (l.take (l.findIdx (fore w))).length := by
    rw [List.findIdx_eq_length]
    intro x hx
    simpa using h x (List.mem_of_mem_take hx)
  rw [h1, if_neg (by omega), List.findIdx_cons]
  simp
  omega
/-- Who is raised stands nowhere behind where it stood. -/
theorem up_at_le {l : List Wt} (h : Ok l) (r p : Int) : atI (upL l r p) r ≤ atI l r := by
  unfold upL
  split
  · rename_i h1
    have h0 : has l r = true ∧ (at_ l r).p < p := by unfold upB at h1; simp at h1; exact ⟨h1.1.1, h1.1.2⟩
    have h2 : idx l r < l.length := by simpa [has] using h0.1
    obtain ⟨m1, m2, m3⟩ := idx_spec h2
    obtain ⟨y, hy⟩ : ∃ y : Wt, y = { at_ l r with p := p } := ⟨_, rfl⟩
    have hyr : y.r = r := by rw [hy]; exact m2
    rw [← hy]
    have hne : ∀ x ∈ l.eraseIdx (idx l r), x.r ≠ y.r := by
      intro x hx
      rw [hyr]
      exact ((mem_erase h.one h2 x).1 hx).2
    have hi := idx_ins hne
    rw [hyr] at hi
    have hh : has (ins y (l.eraseIdx (idx l r))) r = true := by
      rw [has_iff]
      exact ⟨y, mem_ins.2 (.inl rfl), hyr⟩
    unfold atI
    rw [if_pos hh, if_pos h0.1, hi]
    have : (l.eraseIdx (idx l r)).findIdx (fore y) ≤ idx l r := by
      refine findIdx_le_of (fun x hx => ?_) (by rw [erase_len h2]; omega)
      rw [List.getElem?_eraseIdx, if_neg (by omega)] at hx
      have hlt := (List.getElem?_eq_some_iff.1 hx).1
      have hs := List.pairwise_iff_getElem.1 h.srt (idx l r) (idx l r + 1) h2 hlt (by omega)
      have e1 : l[idx l r] = at_ l r := by rw [List.getElem?_eq_getElem h2] at m3; exact Option.some.inj m3
      have e2 : l[idx l r + 1] = x := by rw [List.getElem?_eq_getElem hlt] at hx; exact Option.some.inj hx
      rw [e1, e2] at hs
      rw [hy]
      exact fore_more hs (by omega)
    omega
  · exact Int.le_refl _
theorem rest_len (l : List Wt) (r : Int) : (rest l r).length ≤ l.length := List.length_filter_le _ _
theorem rest_take {l : List Wt} {j : Nat} (hj : j < l.length) (r : Int) : rest (l.take (j + 1)) r = rest (l.take j) r ++ (if (l.getD j w0).r = r then [] else [l.getD j w0]) := by
  rw [List.take_succ_eq_append_getElem hj, rest, List.filter_append]
  congr 1
  simp only [List.getD, List.getElem?_eq_getElem hj, Option.getD_some, List.filter_cons, List.filter_nil]
  by_cases h : l[j].r = r <;> simp [h]
end Sp

set_option maxHeartbeats 1000000 in
/-- Where a robot's stands. -/
theorem at_any {w : World} {v : Value} {l : List Wt} {k : Nat} {r : Int} (hv : IsW w v l) (hl : l.length ≤ 8) (hk : w.cell? ⟨k, 0, none⟩ = some (.int .i64 r)) :
    Calls Try.prog 32 #[v, .pointer (some ⟨k, 0, none⟩)] w fun e w' => e = .returned (.int .i64 (atI l r)) ∧ Still w w' := by
  obtain ⟨P, hP⟩ : ∃ P : Ending → World → Prop, P = fun e w' => e = .returned (.int .i64 (atI l r)) ∧ Still w w' := ⟨_, rfl⟩
  have HP : Hid (∀ w' (n : Int), n = atI l r → Still w w' → P (.returned (.int .i64 n)) w') := by rw [hP]; rintro w' n rfl h; exact ⟨rfl, h⟩
  rw [← hP]
  clear hP
  obtain ⟨A, ca, rfl, hca⟩ := hv
  have HA : Hid (∀ wr, Still w wr → ∀ j, j < l.length → ∃ g, A = some ⟨g, 0, none⟩ ∧ wr.cell? ⟨g, j * 3, none⟩ = some (.int .i64 (l.getD j w0).r)) := by
    intro wr hk j hj
    obtain ⟨g, e, c0, _⟩ := hca j hj
    exact ⟨g, e, hk.cell c0 id⟩
  have HK : Hid (∀ wr, Still w wr → wr.cell? ⟨k, 0, none⟩ = some (.int .i64 r)) := fun wr h => h.cell hk id
  have HI : Hid (∀ j, j < l.length → (∀ i, i < j → (l.getD i w0).r ≠ r) → (l.getD j w0).r = r → atI l r = (j : Int)) := by
    intro j hj h1 h2
    have h3 : idx l r = j := by
      unfold idx
      rw [List.findIdx_eq hj]
      refine ⟨by simpa [List.getD, hj] using h2, fun i hi => ?_⟩
      have := h1 i hi
      simpa [List.getD, show i < l.length by omega] using this
    unfold atI has
    rw [h3, if_pos (by simpa using hj)]
  have HE : Hid ((∀ i, i < l.length → (l.getD i w0).r ≠ r) → atI l r = -1) := by
    intro h1
    unfold atI
    rw [if_neg]
    rw [has_iff]
    rintro ⟨x, hx, e⟩
    obtain ⟨i, hi, rfl⟩ := List.getElem_of_mem hx
    exact h1 i hi (by simpa [List.getD, hi] using e)
  clear hca hk
  generalize l.length = n at *
  go_enter Try.func32, Try.ntmps32
  go_wp2
  go_loopw [7] (fun u wr => ∃ j : Nat, j ≤ n ∧ u = .int .i64 (j : Int) ∧ (∀ i, i < j → (l.getD i w0).r ≠ r) ∧ Still w wr) (fun u _ => n - (intOf u).toNat)
  case atStart => exact ⟨0, Nat.zero_le _, rfl, fun i hi => by omega, Kept.refl _ _⟩
  case round =>
    obtain ⟨j, hj, rfl, hn, hw⟩ := hrel
    by_cases hlt : j < n
    · obtain ⟨g, rfl, c0⟩ := HA.out wr hw j hlt
      have ck := HK.out wr hw
      have HW := Lib.hid hw
      have HNE := Lib.hid hn
      have HIj := Lib.hid (HI.out j hlt hn)
      have HNx : Hid ((l.getD j w0).r ≠ r → ∀ i, i < j + 1 → (l.getD i w0).r ≠ r) := by
        intro h i hi
        by_cases e : i = j
        · rw [e]; exact h
        · exact hn i (by omega)
      have j0 : (0 : Int) ≤ (j : Int) := by omega
      have j1 : (j : Int) < (n : Int) := by omega
      clear hn hw HNE
      generalize (l.getD j w0).r = x at *
      by_cases hx : x = r
      · have HF := Lib.hid (fun nq => HP.out (wr.drewN nq) (j : Int) (HIj.out hx).symm (HW.out.drewN nq))
        subst hx
        clear HNx HIj
        go_wp2
        go_quiet (fail)
        go_wp2
        exact HF.out _
      · have e1 : (x == r) = false := by simpa using hx
        have HT := Lib.hid (HNx.out hx)
        clear HNx HIj
        go_wp2
        go_quiet (fail)
        go_wp2
        go_roundw
        case rel => exact ⟨j + 1, by omega, by go_num, HT.out, HW.out.drewN nq⟩
        case measure => simp [intOf]; omega
    · obtain rfl : j = n := by omega
      have HF := Lib.hid (HP.out wr (-1) (HE.out hn).symm hw)
      clear hn hw
      go_wp2
      exact HF.out
end Go.Proofs.Ytnecmlkljijofaa
