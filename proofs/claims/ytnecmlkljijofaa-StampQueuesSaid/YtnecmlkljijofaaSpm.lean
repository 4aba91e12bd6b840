/-
  How often each number was met: a map[int]int; what a queue has behind waiters of several robots.
-/
import Derived.Test.YtnecmlkljijofaaSp9
import Derived.Maps.Views
import Derived.Maps.Own
import Derived.Carry
namespace Go.Proofs.Ytnecmlkljijofaa
set_option maxRecDepth 100000
set_option linter.unusedSimpArgs false
open Go Go.RowKit Sp
open Go.Maps (Keyed IsMap)

theorem intKeyed : Keyed Try.prog 3 := Maps.int_keyed Try.underlying3
theorem intZero (w : World) : (zeroValue 3).run Try.prog w = .ok (.int .i64 0) w := by kernel_rfl
theorem i64_wf {n : Int} (h : -9223372036854775808 ≤ n) (h' : n ≤ 9223372036854775807) : (Lit.int .i64 n).wf = true := by
  have h1 : IntKind.i64.min = -9223372036854775808 := rfl
  have h2 : IntKind.i64.max = 9223372036854775807 := rfl
  simp only [Lit.wf, Bool.and_eq_true, decide_eq_true_eq, h1, h2]
  omega
/-- How often each number was met. -/
def Mny (w : World) (m N : Nat) (g : Int → Int) : Prop :=
  ∃ D : DataW Unit, w.ownsMap Try.prog 3 (plainElem Try.prog 3) m N D ∧ IsMap D ∧ ∀ k : Int, D.atKey (.int .i64 k) (.lit (.int .i64 0)) = .lit (.int .i64 (g k))
theorem Mny.made (w : World) : Mny (w.alloc (.map #[] 0)) w.heap.size 0 (fun _ => 0) := ⟨.map [], World.ownsMap_made w _ _ _, Maps.isMap_empty, fun _ => rfl⟩
theorem Mny.lt {w : World} {m N : Nat} {g : Int → Int} (h : Mny w m N g) : m < w.heap.size := by
  obtain ⟨D, ho, _⟩ := h
  exact ho.lt
theorem Mny.kept {w w' : World} {m N : Nat} {g : Int → Int} {X : Nat → Prop} (h : Mny w m N g) (hk : Kept X w w') (hm : ¬ X m) : Mny w' m N g := by
  obtain ⟨D, ho, h1, h2⟩ := h
  have hlt := ho.lt
  obtain ⟨es, clock, hb, F, hs, hD⟩ := ho
  exact ⟨D, ⟨es, clock, (hk.block m hlt hm).trans hb, F, hs, hD⟩, h1, h2⟩
theorem Mny.look {w : World} {m N : Nat} {g : Int → Int} (h : Mny w m N g) {k : Int} (hk : -9223372036854775808 ≤ k) (hk' : k ≤ 9223372036854775807) :
    (Instr.lookup 72 (.map (some m)) (.int .i64 k) false).run Try.prog w = .ok (.int .i64 (g k)) w := by
  obtain ⟨D, ho, h1, h2⟩ := h
  obtain ⟨c, hr, hv, _⟩ := ho.lookup_int intKeyed Try.underlying72 Try.underlying3 (intZero w) (Maps.keyOf_int_mk Try.underlying3 (i64_wf hk hk'))
  rw [h2] at hv
  simp only [DataW.lit.injEq, Lit.int.injEq, true_and] at hv
  rw [hr, hv]
theorem Mny.put {w : World} {m N : Nat} {g : Int → Int} (h : Mny w m N g) (hN : N < 10000) {k v : Int} (hk : -9223372036854775808 ≤ k) (hk' : k ≤ 9223372036854775807) (hv : (Lit.int .i64 v).wf = true) :
    ∃ w', (Instr.mapUpdate 72 (.map (some m)) (.int .i64 k) (.int .i64 v)).run Try.prog w = .ok () w' ∧ Mny w' m (N + 1) (fun x => if x = k then v else g x) ∧ Kept (fun i => i = m) w w' := by
  obtain ⟨D, ho, h1, h2⟩ := h
  obtain ⟨w', hr, ho', hg⟩ := ho.update intKeyed Try.underlying72 (by unfold maxLen; omega) (Maps.keyOf_int_mk Try.underlying3 (i64_wf hk hk')) (plainElem_int Try.underlying3 (a := v) hv)
  refine ⟨w', hr, ⟨_, ho', h1.put _ _, fun k' => ?_⟩, ⟨hg.os, hg.tape, hg.output, hg.size, fun i hi hn => hg.block i hi (fun e => hn (by simpa using e))⟩⟩
  by_cases e : k' = k
  · subst e
    rw [Maps.atKey_put_same h1 (k := .int .i64 k') trivial]
    simp
  · rw [Maps.atKey_put_other (by intro e2; injection e2 with _ e2; exact e (by omega)), h2]
    simp [e]

namespace Sp
/-- How often a robot is among waiters. -/
def cnt (l : List Wt) (r : Int) : Int := ((l.filter (fun x => x.r == r)).length : Nat)
theorem cnt_take {l : List Wt} {j : Nat} (hj : j < l.length) (r : Int) : cnt (l.take (j + 1)) r = if r = (l.getD j w0).r then cnt (l.take j) r + 1 else cnt (l.take j) r := by
  rw [List.take_succ_eq_append_getElem hj, cnt, List.filter_append, List.length_append]
  simp only [List.getD, List.getElem?_eq_getElem hj, Option.getD_some, List.filter_cons, List.filter_nil]
  by_cases h : r = l[j].r
  · rw [if_pos h, if_pos (by simpa using h.symm)]; simp [cnt]
  · rw [if_neg h, if_neg (by simp; exact fun e => h e.symm)]; simp [cnt]
theorem cnt_le (l : List Wt) (r : Int) : 0 ≤ cnt l r ∧ cnt l r ≤ l.length := by
  have := List.length_filter_le (fun x : Wt => x.r == r) l
  unfold cnt; omega
/-- Each robot once. -/
def Dis (l : List Wt) : Prop := l.Pairwise (fun a b => a.r ≠ b.r)
theorem dis_of_cnt {l : List Wt} (h : ∀ j, j < l.length → cnt (l.take j) (l.getD j w0).r = 0) : Dis l := by
  rw [Dis, List.pairwise_iff_getElem]
  intro i j hi hj hij e
  have := h j hj
  simp only [List.getD, List.getElem?_eq_getElem hj, Option.getD_some] at this
  have h1 : l[i] ∈ (l.take j).filter (fun x => x.r == l[j].r) := by
    refine List.mem_filter.2 ⟨?_, by simpa using e⟩
    rw [List.mem_take_iff_getElem]
    exact ⟨i, by omega, rfl⟩
  have h2 : 0 < ((l.take j).filter (fun x => x.r == l[j].r)).length := List.length_pos_of_mem h1
  unfold cnt at this
  omega
theorem Dis.rev {l : List Wt} (h : Dis l) : Dis l.reverse := by
  rw [Dis, List.pairwise_reverse]
  exact h.imp (fun h => h.symm)
/-- Behind waiters of several robots a queue has those that may be. -/
theorem puts_mem {l : List Wt} (h : Dis l) (hl : l.length ≤ 8) : ∀ j, j ≤ l.length → (puts (l.take j)).length ≤ j ∧ ∀ x, x ∈ puts (l.take j) ↔ x ∈ l.take j ∧ may x = true
  | 0, _ => by simp [puts]
  | j + 1, hj => by
    obtain ⟨h1, h2⟩ := puts_mem h hl j (by omega)
    have hj' : j < l.length := by omega
    rw [puts_take hj']
    have hy : l.getD j w0 = l[j] := by simp [List.getD, hj']
    rw [hy, List.take_succ_eq_append_getElem hj']
    have hne : ∀ x ∈ puts (l.take j), x.r ≠ l[j].r := by
      intro x hx
      obtain ⟨i, hi, rfl⟩ := List.mem_take_iff_getElem.1 ((h2 x).1 hx).1
      exact List.pairwise_iff_getElem.1 h i j (by omega) hj' (by omega)
    have hh : has (puts (l.take j)) l[j].r = false := by
      have : ¬ has (puts (l.take j)) l[j].r = true := by
        rw [has_iff]; rintro ⟨x, hx, e⟩; exact hne x hx e
      simpa using this
    unfold putS
    by_cases hm : may l[j] = true
    · rw [if_pos hm]
      unfold putL
      rw [if_neg (by rw [hh]; simp), if_neg (by omega)]
      refine ⟨by rw [ins_length]; omega, fun x => ?_⟩
      rw [mem_ins, h2, List.mem_append, List.mem_singleton]
      constructor
      · rintro (rfl | ⟨h3, h4⟩)
        · exact ⟨.inr rfl, hm⟩
        · exact ⟨.inl h3, h4⟩
      · rintro ⟨h3 | rfl, h4⟩
        · exact .inr ⟨h3, h4⟩
        · exact .inl rfl
    · rw [if_neg hm]
      refine ⟨by omega, fun x => ?_⟩
      rw [h2, List.mem_append, List.mem_singleton]
      constructor
      · rintro ⟨h3, h4⟩; exact ⟨.inl h3, h4⟩
      · rintro ⟨h3 | rfl, h4⟩
        · exact ⟨h3, h4⟩
        · exact absurd h4 hm
/-- In whatever order they come: the queue is the same. -/
theorem puts_rev {l : List Wt} (h : Dis l) (hl : l.length ≤ 8) : puts l.reverse = puts l := by
  refine srt_eq (puts_ok _).srt (puts_ok _).srt fun x => ?_
  have h1 := (puts_mem h hl l.length (Nat.le_refl _)).2 x
  have h2 := (puts_mem h.rev (by simpa using hl) l.reverse.length (Nat.le_refl _)).2 x
  rw [List.take_length] at h1 h2
  rw [h1, h2, List.mem_reverse]
theorem rev_take {l : List Wt} {j : Nat} (hj : j < l.length) : l.reverse.take (j + 1) = l.reverse.take j ++ [l.getD (l.length - 1 - j) w0] := by
  rw [List.take_succ_eq_append_getElem (by simpa using hj), List.getElem_reverse]
  simp [List.getD, show l.length - 1 - j < l.length by omega]
theorem cut_rest {l : List Wt} (h : Ok l) (r : Int) : cutL l r = rest l r := by
  refine srt_eq (h.cut r).srt (h.srt.sublist List.filter_sublist) fun x => ?_
  rw [mem_cut h, rest, List.mem_filter]
  simp
theorem rest_lt (l : List Wt) (r : Int) : has l r = decide ((rest l r).length < l.length) := by
  by_cases hh : has l r = true
  · rw [hh, eq_comm, decide_eq_true_eq]
    obtain ⟨x, hx, e⟩ := has_iff.1 hh
    have h1 := List.length_filter_le (fun x : Wt => x.r != r) l
    rcases Nat.lt_or_ge (rest l r).length l.length with h2 | h2
    · exact h2
    · have h3 : (l.filter (fun x => x.r != r)).length = l.length := by unfold rest at h2; omega
      have h4 := List.length_filter_eq_length_iff.1 h3 x hx
      simp [e] at h4
  · have h0 : has l r = false := by simpa using hh
    rw [h0, eq_comm, decide_eq_false_iff_not]
    have h1 : rest l r = l := by
      rw [rest, List.filter_eq_self]
      intro x hx
      have : ¬ x.r = r := fun e => hh (has_iff.2 ⟨x, hx, e⟩)
      simpa using this
    rw [h1]; omega
theorem rest_get {l : List Wt} {j : Nat} (hj : j < l.length) {r : Int} (hne : (l.getD j w0).r ≠ r) : (rest (l.take j) r).length < (rest l r).length ∧ (rest l r).getD (rest (l.take j) r).length w0 = l.getD j w0 := by
  have h1 := rest_take hj r
  rw [if_neg hne] at h1
  have h2 : rest l r = rest (l.take (j + 1)) r ++ rest (l.drop (j + 1)) r := by
    unfold rest; rw [← List.filter_append, List.take_append_drop]
  rw [h1] at h2
  rw [h2]
  refine ⟨by simp, ?_⟩
  simp [List.getD]
theorem srt_next {l : List Wt} (h : Srt l) {j : Nat} (hj : j + 1 < l.length) : fore (l.getD j w0) (l.getD (j + 1) w0) = true := by
  have := List.pairwise_iff_getElem.1 h j (j + 1) (by omega) hj (by omega)
  simpa [List.getD, hj, show j < l.length by omega] using this
end Sp
end Go.Proofs.Ytnecmlkljijofaa
