/-
  The document's queue: plain lists, in any order, beside a queue.
-/
import Derived.Test.YtnecmlkljijofaaSp9
namespace Go.Proofs.Ytnecmlkljijofaa
set_option maxRecDepth 100000
set_option linter.unusedSimpArgs false
open Go Go.RowKit Sp

namespace Sp
def rputL (m : List Wt) (w : Wt) : List Wt := if has m w.r then (if (at_ m w.r).p < w.p then m.set (idx m w.r) w else m) else if 8 ≤ m.length then m else m ++ [w]
def rupB (m : List Wt) (r p : Int) : Bool := has m r && decide (p ≤ 15) && decide ((at_ m r).p < p)
def rupL (m : List Wt) (r p : Int) : List Wt := if rupB m r p then m.set (idx m r) { at_ m r with p := p } else m
def rcutL (m : List Wt) (r : Int) : List Wt := if has m r then m.eraseIdx (idx m r) else m

/-- A queue and the document's list. -/
structure Rep (l m : List Wt) : Prop where
  ok : Ok l
  pm : l.Perm m
theorem Rep.nil : Rep [] [] := ⟨Ok.nil, List.Perm.refl _⟩
theorem Rep.len {l m : List Wt} (h : Rep l m) : m.length = l.length := h.pm.length_eq.symm
theorem Rep.mem {l m : List Wt} (h : Rep l m) (x : Wt) : x ∈ l ↔ x ∈ m := h.pm.mem_iff
theorem Rep.has {l m : List Wt} (h : Rep l m) (r : Int) : has m r = has l r := by
  have : Sp.has m r = true ↔ Sp.has l r = true := by
    rw [has_iff, has_iff]
    constructor <;> rintro ⟨x, hx, e⟩
    · exact ⟨x, (h.mem x).2 hx, e⟩
    · exact ⟨x, (h.mem x).1 hx, e⟩
  cases h1 : Sp.has m r <;> cases h2 : Sp.has l r <;> simp_all
theorem Rep.at_ {l m : List Wt} (h : Rep l m) {r : Int} (hh : Sp.has l r = true) : at_ m r = at_ l r := by
  have hm : idx m r < m.length := by have := h.has r; rw [hh] at this; simpa [Sp.has] using this
  have hl : idx l r < l.length := by simpa [Sp.has] using hh
  obtain ⟨a1, a2, _⟩ := idx_spec hm
  obtain ⟨b1, b2, _⟩ := idx_spec hl
  exact one_mem h.ok.one ((h.mem _).2 a1) b1 (by rw [a2, b2])
theorem split_at {m : List Wt} {r : Int} (hi : idx m r < m.length) : m = m.take (idx m r) ++ Sp.at_ m r :: m.drop (idx m r + 1) := by
  obtain ⟨h1, h2, h3⟩ := idx_spec hi
  have h4 : m[idx m r] = Sp.at_ m r := by rw [List.getElem?_eq_getElem hi] at h3; exact Option.some.inj h3
  rw [← h4, List.getElem_cons_drop hi, List.take_append_drop]
theorem erase_perm {m : List Wt} {r : Int} (hi : idx m r < m.length) : m.Perm (Sp.at_ m r :: m.eraseIdx (idx m r)) := by
  rw [List.eraseIdx_eq_take_drop_succ]
  conv => lhs; rw [split_at hi]
  exact List.perm_middle
theorem set_perm {m : List Wt} {i : Nat} (hi : i < m.length) (w : Wt) : (m.set i w).Perm (w :: m.eraseIdx i) := by
  rw [List.set_eq_take_append_cons_drop, if_pos hi, List.eraseIdx_eq_take_drop_succ]
  exact List.perm_middle
theorem ins_perm (w : Wt) (l : List Wt) : (ins w l).Perm (w :: l) := by
  have h : (w :: l).Perm (w :: (l.take (l.findIdx (fore w)) ++ l.drop (l.findIdx (fore w)))) := by rw [List.take_append_drop]
  exact List.perm_middle.trans h.symm
theorem Rep.erase {l m : List Wt} (h : Rep l m) {r : Int} (hh : Sp.has l r = true) : (l.eraseIdx (idx l r)).Perm (m.eraseIdx (idx m r)) := by
  have hm : idx m r < m.length := by have := h.has r; rw [hh] at this; simpa [Sp.has] using this
  have hl : idx l r < l.length := by simpa [Sp.has] using hh
  have h1 := (erase_perm hl).symm.trans (h.pm.trans (erase_perm hm))
  rw [h.at_ hh] at h1
  exact (List.perm_cons _).1 h1
theorem Rep.put {l m : List Wt} (h : Rep l m) (w : Wt) : Rep (putL w l) (rputL m w) := by
  refine ⟨h.ok.put w, ?_⟩
  unfold putL rputL
  rw [h.has]
  by_cases hh : Sp.has l w.r = true
  · have hm : idx m w.r < m.length := by have := h.has w.r; rw [hh] at this; simpa [Sp.has] using this
    rw [if_pos hh, if_pos hh, h.at_ hh]
    by_cases hp : w.p ≤ (Sp.at_ l w.r).p
    · rw [if_pos hp, if_neg (by omega)]; exact h.pm
    · rw [if_neg hp, if_pos (by omega)]
      exact (ins_perm _ _).trans (((List.perm_cons _).2 (h.erase hh)).trans (set_perm hm w).symm)
  · rw [if_neg hh, if_neg hh, h.len]
    have := h.ok.len
    by_cases h8 : l.length = 8
    · rw [if_pos h8, if_pos (by omega)]; exact h.pm
    · rw [if_neg h8, if_neg (by omega)]
      refine (ins_perm _ _).trans (((List.perm_cons _).2 h.pm).trans ?_)
      exact (List.perm_append_singleton w m).symm
theorem Rep.upB {l m : List Wt} (h : Rep l m) (r p : Int) : rupB m r p = upB l r p := by
  unfold rupB Sp.upB
  rw [h.has]
  by_cases hh : Sp.has l r = true
  · rw [hh, h.at_ hh, Bool.true_and, Bool.true_and, Bool.and_comm]
  · have : Sp.has l r = false := by simpa using hh
    rw [this]; rfl
theorem Rep.up {l m : List Wt} (h : Rep l m) (r p : Int) : Rep (upL l r p) (rupL m r p) := by
  refine ⟨h.ok.up r p, ?_⟩
  unfold upL rupL
  rw [h.upB]
  by_cases hu : Sp.upB l r p = true
  · have hh : Sp.has l r = true := by unfold Sp.upB at hu; simp at hu; exact hu.1.1
    have hm : idx m r < m.length := by have := h.has r; rw [hh] at this; simpa [Sp.has] using this
    rw [if_pos hu, if_pos hu, h.at_ hh]
    exact (ins_perm _ _).trans (((List.perm_cons _).2 (h.erase hh)).trans (set_perm hm _).symm)
  · rw [if_neg hu, if_neg hu]; exact h.pm
theorem Rep.cut {l m : List Wt} (h : Rep l m) (r : Int) : Rep (cutL l r) (rcutL m r) := by
  refine ⟨h.ok.cut r, ?_⟩
  unfold cutL rcutL
  rw [h.has]
  by_cases hh : Sp.has l r = true
  · rw [if_pos hh, if_pos hh]; exact h.erase hh
  · rw [if_neg hh, if_neg hh]; exact h.pm
/-- How many stand ahead of one. -/
def rank (m : List Wt) (y : Wt) : Nat := (m.filter (fun x => fore x y)).length
theorem rank_srt {l : List Wt} (h : Srt l) {j : Nat} (hj : j < l.length) : rank l l[j] = j := by
  have h1 : l.filter (fun x => fore x l[j]) = l.take j := by
    have e0 : l.filter (fun x => fore x l[j]) = (l.take j).filter (fun x => fore x l[j]) ++ (l.drop j).filter (fun x => fore x l[j]) := by
      rw [← List.filter_append, List.take_append_drop]
    have e1 : (l.take j).filter (fun x => fore x l[j]) = l.take j := by
      rw [List.filter_eq_self]
      intro x hx
      obtain ⟨i, hi, rfl⟩ := List.mem_take_iff_getElem.1 hx
      exact List.pairwise_iff_getElem.1 h i j (by omega) hj (by omega)
    have e2 : (l.drop j).filter (fun x => fore x l[j]) = [] := by
      rw [List.filter_eq_nil_iff]
      intro x hx
      obtain ⟨i, hi, rfl⟩ := List.mem_drop_iff_getElem.1 hx
      intro hf
      by_cases e : i = 0
      · subst e
        have := fore_irrefl l[j]
        simp only [Nat.add_zero] at hf
        rw [hf] at this; cases this
      · have := fore_asymm (List.pairwise_iff_getElem.1 h j (j + i) hj (by omega) (by omega))
        rw [hf] at this; cases this
    rw [e0, e1, e2, List.append_nil]
  unfold rank
  rw [h1, List.length_take]; omega
theorem Rep.rank {l m : List Wt} (h : Rep l m) {y : Wt} (hy : y ∈ m) : Sp.rank m y < l.length ∧ l[Sp.rank m y]? = some y := by
  have h0 : Sp.rank m y = Sp.rank l y := (h.pm.filter _).length_eq.symm
  obtain ⟨j, hj, rfl⟩ := List.getElem_of_mem ((h.mem y).2 hy)
  rw [h0, rank_srt h.ok.srt hj]
  exact ⟨hj, List.getElem?_eq_getElem hj⟩
/-- What is laid out behind some of the list. -/
def Laid (m O : List Wt) (i : Nat) : Prop := O.length = m.length ∧ ∀ k, k < i → O[Sp.rank m (m.getD k w0)]? = some (m.getD k w0)
theorem Laid.step {l m O : List Wt} (hr : Rep l m) {i : Nat} (h : Laid m O i) (hi : i < m.length) : Laid m (O.set (Sp.rank m (m.getD i w0)) (m.getD i w0)) (i + 1) := by
  have hm : ∀ k, k < m.length → m.getD k w0 ∈ m := fun k hk => by simp [List.getD, hk]
  refine ⟨by rw [List.length_set]; exact h.1, fun k hk => ?_⟩
  obtain ⟨a1, a2⟩ := hr.rank (hm i hi)
  have hlen := hr.len
  by_cases e : Sp.rank m (m.getD i w0) = Sp.rank m (m.getD k w0)
  · rw [← e, List.getElem?_set_self (by rw [h.1]; omega)]
    have h2 := (hr.rank (hm k (by omega))).2
    rw [← e, a2] at h2
    exact h2
  · rw [List.getElem?_set_ne e]
    exact h.2 k (by
      by_cases ek : k = i
      · subst ek; exact absurd rfl e
      · omega)
theorem Laid.all {l m O : List Wt} (hr : Rep l m) (h : Laid m O m.length) : O = l := by
  apply List.ext_getElem?
  intro j
  by_cases hj : j < l.length
  · have hx : l[j] ∈ m := (hr.mem _).1 (List.getElem_mem hj)
    obtain ⟨k, hk, e⟩ := List.getElem_of_mem hx
    have h1 := h.2 k hk
    have e2 : m.getD k w0 = l[j] := by simp [List.getD, hk, e]
    rw [e2] at h1
    have h0 : Sp.rank m l[j] = j := by
      have : Sp.rank m l[j] = Sp.rank l l[j] := (hr.pm.filter _).length_eq.symm
      rw [this, rank_srt hr.ok.srt hj]
    rw [h0] at h1
    rw [h1, List.getElem?_eq_getElem hj]
  · rw [List.getElem?_eq_none (by rw [h.1, hr.len]; omega), List.getElem?_eq_none (by omega)]
theorem rank_take {m : List Wt} {j : Nat} (hj : j < m.length) (y : Wt) : ((m.take (j + 1)).filter (fun x => fore x y)).length = ((m.take j).filter (fun x => fore x y)).length + (if fore (m.getD j w0) y then 1 else 0) := by
  rw [List.take_succ_eq_append_getElem hj, List.filter_append, List.length_append]
  simp only [List.getD, List.getElem?_eq_getElem hj, Option.getD_some, List.filter_cons, List.filter_nil]
  by_cases h : fore m[j] y = true
  · rw [if_pos h, if_pos h]; rfl
  · rw [if_neg h, if_neg h]; rfl
end Sp

/-- The document's queue in memory: its list lies in a row of its own. -/
def RQ (w : World) (b : Nat) (v : Value) (m : List Wt) : Prop := w.heap[b]? = some (.cells #[v] 47 (0, 0)) ∧ w.ownsRow (b + 1) 40 3 v m.length (csA m)
theorem RQ.kept {w w' : World} {b : Nat} {v : Value} {m : List Wt} {X : Nat → Prop} (h : RQ w b v m) (hk : Kept X w w') (hb : ¬ X b) (hv : ∀ k, v.ownBlock = some k → ¬ X k) : RQ w' b v m := ⟨(hk.block b (blk_lt h.1) hb).trans h.1, hk.row h.2 hv⟩
theorem RQ.still {w w' : World} {b : Nat} {v : Value} {m : List Wt} (h : RQ w b v m) (hk : Kept (fun _ => False) w w') : RQ w' b v m := h.kept hk id (fun _ _ => id)
theorem RQ.lt {w : World} {b : Nat} {v : Value} {m : List Wt} (h : RQ w b v m) : b < w.heap.size := blk_lt h.1
theorem RQ.vlt {w : World} {b : Nat} {v : Value} {m : List Wt} (h : RQ w b v m) {k : Nat} (hk : v.ownBlock = some k) : b < k ∧ k < w.heap.size := by
  rcases h.2.2 with ⟨rfl, _⟩ | ⟨g, cap, cur, rfl, hb, hg, _⟩
  · cases hk
  · have : g = k := by simpa [Value.ownBlock] using hk
    subst this
    exact ⟨by omega, blk_lt hg⟩
theorem RQ.isW {w : World} {b : Nat} {v : Value} {m : List Wt} (h : RQ w b v m) : IsW w v m := IsW.of_row h.2
theorem RQ.cell {w : World} {b : Nat} {v : Value} {m : List Wt} (h : RQ w b v m) : w.cell? ⟨b, 0, none⟩ = some v ∧ w.frozen? ⟨b, 0, none⟩ = false := ⟨by rw [blk_cell h.1]; rfl, blk_free h.1 0⟩
end Go.Proofs.Ytnecmlkljijofaa
