/-
  Spoil, Find, Count.
-/
import Derived.Test.YtinihggcibghaaaB6
namespace Go.Proofs.Ytinihggcibghaaa
set_option maxRecDepth 100000
set_option linter.unusedSimpArgs false
open Go Go.RowKit Bg
attribute [local go_sem] Oper.semAt_some

theorem Own.spoil {w : World} {S : Nat → Prop} {o g n cap i a : Nat} {E : List Ent} (h : Own w S o (.slice (some ⟨g, 0, none⟩) n cap) E) (hi : i < E.length) (ha : a < (E.getD i noE).1.d.length) (v : Nat) :
    ∃ gd, (E.getD i noE).2.1 = some ⟨gd, 0, none⟩ ∧ S gd ∧ gd ≠ o ∧ gd ≠ g ∧ Own ((w.setCell ⟨gd, a, none⟩ (byV (((E.getD i noE).1.d.getD a 0) ^^^ v))).setCell ⟨g, i * 5 + 4, none⟩ (.bool true)) S o (.slice (some ⟨g, 0, none⟩) n cap) (E.set i (spoilt (E.getD i noE).1 a v, (E.getD i noE).2)) := by
  have hd := h.dat _ (entM hi)
  obtain ⟨e, he⟩ : ∃ e, e = E.getD i noE := ⟨_, rfl⟩
  have hEi : E[i] = e := by rw [he, List.getD_eq_getElem?_getD, List.getElem?_eq_getElem hi]; rfl
  have heo := h.eo _ (entM hi)
  rw [← he] at ha hd heo ⊢
  obtain ⟨gd, hgd⟩ : ∃ gd, e.2.1 = some ⟨gd, 0, none⟩ := by
    rcases hd.2 with ⟨h1, h0⟩ | ⟨gd, cap', cur, h1, _⟩
    · omega
    · unfold Ent.v at h1
      injection h1 with e1 _ _
      exact ⟨gd, e1⟩
  have hve : Ent.v e = .slice (some ⟨gd, 0, none⟩) e.1.d.length e.2.2 := by unfold Ent.v; rw [hgd]
  obtain ⟨q1, q2, q3⟩ := heo gd (by rw [hve]; rfl)
  have hgg : gd ≠ g := fun e1 => q3 (by rw [e1]; rfl)
  have hn : n = E.length := by
    rcases h.row.2 with ⟨h1, _⟩ | ⟨_, _, _, h1, _⟩
    · cases h1
    · cases h1; rfl
  have k1 : Kept (fun k => k = gd) w (w.setCell ⟨gd, a, none⟩ (byV ((e.1.d.getD a 0) ^^^ v))) := (Kept.refl (fun k => k = gd) w).setCell (p := ⟨gd, a, none⟩) (.inl rfl) _
  have k2 : Kept (fun k => k = g) (w.setCell ⟨gd, a, none⟩ (byV ((e.1.d.getD a 0) ^^^ v))) ((w.setCell ⟨gd, a, none⟩ (byV ((e.1.d.getD a 0) ^^^ v))).setCell ⟨g, i * 5 + 4, none⟩ (.bool true)) := (Kept.refl (fun k => k = g) _).setCell (p := ⟨g, i * 5 + 4, none⟩) (.inl rfl) _
  have hlen : (spoilt e.1 a v).d.length = e.1.d.length := by simp [spoilt]
  have hv' : Ent.v (spoilt e.1 a v, e.2) = Ent.v e := by unfold Ent.v; rw [hlen]
  refine ⟨gd, hgd, q1, q2, hgg, ⟨?_, ?_, h.vo, ?_, ?_⟩⟩
  · have h1 := k1.row h.row (fun g' hg' e' => hgg (by cases hg'; exact e'.symm))
    subst hn
    have h2 := (h1.stored (i * 5 + 4) (.bool true)).1
    rw [List.length_set, csE_set4 hi _ (by rw [← he]; rfl) (by rw [← he]; rfl) (by rw [← he]; rfl) (by rw [← he]; exact hv')]
    exact h2
  · intro x hx
    obtain ⟨j, hj, rfl⟩ := List.getElem_of_mem hx
    rw [List.length_set] at hj
    rw [List.getElem_set]
    split
    · rename_i hij
      rw [hv', hlen]
      refine k2.row ?_ (fun g' hg' e' => by rw [hve] at hg'; cases hg'; exact hgg e')
      have h3 := hd
      rw [hve] at h3 ⊢
      have h4 := (h3.stored a (byV ((e.1.d.getD a 0) ^^^ v))).1
      have h5 : (e.1.d.map byV).set a (byV ((e.1.d.getD a 0) ^^^ v)) = (spoilt e.1 a v).d.map byV := by simp [spoilt, List.map_set]
      rw [h5] at h4
      exact h4
    · rename_i hij
      have hm : E[j] ∈ E := List.getElem_mem hj
      refine k2.row (k1.row (h.dat _ hm) (fun g' hg' e' => ?_)) (fun g' hg' e' => (h.eo _ hm g' hg').2.2 (by rw [e']; rfl))
      subst e'
      have hp := h.apart
      unfold Apart at hp
      rw [List.pairwise_iff_getElem] at hp
      rcases Nat.lt_or_ge i j with h1 | h1
      · refine hp i j (by simpa using hi) (by simpa using hj) h1 g' ?_ ?_
        · simp only [List.getElem_map, hEi, hve]; rfl
        · simpa using hg'
      · refine hp j i (by simpa using hj) (by simpa using hi) (by omega) g' ?_ ?_
        · simpa using hg'
        · simp only [List.getElem_map, hEi, hve]; rfl
  · intro x hx
    rcases List.mem_or_eq_of_mem_set hx with hx | rfl
    · exact h.eo x hx
    · rw [hv']; exact heo
  · unfold Apart
    rw [List.map_set, hv']
    have : (E.map Ent.v).set i (Ent.v e) = E.map Ent.v := by
      apply List.ext_getElem?
      intro j
      rw [List.getElem?_set]
      split
      · rename_i hij
        subst hij
        rw [if_pos (by simpa using hi), List.getElem?_map, List.getElem?_eq_getElem hi, hEi]; rfl
      · rfl
    rw [this]
    exact h.apart

set_option maxHeartbeats 1000000 in
theorem count_none (w : World) : Calls Try.prog 18 #[.pointer none] w fun e w' => e = .returned (.agg #[.int .i64 0, .int .i64 0, .int .i64 0, .int .i64 0, .int .i64 0, .int .i64 0]) ∧ Below w.heap.size w w' := by
  go_enter Try.func18, Try.ntmps18
  go_wp2
  exact bodyPost_ret (v := .agg #[.int .i64 0, .int .i64 0, .int .i64 0, .int .i64 0, .int .i64 0, .int .i64 0]) (by simp [results, Try.results18, go_sem]) rfl ⟨rfl, (Below.refl _ w).alloc (Nat.le_refl _) _⟩
@[reducible] def ctA (c : Ct) : Value := .agg #[.int .i64 (c.sent : Nat), .int .i64 (c.del : Nat), .int .i64 (c.drp : Nat), .int .i64 (c.dbl : Nat), .int .i64 (c.spt : Nat), .int .i64 (c.lost : Nat)]
set_option maxHeartbeats 1000000 in
theorem count_any {w : World} {S : Nat → Prop} {o : Nat} {b : St} (h : BagAt 29 w S o b) : Calls Try.prog 18 #[.pointer (some ⟨o, 0, none⟩)] w fun e w' => e = .returned (ctA b.c) ∧ Below w.heap.size w w' := by
  obtain ⟨A0, cap0, _, ⟨_, _, c2, c3, c4, c5, c6, c7⟩, _⟩ := h.cells
  have d2 := cell_a1 c2
  have d3 := cell_a1 c3
  have d4 := cell_a1 c4
  have d5 := cell_a1 c5
  have d6 := cell_a1 c6
  have d7 := cell_a1 c7
  clear h c2 c3 c4 c5 c6 c7
  unfold ctA
  generalize b.c.sent = x0 at *
  generalize b.c.del = x1 at *
  generalize b.c.drp = x2 at *
  generalize b.c.dbl = x3 at *
  generalize b.c.spt = x4 at *
  generalize b.c.lost = x5 at *
  go_enter Try.func18, Try.ntmps18
  go_wp2
  exact bodyPost_ret (v := .agg #[.int .i64 (x0 : Nat), .int .i64 (x1 : Nat), .int .i64 (x2 : Nat), .int .i64 (x3 : Nat), .int .i64 (x4 : Nat), .int .i64 (x5 : Nat)]) (by simp [results, Try.results18, go_sem]) rfl ⟨rfl, (Below.refl _ w).alloc (Nat.le_refl _) _⟩
end Go.Proofs.Ytinihggcibghaaa
