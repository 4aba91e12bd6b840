/-
  The document's Ahead; two piles in one block.
-/
import Derived.Test.YtdhpphkkpjldfabPSys
namespace Go.Proofs.Ytdhpphkkpjldfab
set_option maxRecDepth 100000
open Go Go.RowKit Pq

set_option maxHeartbeats 400000 in
theorem aheadr_any (x y : It) (w : World) :
    Calls Try.prog 21 #[.agg #[.int .i64 x.c, .int .i64 x.t, .int .i64 x.i], .agg #[.int .i64 y.c, .int .i64 y.t, .int .i64 y.i]] w fun e w' => e = .returned (.bool (lt x y)) ∧ Below w.heap.size w w' := by
  obtain ⟨x0, x1, x2⟩ := x
  obtain ⟨y0, y1, y2⟩ := y
  simp only
  go_enter Try.func21, Try.ntmps21
  go_wp2
  all_goals
    go_ret
    refine ⟨ret_bool ?_, ((Below.refl _ _).alloc (Nat.le_refl _) _).alloc (by simp) _⟩
    unfold lt
    simp_all

/-- Two empty piles in one new block. -/
theorem Sys.newTwo {B : Nat} {W0 W : World} {ps : List Pl} {os : List (Nat × Obj)} {rs : List (Value × List It)} (h : Sys B W0 ps os rs W) (t : TypeId) :
    Sys B W0 (⟨W.heap.size, 0, none, []⟩ :: ⟨W.heap.size, 1, none, []⟩ :: ps) os rs (W.alloc (.cells #[.slice none 0 0, .slice none 0 0] t)) := by
  have h' := h.alloc0 (.cells #[.slice none 0 0, .slice none 0 0] t)
  have hb := heap_alloc_new W (.cells #[.slice none 0 0, .slice none 0 0] t)
  have hP0 : PileS (W.alloc (.cells #[.slice none 0 0, .slice none 0 0] t)) W.heap.size 0 none [] := PileS.empty (by rw [blk_cell hb]; rfl) (blk_free hb 0)
  have hP1 : PileS (W.alloc (.cells #[.slice none 0 0, .slice none 0 0] t)) W.heap.size 1 none [] := PileS.empty (by rw [blk_cell hb]; rfl) (blk_free hb 1)
  have hlt : ∀ (k : Nat) (q : Pl), ps[k]? = some q → ∀ g, Of q.b q.r g → g < W.heap.size := fun k q hq => (h.pile k q hq).1.lt
  have hnew : ∀ (j : Nat) (k : Nat) (q : Pl), ps[k]? = some q → Apart ⟨W.heap.size, j, none, []⟩ q ∧ Apart q ⟨W.heap.size, j, none, []⟩ := fun j k q hq =>
    ⟨⟨.inl (fun e => by have := hlt k q hq q.b (.inl rfl); simp at e; omega), fun g e => by cases e⟩,
     ⟨.inl (fun e => by have := hlt k q hq q.b (.inl rfl); simp at e; omega), fun g e => ⟨fun e' => by have := hlt k q hq g (.inr e); simp at e'; omega, fun e' => by cases e'⟩⟩⟩
  have hcase : ∀ (i : Nat) (p : Pl), (⟨W.heap.size, 0, none, []⟩ :: ⟨W.heap.size, 1, none, []⟩ :: ps : List Pl)[i]? = some p → (i = 0 ∧ p = ⟨W.heap.size, 0, none, []⟩) ∨ (i = 1 ∧ p = ⟨W.heap.size, 1, none, []⟩) ∨ ∃ k, i = k + 2 ∧ ps[k]? = some p := by
    intro i p hp
    match i, hp with
    | 0, hp => simp at hp; exact .inl ⟨rfl, hp.symm⟩
    | 1, hp => simp at hp; exact .inr (.inl ⟨rfl, hp.symm⟩)
    | k + 2, hp => exact .inr (.inr ⟨k, rfl, by simpa using hp⟩)
  refine ⟨h'.below, h'.size, ?_, ?_, ?_, ?_⟩
  · intro i p hp
    rcases hcase i p hp with ⟨_, rfl⟩ | ⟨_, rfl⟩ | ⟨k, _, hk⟩
    · exact ⟨hP0, h.le, fun g e => by cases e⟩
    · exact ⟨hP1, h.le, fun g e => by cases e⟩
    · exact h'.pile k p hk
  · intro i k p q hik hp hq
    rcases hcase i p hp with ⟨hi, rfl⟩ | ⟨hi, rfl⟩ | ⟨i', hi, hp'⟩ <;> rcases hcase k q hq with ⟨hk, rfl⟩ | ⟨hk, rfl⟩ | ⟨k', hk, hq'⟩
    · omega
    · exact ⟨.inr Nat.zero_ne_one, fun g e => by cases e⟩
    · exact (hnew 0 k' q hq').1
    · exact ⟨.inr Nat.one_ne_zero, fun g e => by cases e⟩
    · omega
    · exact (hnew 1 k' q hq').1
    · exact (hnew 0 i' p hp').2
    · exact (hnew 1 i' p hp').2
    · exact h'.apart i' k' p q (by omega) hp' hq'
  · intro o ho
    refine ⟨(h'.obj o ho).1, fun i p hp => ?_⟩
    have hl := blk_lt (h.obj o ho).1
    rcases hcase i p hp with ⟨_, rfl⟩ | ⟨_, rfl⟩ | ⟨k, _, hk⟩
    · rintro (e | e)
      · simp at e; omega
      · cases e
    · rintro (e | e)
      · simp at e; omega
      · cases e
    · exact (h'.obj o ho).2 k p hk
  · intro v hv
    refine ⟨(h'.row v hv).1, fun i p hp g hg => ?_⟩
    have hl := ((h.row v hv).1.lt g hg).2
    rcases hcase i p hp with ⟨_, rfl⟩ | ⟨_, rfl⟩ | ⟨k, _, hk⟩
    · rintro (e | e)
      · simp at e; omega
      · cases e
    · rintro (e | e)
      · simp at e; omega
      · cases e
    · exact (h'.row v hv).2 k p hk g hg
end Go.Proofs.Ytdhpphkkpjldfab
