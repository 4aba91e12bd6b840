/-
  Distances are at most as many as nodes; a list of distances in memory.
-/
import Derived.Test.YtlcadkhhpnaofaaGBlt
import Derived.IntWalk
namespace Go.Proofs.Ytlcadkhhpnaofaa
set_option maxRecDepth 100000
open Go Go.RowKit Gq

theorem bfs_le (R : Gr) : ∀ (f : Nat) (M : Mt) (F : List Nat) (far : Nat), ∀ p ∈ (bfs R f M F far).1, p.2 < far + f
  | 0, M, F, far => by simp [bfs]
  | f + 1, M, F, far => by
    intro p hp
    by_cases hF : F = []
    · subst hF; rw [bfs_nil] at hp; simp at hp
    · rw [bfs_succ R f M hF far] at hp
      rcases List.mem_append.1 hp with h | h
      · obtain ⟨v, _, rfl⟩ := List.mem_map.1 h
        show far < _
        omega
      · have := bfs_le R f _ _ _ p h
        omega
theorem lay_le {B : Int} : ∀ (T : List (Nat × Nat)) (D : List Int), (∀ p ∈ T, ((p.2 : Nat) : Int) ≤ B) → (∀ x ∈ D, x ≤ B) → ∀ x ∈ lay T D, x ≤ B
  | [], D, _, h => h
  | p :: T, D, hT, h => by
    have e : lay (p :: T) D = lay T (D.set p.1 (p.2 : Int)) := rfl
    rw [e]
    refine lay_le T _ (fun q hq => hT q (List.mem_cons_of_mem _ hq)) (fun x hx => ?_)
    rcases List.mem_or_eq_of_mem_set hx with hx | rfl
    · exact h x hx
    · exact hT p (List.mem_cons_self ..)
theorem distL_le (R : Gr) (a i : Nat) : dg (distL R a) i ≤ (R.length : Int) := by
  have h : ∀ x ∈ distL R a, x ≤ (R.length : Int) := by
    refine lay_le _ _ (fun p hp => ?_) (fun x hx => ?_)
    · have := bfs_le R _ _ _ _ p hp
      omega
    · have := List.eq_of_mem_replicate hx
      omega
  unfold dg
  by_cases hi : i < (distL R a).length
  · have : (distL R a).getD i (-1) = (distL R a)[i] := by simp [List.getD, hi]
    rw [this]
    exact h _ (List.getElem_mem hi)
  · have : (distL R a).getD i (-1) = -1 := by simp [List.getD, hi]
    rw [this]
    omega

structure StI (w : World) (g b bb : Nat) (R : Gr) (S Sb : Nat → Prop) (D : List Int) (wr : World) : Prop where
  dist : wr.heap[g]? = some (.cells (ic D) 3 (0, 0))
  gr : GAt wr b R S
  bk : GAt wr bb (bkF R) Sb
  lo : Below w.heap.size w wr
theorem ic_cell {wr : World} {g : Nat} {D : List Int} (h : wr.heap[g]? = some (.cells (ic D) 3 (0, 0))) {i : Nat} (hi : i < D.length) : wr.cell? ⟨g, i, none⟩ = some (.int .i64 (dg D i)) := by
  rw [blk_cell h, ic_get hi]
  simp [dg, List.getD, hi]
theorem StI.below {w wr wr' : World} {g b bb : Nat} {R : Gr} {S Sb : Nat → Prop} {D : List Int} (h : StI w g b bb R S Sb D wr) (hb : Below wr.heap.size wr wr') : StI w g b bb R S Sb D wr' :=
  ⟨(hb.block g (blk_lt h.dist)).trans h.dist, h.gr.below hb (Nat.le_refl _), h.bk.below hb (Nat.le_refl _), h.lo.trans (hb.mono h.lo.size)⟩
theorem StI.still {w wr wr' : World} {g b bb : Nat} {R : Gr} {S Sb : Nat → Prop} {D : List Int} (h : StI w g b bb R S Sb D wr) (hs : Still wr wr') : StI w g b bb R S Sb D wr' :=
  h.below (hs.below (fun _ h => h.elim) (Nat.le_refl _))

end Go.Proofs.Ytlcadkhhpnaofaa
