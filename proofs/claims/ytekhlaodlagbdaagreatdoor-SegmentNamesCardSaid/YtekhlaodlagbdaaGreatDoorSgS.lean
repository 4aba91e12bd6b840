/-
  segment: a plan in memory; add.
-/
import Derived.Test.YtekhlaodlagbdaaGreatDoorSgQ
import Derived.Test.YtekhlaodlagbdaaGreatDoorSgRep
namespace Go.Proofs.YtekhlaodlagbdaaGreatDoor
set_option maxRecDepth 100000
set_option linter.unusedSimpArgs false
open Go Go.RowKit

namespace Sg
/-- What a plan knows. -/
structure Pl where
  of : List Int
  cells : List (List Nat)
  kinds : List Nat
def setAll (o : List Int) (l : List Nat) (n : Nat) : List Int := l.foldl (fun o c => o.set c (n : Int)) o
theorem setAll_length (l : List Nat) (n : Nat) : ∀ o : List Int, (setAll o l n).length = o.length := by
  induction l with
  | nil => intro o; rfl
  | cons c l ih => intro o; show (setAll (o.set c (n : Int)) l n).length = _; rw [ih]; simp
theorem setAll_snoc (o : List Int) (l : List Nat) (c n : Nat) : setAll o (l ++ [c]) n = (setAll o l n).set c (n : Int) := by simp [setAll, List.foldl_append]
theorem setAll_at (l : List Nat) (n : Nat) : ∀ (o : List Int) (x : Nat), x < o.length → (setAll o l n).getD x 0 = if x ∈ l then (n : Int) else o.getD x 0 := by
  induction l with
  | nil => intro o x _; simp [setAll]
  | cons c l ih =>
    intro o x hx
    show (setAll (o.set c (n : Int)) l n).getD x 0 = _
    rw [ih _ x (by simpa using hx)]
    by_cases h : x ∈ l
    · rw [if_pos h, if_pos (List.mem_cons_of_mem _ h)]
    · rw [if_neg h]
      by_cases e : c = x
      · subst e
        rw [if_pos (by simp)]
        simp [List.getD, hx]
      · rw [if_neg (by simp [h]; exact fun e' => e e'.symm)]
        simp [List.getD, List.getElem?_set_ne e]
def Pl.add (s : Pl) (l : List Nat) (kd : Nat) : Pl := ⟨setAll s.of l s.cells.length, s.cells ++ [l], s.kinds ++ [kd]⟩
end Sg

/-- A number's cell. -/
def sgV (i : Int) : Value := .int .i64 i

/-- A plan at p: its map at bm, its cells' segments at bo; what it lists lies at Bs or above. -/
structure PlanM (p bo bm N Bs : Nat) (st : Sg.Pl) (V : Nat → Value) (vc vk : Value) (w : World) : Prop where
  blk : w.heap[p]? = some (.cells #[.pointer (some ⟨bm, 0, none⟩), .slice (some ⟨bo, 0, none⟩) N N, vc, vk] 66 (0, 0))
  of : w.heap[bo]? = some (.cells (st.of.map sgV).toArray 3 (0, 0))
  len : st.of.length = N
  rc : w.ownsRow Bs 36 1 vc st.cells.length ((List.range st.cells.length).map V)
  rk : w.ownsRow Bs 3 1 vk st.kinds.length (st.kinds.map natV)
  rows : ∀ s, s < st.cells.length → w.ownsRow Bs 3 1 (V s) (st.cells.getD s []).length ((st.cells.getD s []).map natV) ∧ (V s).ownBlock ≠ vk.ownBlock
  hp : p < Bs
  ho : bo < Bs
  hpo : bo ≠ p
section
variable {p bo bm N Bs : Nat} {st : Sg.Pl} {V : Nat → Value} {vc vk : Value} {w w' : World}
/-- What stands elsewhere turns. -/
theorem PlanM.kept {X : Nat → Prop} (h : PlanM p bo bm N Bs st V vc vk w) (hk : Kept X w w') (h1 : ¬ X p) (h2 : ¬ X bo) (h3 : ∀ k, vc.ownBlock = some k → ¬ X k) (h4 : ∀ k, vk.ownBlock = some k → ¬ X k) (h5 : ∀ s, s < st.cells.length → ∀ k, (V s).ownBlock = some k → ¬ X k) : PlanM p bo bm N Bs st V vc vk w' :=
  ⟨(hk.block p (blk_lt h.blk) h1).trans h.blk, (hk.block bo (blk_lt h.of) h2).trans h.of, h.len, hk.row h.rc h3, hk.row h.rk h4, fun s hs => ⟨hk.row (h.rows s hs).1 (h5 s hs), (h.rows s hs).2⟩, h.hp, h.ho, h.hpo⟩
theorem PlanM.still (h : PlanM p bo bm N Bs st V vc vk w) (hk : Kept (fun _ => False) w w') : PlanM p bo bm N Bs st V vc vk w' := h.kept hk id id (fun _ _ => id) (fun _ _ => id) (fun _ _ _ _ => id)
/-- One cell's segment is set. -/
theorem PlanM.set (h : PlanM p bo bm N Bs st V vc vk w) {c : Nat} (i : Int) : PlanM p bo bm N Bs { st with of := st.of.set c i } V vc vk (w.setCell ⟨bo, c, none⟩ (sgV i)) := by
  have hk : Kept (fun k => k = bo) w (w.setCell ⟨bo, c, none⟩ (sgV i)) := (Kept.refl (fun k => k = bo) w).setCell (p := ⟨bo, c, none⟩) (.inl rfl) _
  refine ⟨(hk.block p (blk_lt h.blk) (fun e => h.hpo e.symm)).trans h.blk, ?_, by simpa using h.len, hk.row h.rc (fun k hk e => ?_), hk.row h.rk (fun k hk e => ?_), fun s hs => ⟨hk.row (h.rows s hs).1 (fun k hk e => ?_), (h.rows s hs).2⟩, h.hp, h.ho, h.hpo⟩
  · rw [blk_set h.of]
    congr 2
    apply Array.toList_inj.1
    simp [List.map_set]
  · have := (h.rc.lt k hk).1; have := h.ho; omega
  · have := (h.rk.lt k hk).1; have := h.ho; omega
  · have := ((h.rows s hs).1.lt k hk).1; have := h.ho; omega
end

/-- Rows of two types lie in two blocks. -/
theorem own_apart {W : World} {B B' n m s s' : Nat} {u v : Value} {xs ys : List Value} (h1 : W.ownsRow B 36 s u n xs) (h2 : W.ownsRow B' 3 s' v m ys) : ∀ k, u.ownBlock = some k → v.ownBlock ≠ some k := by
  intro k e e'
  rcases h1.2 with ⟨rfl, _⟩ | ⟨g, cap, cur, rfl, _, hg, _⟩
  · cases e
  · rcases h2.2 with ⟨rfl, _⟩ | ⟨g', cap', cur', rfl, _, hg', _⟩
    · cases e'
    · have h3 : g = k := by simpa [Value.ownBlock] using e
      have h4 : g' = k := by simpa [Value.ownBlock] using e'
      subst h3
      subst h4
      rw [hg] at hg'
      injection hg' with hg'
      injection hg' with _ h _
      exact absurd h (by decide)
section
variable {p bo bm N Bs : Nat} {st : Sg.Pl} {V : Nat → Value} {vc vk : Value} {W w2 : World}
/-- One more segment's cells. -/
theorem PlanM.push_cells (h : PlanM p bo bm N Bs st V vc vk W) {v : Value} {l : List Nat} (hv : W.ownsRow Bs 3 1 v l.length (l.map natV)) (hvk : v.ownBlock ≠ vk.ownBlock) {o : Obj} {g2 cap : Nat}
    (hg : (W.alloc o).grownBy w2 vc.ownBlock) (ho : w2.ownsRow Bs 36 1 (.slice (some ⟨g2, 0, none⟩) (st.cells.length + 1) cap) (st.cells.length + 1) ((List.range st.cells.length).map V ++ [v])) :
    (w2.cell? ⟨p, 2, none⟩ = some vc ∧ w2.frozen? ⟨p, 2, none⟩ = false) ∧ PlanM p bo bm N Bs { st with cells := st.cells ++ [l] } (fun s => if s = st.cells.length then v else V s) (.slice (some ⟨g2, 0, none⟩) (st.cells.length + 1) cap) vk (w2.setCell ⟨p, 2, none⟩ (.slice (some ⟨g2, 0, none⟩) (st.cells.length + 1) cap)) ∧
      Kept (fun k => k = p ∨ k = bo ∨ Bs ≤ k) W (w2.setCell ⟨p, 2, none⟩ (.slice (some ⟨g2, 0, none⟩) (st.cells.length + 1) cap)) := by
  have K1 : Kept (fun k => vc.ownBlock = some k) W w2 := ((Kept.refl _ W).alloc o).grown hg (fun k e => .inl e)
  have hcB : ∀ k, vc.ownBlock = some k → Bs ≤ k := fun k e => (h.rc.lt k e).1
  have b2 := (K1.block p (blk_lt h.blk) (fun e => by have := hcB p e; have := h.hp; omega)).trans h.blk
  have K2 : Kept (fun k => k = p) w2 (w2.setCell ⟨p, 2, none⟩ (.slice (some ⟨g2, 0, none⟩) (st.cells.length + 1) cap)) := (Kept.refl (fun k => k = p) w2).setCell (p := ⟨p, 2, none⟩) (.inl rfl) _
  have hBp : ∀ k, Bs ≤ k → ¬ k = p := fun k hk e => by have := h.hp; omega
  refine ⟨⟨by rw [blk_cell b2]; rfl, blk_free b2 2⟩, ⟨by rw [blk_set b2]; rfl, ?_, h.len, ?_, ?_, ?_, h.hp, h.ho, h.hpo⟩, ?_⟩
  · exact (K2.block bo (Nat.lt_of_lt_of_le (blk_lt h.of) K1.size) h.hpo).trans ((K1.block bo (blk_lt h.of) (fun e => by have := hcB bo e; have := h.ho; omega)).trans h.of)
  · have := K2.row ho (fun k hk => hBp k (ho.lt k hk).1)
    simp only [List.length_append, List.length_cons, List.length_nil]
    rw [List.range_succ, List.map_append]
    have e : (List.range st.cells.length).map (fun s => if s = st.cells.length then v else V s) = (List.range st.cells.length).map V := by
      apply List.map_congr_left
      intro s hs
      rw [if_neg (by have := List.mem_range.1 hs; omega)]
    rw [e]
    simpa using this
  · exact K2.row (K1.row h.rk (fun k hk e => own_apart h.rc h.rk k e hk)) (fun k hk => hBp k (h.rk.lt k hk).1)
  · intro s hs
    have hs' : s < st.cells.length + 1 := by simpa using hs
    by_cases e : s = st.cells.length
    · subst e
      have e1 : (st.cells ++ [l]).getD st.cells.length [] = l := by simp [List.getD]
      simp only [if_true]
      rw [e1]
      exact ⟨K2.row (K1.row hv (fun k hk e => own_apart h.rc hv k e hk)) (fun k hk => hBp k (hv.lt k hk).1), hvk⟩
    · have e1 : (st.cells ++ [l]).getD s [] = st.cells.getD s [] := by simp [List.getD, List.getElem?_append_left (show s < st.cells.length by omega)]
      simp only [if_neg e]
      rw [e1]
      obtain ⟨r1, r2⟩ := h.rows s (by omega)
      exact ⟨K2.row (K1.row r1 (fun k hk e => own_apart h.rc r1 k e hk)) (fun k hk => hBp k (r1.lt k hk).1), r2⟩
  · exact (Kept.mono (Y := fun k => k = p ∨ k = bo ∨ Bs ≤ k) K1 (fun k _ hk => .inr (.inr (hcB k hk)))).trans K2 (fun i _ hi => .inl hi)
/-- One more segment's kind. -/
theorem PlanM.push_kinds (h : PlanM p bo bm N Bs st V vc vk W) {kd : Nat} {o : Obj} {g2 cap : Nat}
    (hg : (W.alloc o).grownBy w2 vk.ownBlock) (ho : w2.ownsRow Bs 3 1 (.slice (some ⟨g2, 0, none⟩) (st.kinds.length + 1) cap) (st.kinds.length + 1) (st.kinds.map natV ++ [natV kd])) (hat : vk.ownBlock = some g2 ∨ g2 = (W.alloc o).heap.size) :
    (w2.cell? ⟨p, 3, none⟩ = some vk ∧ w2.frozen? ⟨p, 3, none⟩ = false) ∧ PlanM p bo bm N Bs { st with kinds := st.kinds ++ [kd] } V vc (.slice (some ⟨g2, 0, none⟩) (st.kinds.length + 1) cap) (w2.setCell ⟨p, 3, none⟩ (.slice (some ⟨g2, 0, none⟩) (st.kinds.length + 1) cap)) ∧
      Kept (fun k => k = p ∨ k = bo ∨ Bs ≤ k) W (w2.setCell ⟨p, 3, none⟩ (.slice (some ⟨g2, 0, none⟩) (st.kinds.length + 1) cap)) := by
  have K1 : Kept (fun k => vk.ownBlock = some k) W w2 := ((Kept.refl _ W).alloc o).grown hg (fun k e => .inl e)
  have hcB : ∀ k, vk.ownBlock = some k → Bs ≤ k := fun k e => (h.rk.lt k e).1
  have b2 := (K1.block p (blk_lt h.blk) (fun e => by have := hcB p e; have := h.hp; omega)).trans h.blk
  have K2 : Kept (fun k => k = p) w2 (w2.setCell ⟨p, 3, none⟩ (.slice (some ⟨g2, 0, none⟩) (st.kinds.length + 1) cap)) := (Kept.refl (fun k => k = p) w2).setCell (p := ⟨p, 3, none⟩) (.inl rfl) _
  have hBp : ∀ k, Bs ≤ k → ¬ k = p := fun k hk e => by have := h.hp; omega
  refine ⟨⟨by rw [blk_cell b2]; rfl, blk_free b2 3⟩, ⟨by rw [blk_set b2]; rfl, ?_, h.len, ?_, ?_, ?_, h.hp, h.ho, h.hpo⟩, ?_⟩
  · exact (K2.block bo (Nat.lt_of_lt_of_le (blk_lt h.of) K1.size) h.hpo).trans ((K1.block bo (blk_lt h.of) (fun e => by have := hcB bo e; have := h.ho; omega)).trans h.of)
  · exact K2.row (K1.row h.rc (fun k hk e => own_apart h.rc h.rk k hk e)) (fun k hk => hBp k (h.rc.lt k hk).1)
  · have := K2.row ho (fun k hk => hBp k (ho.lt k hk).1)
    simpa using this
  · intro s hs
    obtain ⟨r1, r2⟩ := h.rows s hs
    have hne : ∀ k, (V s).ownBlock = some k → ¬ vk.ownBlock = some k := fun k h1 h2 => r2 (h1.trans h2.symm)
    refine ⟨K2.row (K1.row r1 (fun k hk e => hne k hk e)) (fun k hk => hBp k (r1.lt k hk).1), fun e => ?_⟩
    have e' : (V s).ownBlock = some g2 := e
    rcases hat with h1 | h1
    · exact hne g2 e' h1
    · have := (r1.lt g2 e').2
      have h2 : (W.alloc o).heap.size = W.heap.size + 1 := by simp
      omega
  · exact (Kept.mono (Y := fun k => k = p ∨ k = bo ∨ Bs ≤ k) K1 (fun k _ hk => .inr (.inr (hcB k hk)))).trans K2 (fun i _ hi => .inl hi)
end
end Go.Proofs.YtekhlaodlagbdaaGreatDoor
