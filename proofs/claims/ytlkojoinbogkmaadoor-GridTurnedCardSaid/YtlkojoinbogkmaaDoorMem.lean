/-
  findEdges: what lies in memory between two rounds: two tables of lists, each list in a block of its own.
-/
import Derived.Test.YtlkojoinbogkmaaDoorHeap
import Derived.Deep.AppendLies
import Derived.Laws.World
import Derived.Below
import Derived.RangeFuncOwn
namespace Go.Proofs.YtlkojoinbogkmaaDoor
set_option maxRecDepth 100000
open Go Go.RowKit

def loc (gn gb N j : Nat) : Addr := if j < N then ⟨gn, j, none⟩ else ⟨gb, j - N, none⟩
theorem loc_lo {gn gb N j : Nat} (h : j < N) : loc gn gb N j = ⟨gn, j, none⟩ := if_pos h
theorem loc_hi {gn gb N j : Nat} : loc gn gb N (N + j) = ⟨gb, j, none⟩ := by
  unfold loc
  rw [if_neg (by omega), Nat.add_sub_cancel_left]
theorem loc_ne {gn gb N i j : Nat} (hg : gn ≠ gb) (h : i ≠ j) : loc gn gb N i ≠ loc gn gb N j := by
  unfold loc
  split <;> split <;> intro e <;> simp at e <;> omega
theorem loc_block (gn gb N j : Nat) : (loc gn gb N j).block = gn ∨ (loc gn gb N j).block = gb := by
  unfold loc
  split <;> simp

def intV (x : Nat) : Value := .int .i64 (x : Int)

/-- av: blocks that none of the lists lies in, gn and gb among them. -/
structure Mem (B gn gb N : Nat) (av : List Nat) (L : Nat → List Nat) (T : Nat → Value) (W : World) : Prop where
  cell : ∀ j, j < 2 * N → W.cell? (loc gn gb N j) = some (T j)
  free : ∀ j, j < 2 * N → W.frozen? (loc gn gb N j) = false
  own : ∀ j, j < 2 * N → W.ownsRow B 3 1 (T j) (L j).length ((L j).map intV)
  sep : ∀ i j, i < 2 * N → j < 2 * N → i ≠ j → (T i).ownBlock = none ∨ (T i).ownBlock ≠ (T j).ownBlock
  far : ∀ q ∈ av, ∀ j, j < 2 * N → some q ≠ (T j).ownBlock
  lt : ∀ q ∈ av, q < W.heap.size
  hgn : gn ∈ av
  hgb : gb ∈ av
  two : gn ≠ gb

section
variable {B gn gb N : Nat} {av : List Nat} {L : Nat → List Nat} {T : Nat → Value} {W : World}

theorem Mem.in_av (h : Mem B gn gb N av L T W) (j : Nat) : (loc gn gb N j).block ∈ av := by
  rcases loc_block gn gb N j with e | e <;> rw [e]
  · exact h.hgn
  · exact h.hgb

/-- Whatever turns no block of a list and neither table. -/
theorem Mem.kept {W' : World} {row : Option Nat} (h : Mem B gn gb N av L T W) (hg : W.grownBy W' row) (hn : some gn ≠ row) (hb : some gb ≠ row) (hr : ∀ j, j < 2 * N → (T j).ownBlock = none ∨ (T j).ownBlock ≠ row) :
    Mem B gn gb N av L T W' where
  cell j hj := hg.cell (h.cell j hj) (by rcases loc_block gn gb N j with e | e <;> rw [e] <;> assumption)
  free j hj := (World.frozen?_of_block (hg.block _ (h.lt _ (h.in_av j)) (by rcases loc_block gn gb N j with e | e <;> rw [e] <;> assumption))).trans (h.free j hj)
  own j hj := (h.own j hj).kept hg (hr j hj)
  sep := h.sep
  far := h.far
  lt q hq := Nat.lt_of_lt_of_le (h.lt q hq) hg.size
  hgn := h.hgn
  hgb := h.hgb
  two := h.two

theorem Mem.grown (h : Mem B gn gb N av L T W) {W' : World} (hg : W.grownBy W' none) : Mem B gn gb N av L T W' :=
  h.kept hg (by simp) (by simp) (fun j _ => by cases e : (T j).ownBlock <;> simp)

/-- A block that is new now may be avoided from now on. -/
theorem Mem.avoid (h : Mem B gn gb N av L T W) {W' : World} (hg : W.grownBy W' none) (q : Nat) (hq : W.heap.size ≤ q) (hq' : q < W'.heap.size) : Mem B gn gb N (q :: av) L T W' where
  cell := (h.grown hg).cell
  free := (h.grown hg).free
  own := (h.grown hg).own
  sep := h.sep
  far p hp j hj := by
    rcases List.mem_cons.1 hp with rfl | hp
    · intro e
      have := ((h.own j hj).lt _ e.symm).2
      omega
    · exact h.far p hp j hj
  lt p hp := by
    rcases List.mem_cons.1 hp with rfl | hp
    · exact hq'
    · exact (h.grown hg).lt p hp
  hgn := List.mem_cons_of_mem _ h.hgn
  hgb := List.mem_cons_of_mem _ h.hgb
  two := h.two

/-- A store into a block that is avoided and is neither table. -/
theorem Mem.stored (h : Mem B gn gb N av L T W) {q : Nat} (hq : q ∈ av) (hn : q ≠ gn) (hb : q ≠ gb) (o : Nat) (u : Value) : Mem B gn gb N av L T (W.setCell ⟨q, o, none⟩ u) :=
  h.kept (row := some q) ⟨rfl, rfl, rfl, by simp, fun k _ hk => Below.heap_setCell _ _ _ k (fun e => hk (by rw [e]))⟩ (fun e => hn (by cases e; rfl)) (fun e => hb (by cases e; rfl)) (fun j hj => .inr fun e => h.far q hq j hj e.symm)

/-- One more at the end of one list. -/
theorem Mem.pushed (h : Mem B gn gb N av L T W) {j : Nat} (hj : j < 2 * N) (u : Nat) {g2 cap2 : Nat} {w2 : World} (hg : W.grownBy w2 (T j).ownBlock)
    (ho : w2.ownsRow B 3 1 (.slice (some ⟨g2, 0, none⟩) ((L j).length + 1) cap2) ((L j).length + 1) ((L j).map intV ++ [.int .i64 (u : Int)])) (hat : (T j).ownBlock = some g2 ∨ W.heap.size ≤ g2) :
    Mem B gn gb N av (fun k => if k = j then L j ++ [u] else L k) (fun k => if k = j then .slice (some ⟨g2, 0, none⟩) ((L j).length + 1) cap2 else T k)
      (w2.setCell (loc gn gb N j) (.slice (some ⟨g2, 0, none⟩) ((L j).length + 1) cap2)) := by
  have hfar : ∀ q ∈ av, q ≠ g2 := by
    intro q hq e
    rcases hat with e' | e'
    · exact h.far q hq j hj (by rw [e', e])
    · have := h.lt q hq; omega
  have hoth : ∀ k, k < 2 * N → k ≠ j → (T k).ownBlock = none ∨ (T k).ownBlock ≠ some g2 := by
    intro k hk hne
    rcases hat with e' | e'
    · rw [← e']; exact h.sep k j hk hj hne
    · right; intro e; have := ((h.own k hk).lt _ e).2; omega
  have hav : ∀ k, some (loc gn gb N k).block ≠ (T j).ownBlock := fun k => h.far _ (h.in_av k) j hj
  have hset : w2.grownBy (w2.setCell (loc gn gb N j) (.slice (some ⟨g2, 0, none⟩) ((L j).length + 1) cap2)) (some (loc gn gb N j).block) :=
    ⟨rfl, rfl, rfl, by simp, fun k _ hk => Below.heap_setCell _ _ _ k (fun e => hk (by rw [e]))⟩
  refine ⟨?_, ?_, ?_, ?_, ?_, ?_, h.hgn, h.hgb, h.two⟩
  · intro k hk
    by_cases e : k = j
    · subst e
      rw [if_pos rfl]
      exact World.cell?_setCell_same _ _ _ (hg.cell (h.cell k hk) (hav k))
    · rw [if_neg e, World.cell?_setCell_other _ _ _ _ (loc_ne h.two (Ne.symm e))]
      exact hg.cell (h.cell k hk) (hav k)
  · intro k hk
    rw [World.frozen?_setCell]
    exact (World.frozen?_of_block (hg.block _ (h.lt _ (h.in_av k)) (hav k))).trans (h.free k hk)
  · intro k hk
    by_cases e : k = j
    · subst e
      rw [if_pos rfl, if_pos rfl, List.length_append, List.map_append]
      exact ho.kept hset (.inr fun e => hfar _ (h.in_av k) (by simp [Value.ownBlock] at e; exact e.symm))
    · rw [if_neg e, if_neg e]
      exact ((h.own k hk).kept hg (h.sep k j hk hj e)).kept hset (.inr fun e' => h.far _ (h.in_av j) k hk e'.symm)
  · intro i k hi hk hne
    by_cases e1 : i = j
    · rw [if_pos e1, if_neg (fun e => hne (e1.trans e.symm))]
      right
      intro e
      rcases hoth k hk (fun e' => hne (e1.trans e'.symm)) with h' | h'
      · rw [h'] at e; simp [Value.ownBlock] at e
      · exact h' e.symm
    · rw [if_neg e1]
      by_cases e2 : k = j
      · rw [if_pos e2]; exact hoth i hi e1
      · rw [if_neg e2]; exact h.sep i k hi hk hne
  · intro q hq k hk
    by_cases e : k = j
    · rw [if_pos e]; intro e'; simp [Value.ownBlock] at e'; exact hfar q hq e'
    · rw [if_neg e]; exact h.far q hq k hk
  · intro q hq
    have h1 := h.lt q hq
    have h2 := hg.size
    simp
    omega

theorem cells_of_cell {W : World} {p : Addr} {v : Value} (h : W.cell? p = some v) {o : Obj} (ho : W.heap[p.block]? = some o) : o.isCells = true := by
  simp only [World.cell?, ho] at h
  cases o <;> first | rfl | simp at h

theorem not_own {e : TypeId} {v : Value} {n : Nat} {xs : List Value} (h : W.ownsRow B e 1 v n xs) {r : Nat} {o : Obj} (ho : W.heap[r]? = some o) (hc : o.isCells = false) : v.ownBlock ≠ some r := by
  rcases h.2 with ⟨rfl, _⟩ | ⟨g, cap, cur, rfl, _, hg, _⟩
  · simp [Value.ownBlock]
  · intro e'
    simp only [Value.ownBlock, Option.some.injEq] at e'
    subst e'
    rw [hg] at ho
    cases ho
    cases hc

/-- What turns but a block that holds no cells leaves the tables as they are. -/
theorem Mem.others (h : Mem B gn gb N av L T W) {W' : World} {row : Option Nat} (hg : W.grownBy W' row) (hr : ∀ r, row = some r → ∃ o : Obj, W.heap[r]? = some o ∧ o.isCells = false) :
    Mem B gn gb N av L T W' := by
  have hne : ∀ j, j < 2 * N → some (loc gn gb N j).block ≠ row := by
    intro j hj e
    obtain ⟨o, ho, hc⟩ := hr _ e.symm
    rw [cells_of_cell (h.cell j hj) ho] at hc
    cases hc
  exact
    { cell := fun j hj => hg.cell (h.cell j hj) (hne j hj)
      free := fun j hj => (World.frozen?_of_block (hg.block _ (h.lt _ (h.in_av j)) (hne j hj))).trans (h.free j hj)
      own := fun j hj => (h.own j hj).kept hg (by
        cases e : row with
        | none => cases (T j).ownBlock <;> simp
        | some r =>
          obtain ⟨o, ho, hc⟩ := hr r e
          exact .inr (not_own (h.own j hj) ho hc))
      sep := h.sep
      far := h.far
      lt := fun q hq => Nat.lt_of_lt_of_le (h.lt q hq) hg.size
      hgn := h.hgn
      hgb := h.hgb
      two := h.two }
end
end Go.Proofs.YtlkojoinbogkmaaDoor
