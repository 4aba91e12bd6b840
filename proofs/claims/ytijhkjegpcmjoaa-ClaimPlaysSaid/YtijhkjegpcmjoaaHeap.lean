/-
  Plain facts on blocks of memory.
-/
import Derived.WalkKit
namespace Go.Proofs.Ytijhkjegpcmjoaa
set_option maxRecDepth 100000
open Go Go.RowKit

theorem blk_set {w : World} {b : Nat} {cur : Array Value} {e : TypeId} {m : Nat × Nat} (h : w.heap[b]? = some (.cells cur e m)) (j : Nat) (u : Value) :
    (w.setCell ⟨b, j, none⟩ u).heap[b]? = some (.cells (cur.setIfInBounds j u) e m) := by
  simp [World.setCell, Array.getElem?_modify, h]

theorem blk_cell {w : World} {b : Nat} {cur : Array Value} {e : TypeId} {m : Nat × Nat} (h : w.heap[b]? = some (.cells cur e m)) (j : Nat) :
    w.cell? ⟨b, j, none⟩ = cur[j]? := by
  simp [World.cell?, h]

theorem blk_free {w : World} {b : Nat} {cur : Array Value} {e : TypeId} (h : w.heap[b]? = some (.cells cur e (0, 0))) (j : Nat) :
    w.frozen? ⟨b, j, none⟩ = false := by
  simp [World.frozen?, h]

theorem _root_.Go.World.cell?_of_heap {w w' : World} (h : w.heap = w'.heap) {a : Addr} : w.cell? a = w'.cell? a := World.cell?_of_block (by rw [h])

theorem blk_lt {w : World} {b : Nat} {o : Obj} (h : w.heap[b]? = some o) : b < w.heap.size := (Array.getElem?_eq_some_iff.1 h).1

theorem size_new (w : World) (o : Obj) : (w.drew.alloc o).heap.size = w.heap.size + 1 := by simp
theorem grown_new {w w2 : World} {o : Obj} {row : Option Nat} (h : (w.drew.alloc o).grownBy w2 row) : w.grownBy w2 row := by
  have hs := size_new w o
  refine ⟨h.os, h.tape, h.output, by have := h.size; omega, fun k hk hne => (h.block k (by omega) hne).trans (Below.heap_alloc w.drew o k hk)⟩

theorem grown_new1 {w w2 : World} {o : Obj} {row : Option Nat} (h : (w.alloc o).grownBy w2 row) : w.grownBy w2 row := by
  have hs : (w.alloc o).heap.size = w.heap.size + 1 := by simp
  refine ⟨h.os, h.tape, h.output, by have := h.size; omega, fun k hk hne => (h.block k (by omega) hne).trans (Below.heap_alloc w o k hk)⟩

/-- A list of the call's own stays while a cell of another block is written. -/
theorem owns_set {w : World} {base : Nat} {e : TypeId} {size : Nat} {v : Value} {n : Nat} {xs : List Value} (h : w.ownsRow base e size v n xs) {b j : Nat} (hb : b < base) (u : Value) : (w.setCell ⟨b, j, none⟩ u).ownsRow base e size v n xs :=
  ownsRow_setCell_below h hb u

/-- A list of the call's own stays in a world that is as it was from below. -/
theorem owns_below {w w' : World} {base : Nat} {e : TypeId} {size : Nat} {v : Value} {n : Nat} {xs : List Value} {B : Nat} (h : w.ownsRow base e size v n xs) (hb : Below B w w') (hlt : w.heap.size ≤ B) : w'.ownsRow base e size v n xs := by
  refine ⟨h.1, ?_⟩
  rcases h.2 with hn | ⟨g, cap, cur, rfl, hb2, hg, rest⟩
  · exact .inl hn
  · exact .inr ⟨g, cap, cur, rfl, hb2, by rw [hb.block g (Nat.lt_of_lt_of_le (blk_lt hg) hlt)]; exact hg, rest⟩
end Go.Proofs.Ytijhkjegpcmjoaa
