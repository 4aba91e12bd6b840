/-
  The library's Sort, of a list of nodes.
-/
import Derived.Test.YtlcadkhhpnaofaaGW8
import Derived.Shelf.Sort.Plain
import Derived.Shelf.Slices.In.SortNone
namespace Go.Proofs.Ytlcadkhhpnaofaa
set_option maxRecDepth 100000
open Go Go.RowKit Gq Go.Shelf

def srtN (l : List Nat) : List Nat := l.mergeSort fun x y => decide (x ≤ y)
theorem srtN_length (l : List Nat) : (srtN l).length = l.length := by simp [srtN]
theorem ints_srt (l : List Nat) : (ints l).mergeSort (fun x y => decide (x ≤ y)) = ints (srtN l) := by
  unfold ints srtN
  rw [List.map_mergeSort]
  intro a _ b _
  simp

theorem sort_any {w : World} {v : Value} {l : List Nat} (h : RowAt w v l) (hl : l.length ≤ 100000) :
    Calls Try.prog 33 #[v] w fun e w' => e = .returned (.tuple #[]) ∧ RowAt w' v (srtN l) ∧ Kept (fun k => v.ownBlock = some k) w w' := by
  rcases h.2 with ⟨rfl, h0⟩ | ⟨g, cap, cur, rfl, _, hg, h1, h2, h3, h4⟩
  · obtain rfl : l = [] := List.eq_nil_of_length_eq_zero h0
    refine (Any.slices_Sort_int_none laySort none 0 w).mono ?_
    rintro e w' ⟨rfl, rfl⟩
    have e : srtN [] = [] := by simp [srtN]
    rw [e]
    exact ⟨rfl, h, Kept.refl _ _⟩
  · have HO : w.ownsRow 0 3 1 (.slice (some ⟨g, 0, none⟩) l.length cap) l.length (nis l) := h
    have := Any.slices_Sort_int laySort g 0 cap (ints l) w (by
      intro j hj
      have hj : j < l.length := by simpa [ints] using hj
      refine ⟨?_, by rw [Nat.zero_add]; exact HO.frozenAt j⟩
      rw [Nat.zero_add, HO.cellAt j (by omega), nis_get hj]
      simp [ni, ints, hj]) (blk_lt hg) (by rw [ints_length]; omega)
    rw [ints_srt, ints_length] at this
    refine Calls.mono this ?_
    rintro e w' ⟨rfl, n, os, rfl⟩
    have hgl := blk_lt hg
    have hheap : ∀ k, k < w.heap.size → (Sort.grow (Sort.putRow (Value.int .i64) (Sort.ahead w n) g 0 (ints (srtN l)).toArray) os).heap[k]? = if g = k then (w.heap[k]?).map (Sort.onCells (Sort.putCells (Value.int .i64) 0 (ints (srtN l)).toArray)) else w.heap[k]? := by
      intro k hk
      show (_ ++ os)[k]? = _
      rw [Array.getElem?_append, if_pos (by simpa [Sort.putRow, Sort.mapBlock, Sort.ahead] using hk)]
      simp only [Sort.putRow, Sort.mapBlock, Sort.ahead, Array.getElem?_modify]
    have hb := hheap g hgl
    rw [if_pos rfl, hg] at hb
    refine ⟨rfl, ?_, ⟨rfl, rfl, rfl, by simp [Sort.grow, Sort.putRow, Sort.mapBlock, Sort.ahead], fun k hk hx => ?_⟩⟩
    · rw [← srtN_length]
      refine row_of_cells (cap := cap) hb (by simp [Sort.putCells]; omega) (by rw [srtN_length]; exact h1) h2 ?_
      intro j hj
      rw [blk_cell hb]
      rw [srtN_length] at hj
      have hjc : j < cur.size := by omega
      have e2 : j < (srtN l).length := by rw [srtN_length]; exact hj
      simp [Sort.putCells, hjc, ints, e2, ni, List.getD]
    · rw [hheap k hk, if_neg (fun e => hx (by show some g = some k; rw [e]))]
end Go.Proofs.Ytlcadkhhpnaofaa
