/-
  Both maps in memory, from call to call.
-/
import Derived.Test.YtkfijjjnidiejaaDoorRn
namespace Go.Proofs.YtkfijjjnidiejaaDoor
set_option maxRecDepth 100000
set_option linter.unusedSimpArgs false
open Go.RowKit

theorem bel_drewN {B : Nat} {a w : World} (h : Below B a w) (n : Nat) : Below B a (w.drewN n) := ⟨h.os, h.tape, h.output, h.size, h.block⟩

section
variable {w0 w w' : World} {bm gm cm br gr cr : Nat} {Q : List ByteArray}

theorem EM.lt {b g cap R C : Nat} {ms : List UInt8} {w : World} (h : EM b g cap R C ms w) : b < w.heap.size := World.block_lt_of_cell? w ⟨b, 0, none⟩ h.c0

variable {w1 : World} {v : Value} {n : Nat}

theorem Lst.below {l : List Nat} (h : Lst w v l) (hb : Below w.heap.size w w') : Lst w' v l := by
  obtain ⟨a, c, rfl, hc⟩ := h
  refine ⟨a, c, rfl, fun j hj => ?_⟩
  obtain ⟨g, rfl, hg⟩ := hc j hj
  exact ⟨g, rfl, (hb.cell (p := ⟨g, j, none⟩) (World.block_lt_of_cell? w ⟨g, j, none⟩ hg)).trans hg⟩

theorem good_area (h : Pure.Good (lsts Q)) : (lsts Q).length * Pure.wid (lsts Q) = (lsts Q).flatten.length := h.size.symm

theorem good_pos (h : Pure.Good (lsts Q)) : 0 < (lsts Q).flatten.length := by
  rw [h.size]
  have h1 := h.lo
  have h2 : 0 < (lsts Q).length := List.length_pos_iff.2 h.ne
  exact Nat.mul_pos h2 h1

end

/-- How many edges the first cells have, -1 counted as one. -/
def tot (R C : Nat) (ms : List UInt8) (k : Nat) : Nat := eds R C ms (min (k - 1) ms.length)
theorem tot_step (R C : Nat) (ms : List UInt8) (k : Nat) : tot R C ms (k + 1) = tot R C ms k + (nextZ R C ms ((k : Int) - 1)).length := by
  unfold tot nextZ
  rcases k with _ | k
  · rw [if_neg (by omega)]; rfl
  · have e : (((k + 1 : Nat) : Int) - 1) = (k : Int) := by omega
    rw [e]
    by_cases h : k < ms.length
    · rw [if_pos (by omega), show min (k + 1 + 1 - 1) ms.length = k + 1 by omega, show min (k + 1 - 1) ms.length = k by omega, eds_sum]
      rfl
    · rw [if_neg (by omega), show min (k + 1 + 1 - 1) ms.length = ms.length by omega, show min (k + 1 - 1) ms.length = ms.length by omega]
      rfl
theorem tot_end (R C : Nat) (ms : List UInt8) : tot R C ms (ms.length + 2) = eds R C ms ms.length := by
  unfold tot
  rw [show min (ms.length + 2 - 1) ms.length = ms.length by omega]
theorem tot_le (R C : Nat) (ms : List UInt8) (k : Nat) : tot R C ms k ≤ 4 * ms.length := by
  unfold tot
  have := eds_len R C ms (min (k - 1) ms.length)
  omega
theorem next_len (R C : Nat) (ms : List UInt8) (i : Int) : (nextZ R C ms i).length ≤ 4 := by
  unfold nextZ
  split
  · exact outs_len R C ms _
  · simp
theorem back_len (R C : Nat) (ms : List UInt8) (i : Int) : (backZ R C ms i).length ≤ ms.length := by
  unfold backZ
  split
  · exact ins_len R C ms _
  · simp
end Go.Proofs.YtkfijjjnidiejaaDoor
