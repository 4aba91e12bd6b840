/-
  The walks of the questions that the document's own map answers.
-/
import Derived.Test.YtkfijjjnidiejaaDoorW5
import Derived.Lib.Builder
import Derived.Shelf.Strings.Builder1
import Derived.StillTailTactics
import Derived.Deep.RegionWith
namespace Go.Proofs.YtkfijjjnidiejaaDoor
set_option maxRecDepth 100000
open Go.RowKit

theorem MapAt.drewN {w : World} {b g cap : Nat} {L : List (List UInt8)} (h : MapAt w b g cap L) (n : Nat) : MapAt (w.drewN n) b g cap L := ⟨h.blk, h.own⟩
theorem MapAt.below {w w' : World} {B b g cap : Nat} {L : List (List UInt8)} (h : MapAt w b g cap L) (hb : Below B w w') (hB : w.heap.size ≤ B) : MapAt w' b g cap L :=
  ⟨by rw [hb.block b (Nat.lt_of_lt_of_le (blk_lt h.blk) hB)]; exact h.blk, owns_below h.own hb hB⟩

theorem good_size {Q : List ByteArray} (hg : Pure.Good (lsts Q)) : 1 ≤ Q.length ∧ Q.length ≤ 32 := by
  have h1 := hg.len
  have h2 : (lsts Q).length = Q.length := by simp [lsts]
  have h3 := hg.ne
  constructor
  · cases Q with
    | nil => exact absurd rfl h3
    | cons a l => simp
  · omega

theorem good_row {Q : List ByteArray} (hg : Pure.Good (lsts Q)) {j : Nat} (hj : j < Q.length) : Q[j].size = Pure.wid (lsts Q) := by
  have := hg.row Q[j].data.toList (List.mem_map.2 ⟨Q[j], List.getElem_mem _, rfl⟩)
  simpa using this

/-- Of row k / W the byte k % W. -/
theorem row_byte {Q : List ByteArray} (hg : Pure.Good (lsts Q)) {k : Nat} (hk : k < (lsts Q).flatten.length) :
    ∃ (h1 : k / Pure.wid (lsts Q) < Q.length) (h2 : k % Pure.wid (lsts Q) < (Q[k / Pure.wid (lsts Q)]).size), (Q[k / Pure.wid (lsts Q)])[k % Pure.wid (lsts Q)] = (lsts Q).flatten.getD k 0 := by
  have hlo := hg.lo
  have hsz := hg.size
  have hl : (lsts Q).length = Q.length := by simp [lsts]
  have h1 : k / Pure.wid (lsts Q) < Q.length := by
    rw [Nat.div_lt_iff_lt_mul (by omega), ← hl, ← hsz]; exact hk
  have h2 : k % Pure.wid (lsts Q) < (Q[k / Pure.wid (lsts Q)]).size := by
    rw [good_row hg h1]; exact Nat.mod_lt _ (by omega)
  refine ⟨h1, h2, ?_⟩
  have hf := Pure.flat_at (n := Pure.wid (lsts Q)) (by omega) (lsts Q) hg.row k
  rw [List.getD, hf]
  have e : ∀ j (h : j < Q.length), (lsts Q)[j]? = some (Q[j]).data.toList := fun j h => by simp [lsts, h]
  rw [e _ h1]
  simp only [Option.bind_some]
  rw [List.getElem?_eq_getElem (by simpa using h2)]
  rfl

end Go.Proofs.YtkfijjjnidiejaaDoor
