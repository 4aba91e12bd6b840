/-
  The walk of the law GridEdges.
-/
import Derived.Test.YtkedjnhidfnlkaaDoorSt
namespace Go.Proofs.YtkedjnhidfnlkaaDoor
set_option maxRecDepth 100000
set_option linter.unusedSimpArgs false
open Go.RowKit

/-- Where the law stands behind both readings. -/
theorem st_start {w w1 w2 : World} {bm gm cm br gr cr : Nat} {Q : List ByteArray} (hw : Ways w) (hG : Pure.Good (lsts Q)) (hm : MapAt w1 bm gm cm (lsts Q)) (hb1 : Below w.heap.size w w1) (hbm : w.heap.size ≤ bm) (hr : RefAt w2 br gr cr Q) (hb2 : Below w1.heap.size w1 w2) (hbr : w1.heap.size ≤ br) :
    St w bm gm cm br gr cr Q w2 := by
  have hm2 := hm.below hb2 (Nat.le_refl _)
  have hlt := blk_lt hm.blk
  have hgr := (hr.own.lt gr rfl).1
  have hgm := (hm.own.lt gm rfl).1
  have hbel : Below w.heap.size w w2 := hb1.trans (hb2.mono hb1.size)
  have hwl : 0 < w.heap.size := World.block_lt_of_cell? w ⟨0, 0, none⟩ (hw 0 _ rfl)
  refine ⟨?_, hr, hbel, hbm, by omega, by omega, hG⟩
  exact
    { ways := fun j u hj => (hbel.cell (p := ⟨0, j, none⟩) hwl).trans (hw j u hj)
      wb := by omega
      gb := by omega
      hC := hG.lo
      hC2 := hG.hi
      hR := hG.len
      hN := hG.size.symm
      mark := fun u hu => byte_cells hm2.own u hu
      c0 := by rw [blk_cell hm2.blk]; rfl
      c1 := by rw [blk_cell hm2.blk]; rfl
      c2 := by rw [blk_cell hm2.blk]; rfl
      st := .inl hm2.blk }

/-- Between two rounds. -/
def GeRel (w0 : World) (bm gm cm br gr cr : Nat) (Q : List ByteArray) (N : Nat) (n i : Value) (wr : World) : Prop :=
  ∃ k : Nat, k ≤ N + 2 ∧ i = .int .i64 ((k : Int) - 1) ∧ n = .int .i64 (tot (lsts Q).length (Pure.wid (lsts Q)) (lsts Q).flatten k : Int) ∧ St w0 bm gm cm br gr cr Q wr

end Go.Proofs.YtkedjnhidfnlkaaDoor
