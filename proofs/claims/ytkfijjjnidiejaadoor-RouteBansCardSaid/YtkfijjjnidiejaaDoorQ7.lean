/-
  The law RouteAround: its walk.
-/
import Derived.Test.YtkfijjjnidiejaaDoorQ6
import Derived.Test.YtkfijjjnidiejaaDoorGE
namespace Go.Proofs.YtkfijjjnidiejaaDoor
set_option maxRecDepth 100000
open Go Go.RowKit Rq

def wnt (b : Bool) : Int := if b then 0 else 40
theorem checkZ_wnt {R C : Nat} {ms : List UInt8} {path ban : List Int} (h : ¬ (path.length = 0 ∨ freeB ms (path.getD 0 0) = false ∨ freeB ms (path.getD (path.length - 1) 0) = false)) : checkZ R C ms path ban = wnt ((List.range (path.length - 1)).all (stepB R C ms ban path)) := by
  unfold checkZ wnt
  rw [if_neg h]
theorem checkZ_two {R C : Nat} {ms : List UInt8} {path ban : List Int} (h : path.length = 0 ∨ freeB ms (path.getD 0 0) = false ∨ freeB ms (path.getD (path.length - 1) 0) = false) : checkZ R C ms path ban = 2 := by
  unfold checkZ
  rw [if_pos h]

end Go.Proofs.YtkfijjjnidiejaaDoor
