/-
  The walk of the document's Edge.
-/
import Derived.Test.YtkfijjjnidiejaaDoorRf
namespace Go.Proofs.YtkfijjjnidiejaaDoor
set_option maxRecDepth 100000
set_option linter.unusedSimpArgs false
open Go.RowKit

/-- Which way leads from cell a to the cell x beside it. -/
def dirK (C : Nat) (a x : Int) : Nat := if x = a - 1 ∧ x.toNat / C = a.toNat / C then 1 else if x.toNat / C < a.toNat / C then 0 else if a.toNat / C < x.toNat / C then 3 else 2
def edgeB (C : Nat) (ms : List UInt8) (a x : Int) : Bool :=
  freeB ms a && freeB ms x && (farZ C ms.length a x == 1) && (((((kindB ms a).toNat : Int) == 46) || (((kindB ms a).toNat : Int) == mkK (dirK C a x))) && (((kindB ms x).toNat : Int) != agK (dirK C a x)))

theorem free_range {ms : List UInt8} {i : Int} (h : freeB ms i = true) : 0 ≤ i ∧ i < (ms.length : Int) := by
  unfold freeB at h
  simp only [Bool.and_eq_true, decide_eq_true_eq] at h
  exact h.1

end Go.Proofs.YtkfijjjnidiejaaDoor
