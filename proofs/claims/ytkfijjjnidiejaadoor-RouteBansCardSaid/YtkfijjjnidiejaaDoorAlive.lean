/-
  The walk of the laws' own example.
-/
import Derived.Test.YtkfijjjnidiejaaDoorGBm
namespace Go.Proofs.YtkfijjjnidiejaaDoor
set_option maxRecDepth 100000
set_option linter.unusedSimpArgs false
open Go.RowKit

/-- The example's map. -/
def exL : List (List UInt8) := [[46, 46, 62], [35, 46, 118]]
def exM : List UInt8 := [46, 46, 62, 35, 46, 118]
theorem ex_verdict (s : ByteArray) (hs : s.data.toList = [46, 46, 62, 10, 35, 46, 118, 10]) : Pure.verdict s.data.toList = .good exL := by rw [hs]; rfl
theorem ex_good : Pure.Good exL := (Pure.good_of (s := [46, 46, 62, 10, 35, 46, 118, 10]) rfl).1
theorem ex_eds : eds 2 3 exM exM.length = 6 := by decide +kernel
theorem ex_frees : frees exM = [0, 1, 2, 4, 5] := by decide +kernel
theorem ex_next1 : nextZ 2 3 exM 1 = [0, 2, 4] := by decide +kernel
theorem ex_next2 : nextZ 2 3 exM 2 = [] := by decide +kernel
theorem ex_back4 : backZ 2 3 exM 4 = [1] := by decide +kernel

theorem same5 {w : World} {u : Value} (h : Lst w u [0, 1, 2, 4, 5]) : Calls Tryd.prog 13 #[u, .slice (some ⟨w.heap.size, 0, none⟩) 5 5] (w.alloc (.cells #[.int .i64 0, .int .i64 1, .int .i64 2, .int .i64 4, .int .i64 5] 3)) fun e w' => e = .returned (.bool true) ∧ Below w.heap.size w w' :=
  same_new h (by decide) rfl rfl
theorem same3 {w : World} {u : Value} (h : Lst w u [0, 2, 4]) : Calls Tryd.prog 13 #[u, .slice (some ⟨w.heap.size, 0, none⟩) 3 3] (w.alloc (.cells #[.int .i64 0, .int .i64 2, .int .i64 4] 3)) fun e w' => e = .returned (.bool true) ∧ Below w.heap.size w w' :=
  same_new h (by decide) rfl rfl
theorem same1 {w : World} {u : Value} (h : Lst w u [1]) : Calls Tryd.prog 13 #[u, .slice (some ⟨w.heap.size, 0, none⟩) 1 1] (w.alloc (.cells #[.int .i64 1] 3)) fun e w' => e = .returned (.bool true) ∧ Below w.heap.size w w' :=
  same_new h (by decide) rfl rfl

end Go.Proofs.YtkfijjjnidiejaaDoor
