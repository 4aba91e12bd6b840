/-
  The chapter's map, and what routes there are on it.
-/
import Derived.Test.YtkedjnhidfnlkaaDoorFd
import Derived.Test.YtkedjnhidfnlkaaDoorQ7
import Derived.Test.YtkedjnhidfnlkaaDoorAlive
namespace Go.Proofs.YtkedjnhidfnlkaaDoor
set_option maxRecDepth 100000
set_option linter.unusedSimpArgs false
open Go Go.RowKit Rq

def ringL : List (List UInt8) := [[46, 46, 46], [46, 35, 46], [46, 46, 46]]
def ringM : List UInt8 := [46, 46, 46, 46, 35, 46, 46, 46, 46]
theorem ring_verdict (s : ByteArray) (hs : s.data.toList = [46, 46, 46, 10, 46, 35, 46, 10, 46, 46, 46, 10]) : Pure.verdict s.data.toList = .good ringL := by rw [hs]; rfl
theorem ring_good : Pure.Good ringL := (Pure.good_of (s := [46, 46, 46, 10, 46, 35, 46, 10, 46, 46, 46, 10]) rfl).1
theorem ring_f1 : findZ 3 3 ringM 0 8 [] 99 = ([0, 1, 2, 5, 8], 0) := by decide +kernel
theorem ring_f2 : findZ 3 3 ringM 0 8 [1] 99 = ([0, 3, 6, 7, 8], 0) := by decide +kernel
theorem ring_f3 : findZ 3 3 ringM 0 8 [1, 3] 99 = ([], 40) := by decide +kernel
theorem ring_f4 : findZ 3 3 ringM 0 8 [] 7 = ([], 41) := by decide +kernel
theorem ring_f5 : findZ 3 3 ringM 0 4 [] 99 = ([], 2) := by decide +kernel
theorem ring_f6 : findZ 3 3 ringM 0 0 [0] 99 = ([0], 0) := by decide +kernel
theorem ring_d1 : distZ 3 3 ringM 0 8 [] = (4, 0) := by decide +kernel
theorem ring_d2 : distZ 3 3 ringM 0 8 [8] = (0, 40) := by decide +kernel
theorem ring_l1 : looksZ 3 3 ringM 0 8 [] = (8, 0) := by decide +kernel
theorem ring_c1 : checkZ 3 3 ringM [0, 1, 4] [] = 2 := by decide +kernel
theorem ring_c2 : checkZ 3 3 ringM [0, 1, 2] [2] = 40 := by decide +kernel
theorem ring_c3 : checkZ 3 3 ringM [] [] = 2 := by decide +kernel
end Go.Proofs.YtkedjnhidfnlkaaDoor
