/-
  The library's functions slices.BinarySearch and slices.Insert at this program: the tables of numbers, and each fact by the program's own equations or the kernel's comparison. After them: their contracts.
-/
import Derived.Test.YtlcadkhhpnaofaaRows
import Derived.Shelf.Slices.SearchI
import Derived.Shelf.Spec.SlicesInsert
import Derived.Shelf.Spec.SlicesInsertGrow
namespace Go.Proofs.Ytlcadkhhpnaofaa
set_option maxRecDepth 100000
open Go Go.Shelf

def laySearch_ren : Go.Shelf.Ren := ⟨fun | 25 => 27 | 31 => 39 | 32 => 40 | 37 => 49 | n => n, fun | 22 => 34 | 3 => 3 | 4 => 4 | 40 => 66 | 0 => 0 | n => n, fun | n => n⟩
theorem laySearch : Go.Proofs.Lays2.n25 Try.prog laySearch_ren := {
  mixed := by kernel_rfl,
  f25 := Try.func27.trans (congrArg some (by kernel_rfl)),
  f31 := Try.func39.trans (congrArg some (by kernel_rfl)),
  f32 := Try.func40.trans (congrArg some (by kernel_rfl)),
  f37 := Try.func49.trans (congrArg some (by kernel_rfl)),
  t0 := Try.underlying0,
  a0 := Try.isAgg0,
  z0 := Try.sizeOf0,
  v0 := Try.zeroValue0,
  t3 := Try.underlying3,
  a3 := Try.isAgg3,
  z3 := Try.sizeOf3,
  v3 := Try.zeroValue3,
  t4 := Try.underlying4,
  a4 := Try.isAgg4,
  z4 := Try.sizeOf4,
  v4 := Try.zeroValue4,
  t22 := Try.underlying34,
  a22 := Try.isAgg34,
  z22 := Try.sizeOf34,
  v22 := Try.zeroValue34,
  t40 := Try.underlying66,
  a40 := Try.isAgg66,
  z40 := Try.sizeOf66,
  v40 := Try.zeroValue66 }

def layInsert_ren : Go.Shelf.Ren := ⟨fun | 21 => 28 | 27 => 41 | 28 => 42 | 35 => 50 | 39 => 63 | n => n, fun | 22 => 34 | 3 => 3 | 4 => 4 | 0 => 0 | n => n, fun | n => n⟩
theorem layInsert : Go.Proofs.Lays2.n21 Try.prog layInsert_ren := {
  mixed := by kernel_rfl,
  f21 := Try.func28.trans (congrArg some (by kernel_rfl)),
  f27 := Try.func41.trans (congrArg some (by kernel_rfl)),
  f28 := Try.func42.trans (congrArg some (by kernel_rfl)),
  f35 := Try.func50.trans (congrArg some (by kernel_rfl)),
  f39 := Try.func63.trans (congrArg some (by kernel_rfl)),
  t0 := Try.underlying0,
  a0 := Try.isAgg0,
  z0 := Try.sizeOf0,
  v0 := Try.zeroValue0,
  t3 := Try.underlying3,
  a3 := Try.isAgg3,
  z3 := Try.sizeOf3,
  v3 := Try.zeroValue3,
  t4 := Try.underlying4,
  a4 := Try.isAgg4,
  z4 := Try.sizeOf4,
  v4 := Try.zeroValue4,
  t22 := Try.underlying34,
  a22 := Try.isAgg34,
  z22 := Try.sizeOf34,
  v22 := Try.zeroValue34,
  i3 := by kernel_rfl }

end Go.Proofs.Ytlcadkhhpnaofaa
