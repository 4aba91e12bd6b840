/-
  The library's functions slices.BinarySearch and slices.Insert at this program: the tables of numbers, and each fact by the program's own equations or the kernel's comparison. After them: their contracts.
-/
import Derived.Test.YtdhpphkkpjldfaaRows
import Derived.Shelf.Slices.SearchI
import Derived.Shelf.Spec.SlicesInsert
import Derived.Shelf.Spec.SlicesInsertGrow
namespace Go.Proofs.Ytdhpphkkpjldfaa
set_option maxRecDepth 100000
open Go Go.Shelf

def laySearch_ren : Go.Shelf.Ren := ⟨fun | 25 => 31 | 31 => 42 | 32 => 43 | 37 => 52 | n => n, fun | 22 => 34 | 3 => 3 | 4 => 4 | 40 => 68 | 0 => 0 | n => n, fun | n => n⟩
theorem laySearch : Go.Proofs.Lays2.n25 Try.prog laySearch_ren := {
  mixed := by kernel_rfl,
  f25 := Try.func31.trans (congrArg some (by kernel_rfl)),
  f31 := Try.func42.trans (congrArg some (by kernel_rfl)),
  f32 := Try.func43.trans (congrArg some (by kernel_rfl)),
  f37 := Try.func52.trans (congrArg some (by kernel_rfl)),
  t0 := Try.underlying0,
  a0 := Try.isAgg0,
  z0 := Try.sizeOf0,
  v0 := Try.zeroValue0,
  t3 := Try.underlying3,
  a3 := Try.isAgg3,
  z3 := Try.sizeOf3,
  v3 := Try.zeroValue3,
  t4 := Try.underlying4,
  a4 := Try.isAgg4,
  z4 := Try.sizeOf4,
  v4 := Try.zeroValue4,
  t22 := Try.underlying34,
  a22 := Try.isAgg34,
  z22 := Try.sizeOf34,
  v22 := Try.zeroValue34,
  t40 := Try.underlying68,
  a40 := Try.isAgg68,
  z40 := Try.sizeOf68,
  v40 := Try.zeroValue68 }

def layInsert_ren : Go.Shelf.Ren := ⟨fun | 21 => 32 | 27 => 44 | 28 => 45 | 35 => 53 | 39 => 66 | n => n, fun | 22 => 34 | 3 => 3 | 4 => 4 | 0 => 0 | n => n, fun | n => n⟩
theorem layInsert : Go.Proofs.Lays2.n21 Try.prog layInsert_ren := {
  mixed := by kernel_rfl,
  f21 := Try.func32.trans (congrArg some (by kernel_rfl)),
  f27 := Try.func44.trans (congrArg some (by kernel_rfl)),
  f28 := Try.func45.trans (congrArg some (by kernel_rfl)),
  f35 := Try.func53.trans (congrArg some (by kernel_rfl)),
  f39 := Try.func66.trans (congrArg some (by kernel_rfl)),
  t0 := Try.underlying0,
  a0 := Try.isAgg0,
  z0 := Try.sizeOf0,
  v0 := Try.zeroValue0,
  t3 := Try.underlying3,
  a3 := Try.isAgg3,
  z3 := Try.sizeOf3,
  v3 := Try.zeroValue3,
  t4 := Try.underlying4,
  a4 := Try.isAgg4,
  z4 := Try.sizeOf4,
  v4 := Try.zeroValue4,
  t22 := Try.underlying34,
  a22 := Try.isAgg34,
  z22 := Try.sizeOf34,
  v22 := Try.zeroValue34,
  i3 := by kernel_rfl }

end Go.Proofs.Ytdhpphkkpjldfaa
