/-
  The library's functions slices.Compact, slices.Reverse and math/bits.Mul at this program: the tables of numbers, and each fact by the program's own equations or the kernel's comparison. After them: their contracts.
-/
import Derived.Test.YtkfijjjnidiejaaDoorRows
import Derived.Shelf.Slices.CompactI
import Derived.Shelf.Slices.Reverse
import Derived.Shelf.Bits.Mul64
namespace Go.Proofs.YtkfijjjnidiejaaDoor
set_option maxRecDepth 100000
open Go Go.Shelf

def layMul_ren : Go.Shelf.Ren := ⟨fun | 212 => 68 | 263 => 82 | 264 => 83 | n => n, fun | 46 => 111 | 51 => 50 | 146 => 124 | 53 => 126 | 148 => 127 | n => n, fun | n => n⟩
theorem layMul : Go.Proofs.Lays.n212 Tryd.prog layMul_ren := {
  mixed := by kernel_rfl,
  f212 := Tryd.func68.trans (congrArg some (by kernel_rfl)),
  f263 := Tryd.func82.trans (congrArg some (by kernel_rfl)),
  f264 := Tryd.func83.trans (congrArg some (by kernel_rfl)),
  t46 := Tryd.underlying111,
  a46 := Tryd.isAgg111,
  z46 := Tryd.sizeOf111,
  v46 := Tryd.zeroValue111,
  t51 := Tryd.underlying50,
  a51 := Tryd.isAgg50,
  z51 := Tryd.sizeOf50,
  v51 := Tryd.zeroValue50,
  t53 := Tryd.underlying126,
  a53 := Tryd.isAgg126,
  z53 := Tryd.sizeOf126,
  v53 := Tryd.zeroValue126,
  t146 := Tryd.underlying124,
  a146 := Tryd.isAgg124,
  z146 := Tryd.sizeOf124,
  v146 := Tryd.zeroValue124,
  t148 := Tryd.underlying127,
  a148 := Tryd.isAgg127,
  z148 := Tryd.sizeOf127,
  v148 := Tryd.zeroValue127 }

def layCompact_ren : Go.Shelf.Ren := ⟨fun | 20 => 85 | n => n, fun | 22 => 22 | 3 => 3 | 4 => 4 | 0 => 0 | n => n, fun | n => n⟩
theorem layCompact : Go.Proofs.Lays2.n20 Tryd.prog layCompact_ren := {
  mixed := by kernel_rfl,
  f20 := Tryd.func85.trans (congrArg some (by kernel_rfl)),
  t0 := Tryd.underlying0,
  a0 := Tryd.isAgg0,
  z0 := Tryd.sizeOf0,
  v0 := Tryd.zeroValue0,
  t3 := Tryd.underlying3,
  a3 := Tryd.isAgg3,
  z3 := Tryd.sizeOf3,
  v3 := Tryd.zeroValue3,
  t4 := Tryd.underlying4,
  a4 := Tryd.isAgg4,
  z4 := Tryd.sizeOf4,
  v4 := Tryd.zeroValue4,
  t22 := Tryd.underlying22,
  a22 := Tryd.isAgg22,
  z22 := Tryd.sizeOf22,
  v22 := Tryd.zeroValue22,
  i3 := by kernel_rfl }

def layReverse_ren : Go.Shelf.Ren := ⟨fun | 112 => 72 | n => n, fun | 28 => 22 | 3 => 3 | 4 => 4 | 0 => 0 | n => n, fun | n => n⟩
theorem layReverse : Go.Proofs.Lays.n112 Tryd.prog layReverse_ren := {
  mixed := by kernel_rfl,
  f112 := Tryd.func72.trans (congrArg some (by kernel_rfl)),
  t0 := Tryd.underlying0,
  a0 := Tryd.isAgg0,
  z0 := Tryd.sizeOf0,
  v0 := Tryd.zeroValue0,
  t3 := Tryd.underlying3,
  a3 := Tryd.isAgg3,
  z3 := Tryd.sizeOf3,
  v3 := Tryd.zeroValue3,
  t4 := Tryd.underlying4,
  a4 := Tryd.isAgg4,
  z4 := Tryd.sizeOf4,
  v4 := Tryd.zeroValue4,
  t28 := Tryd.underlying22,
  a28 := Tryd.isAgg22,
  z28 := Tryd.sizeOf22,
  v28 := Tryd.zeroValue22 }

end Go.Proofs.YtkfijjjnidiejaaDoor
