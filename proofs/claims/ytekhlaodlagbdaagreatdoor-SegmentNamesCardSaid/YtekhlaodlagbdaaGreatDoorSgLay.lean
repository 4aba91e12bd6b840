/-
  The library's functions slices.Compact, slices.Reverse and math/bits.Mul at this program: the tables of numbers, and each fact by the program's own equations or the kernel's comparison. After them: their contracts.
-/
import Derived.Test.YtekhlaodlagbdaaGreatDoorRows
import Derived.Shelf.Slices.CompactI
import Derived.Shelf.Slices.Reverse
import Derived.Shelf.Bits.Mul64
namespace Go.Proofs.YtekhlaodlagbdaaGreatDoor
set_option maxRecDepth 100000
open Go Go.Shelf

def layMul_ren : Go.Shelf.Ren := ⟨fun | 212 => 85 | 263 => 110 | 264 => 111 | n => n, fun | 46 => 124 | 51 => 54 | 146 => 147 | 53 => 149 | 148 => 150 | n => n, fun | n => n⟩
theorem layMul : Go.Proofs.Lays.n212 Tryz.prog layMul_ren := {
  mixed := by kernel_rfl,
  f212 := Tryz.func85.trans (congrArg some (by kernel_rfl)),
  f263 := Tryz.func110.trans (congrArg some (by kernel_rfl)),
  f264 := Tryz.func111.trans (congrArg some (by kernel_rfl)),
  t46 := Tryz.underlying124,
  a46 := Tryz.isAgg124,
  z46 := Tryz.sizeOf124,
  v46 := Tryz.zeroValue124,
  t51 := Tryz.underlying54,
  a51 := Tryz.isAgg54,
  z51 := Tryz.sizeOf54,
  v51 := Tryz.zeroValue54,
  t53 := Tryz.underlying149,
  a53 := Tryz.isAgg149,
  z53 := Tryz.sizeOf149,
  v53 := Tryz.zeroValue149,
  t146 := Tryz.underlying147,
  a146 := Tryz.isAgg147,
  z146 := Tryz.sizeOf147,
  v146 := Tryz.zeroValue147,
  t148 := Tryz.underlying150,
  a148 := Tryz.isAgg150,
  z148 := Tryz.sizeOf150,
  v148 := Tryz.zeroValue150 }

def layCompact_ren : Go.Shelf.Ren := ⟨fun | 20 => 65 | n => n, fun | 22 => 36 | 3 => 3 | 4 => 4 | 0 => 0 | n => n, fun | n => n⟩
theorem layCompact : Go.Proofs.Lays2.n20 Tryz.prog layCompact_ren := {
  mixed := by kernel_rfl,
  f20 := Tryz.func65.trans (congrArg some (by kernel_rfl)),
  t0 := Tryz.underlying0,
  a0 := Tryz.isAgg0,
  z0 := Tryz.sizeOf0,
  v0 := Tryz.zeroValue0,
  t3 := Tryz.underlying3,
  a3 := Tryz.isAgg3,
  z3 := Tryz.sizeOf3,
  v3 := Tryz.zeroValue3,
  t4 := Tryz.underlying4,
  a4 := Tryz.isAgg4,
  z4 := Tryz.sizeOf4,
  v4 := Tryz.zeroValue4,
  t22 := Tryz.underlying36,
  a22 := Tryz.isAgg36,
  z22 := Tryz.sizeOf36,
  v22 := Tryz.zeroValue36,
  i3 := by kernel_rfl }

def layReverse_ren : Go.Shelf.Ren := ⟨fun | 112 => 89 | n => n, fun | 28 => 36 | 3 => 3 | 4 => 4 | 0 => 0 | n => n, fun | n => n⟩
theorem layReverse : Go.Proofs.Lays.n112 Tryz.prog layReverse_ren := {
  mixed := by kernel_rfl,
  f112 := Tryz.func89.trans (congrArg some (by kernel_rfl)),
  t0 := Tryz.underlying0,
  a0 := Tryz.isAgg0,
  z0 := Tryz.sizeOf0,
  v0 := Tryz.zeroValue0,
  t3 := Tryz.underlying3,
  a3 := Tryz.isAgg3,
  z3 := Tryz.sizeOf3,
  v3 := Tryz.zeroValue3,
  t4 := Tryz.underlying4,
  a4 := Tryz.isAgg4,
  z4 := Tryz.sizeOf4,
  v4 := Tryz.zeroValue4,
  t28 := Tryz.underlying36,
  a28 := Tryz.isAgg36,
  z28 := Tryz.sizeOf36,
  v28 := Tryz.zeroValue36 }

end Go.Proofs.YtekhlaodlagbdaaGreatDoor
