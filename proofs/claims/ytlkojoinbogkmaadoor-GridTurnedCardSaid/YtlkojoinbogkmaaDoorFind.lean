/-
  The walk of findEdges.
-/
import Derived.Test.YtlkojoinbogkmaaDoorSides
import Derived.Test.YtlkojoinbogkmaaDoorW2
import Derived.Laws.MakeOwn
namespace Go.Proofs.YtlkojoinbogkmaaDoor
set_option maxRecDepth 100000
open Go.RowKit
attribute [local go_sem] Oper.semAt_some

/-- 'sides': what it captures. -/
theorem sides_any (b a : Nat) (w : World) :
    Calls Tryd.prog 45 #[.pointer (some ⟨b, 0, none⟩), .int .i64 (a : Int)] w fun e w' => e = .returned (.func (.func 55) #[] #[.pointer (some ⟨w.heap.size + 1, 0, none⟩), .pointer (some ⟨w.heap.size, 0, none⟩)]) ∧
      w' = (w.alloc (.cells #[.pointer (some ⟨b, 0, none⟩)] 22)).alloc (.cells #[.int .i64 (a : Int)] 3) := by
  have hmf : ∀ (fn : Fn) (first cap : Array Value) (w : World), (Instr.makeFunc fn first cap).run Tryd.prog w = .ok (.func fn first cap) w := fun _ _ _ _ => rfl
  go_enter Tryd.func45, Tryd.ntmps45
  go_wp2
  go_ret
  exact ⟨rfl, rfl⟩

/-- May the way k be gone from a cell of mark c into one of mark d? -/
def leavesB (k : Nat) (c : UInt8) : Bool := (((c.toNat : Nat) : Int) == 46) || (((c.toNat : Nat) : Int) == mkK k)
def entersB (k : Nat) (d : UInt8) : Bool := (((d.toNat : Nat) : Int) != 35) && (((d.toNat : Nat) : Int) != agK k)

theorem leaves_any (k : Nat) (c : UInt8) (w : World) :
    Calls Tryd.prog 46 #[wayV k, .int .u8 (c.toNat : Int)] w fun e w' => e = .returned (.bool (leavesB k c)) ∧ ∃ o, w' = w.alloc (.cells o 80) := by
  unfold wayV leavesB
  generalize mkK k = mk
  generalize agK k = ag
  generalize dnK k = dn
  generalize rtK k = rt
  go_enter Tryd.func46, Tryd.ntmps46
  go_wp2
  all_goals
    go_ret
    refine ⟨?_, _, rfl⟩
    simp [*]

theorem enters_any (k : Nat) (c : UInt8) (w : World) :
    Calls Tryd.prog 47 #[wayV k, .int .u8 (c.toNat : Int)] w fun e w' => e = .returned (.bool (entersB k c)) ∧ ∃ o, w' = w.alloc (.cells o 80) := by
  unfold wayV entersB
  generalize mkK k = mk
  generalize agK k = ag
  generalize dnK k = dn
  generalize rtK k = rt
  go_enter Tryd.func47, Tryd.ntmps47
  go_wp2
  all_goals
    go_ret
    refine ⟨?_, _, rfl⟩
    simp [*]

/-- What a map's block holds. -/
def cellsE (R C : Nat) (v : Value) (dn st : Int) (nx bk : Value) (ed : Nat) : Array Value :=
  #[.int .i64 (R : Int), .int .i64 (C : Int), v, .int .u32 dn, .int .i32 st, .int .u32 0, nx, bk, .int .i64 (ed : Int)]

theorem Tryd.infoInts : (Tryd.prog.info? 30).map (fun i => (i.zero, i.size, i.bytes)) = some (some (.slice none 0 0), 1, 24) := by kernel_rfl

theorem makeRows_run (N : Nat) (hN : N ≤ 100000) (w : World) : (Instr.makeSlice 55 (.int .i64 (N : Int)) (.int .i64 (N : Int))).run Tryd.prog w = .ok (.slice (some ⟨w.heap.size, 0, none⟩) N N) (w.alloc (.cells (madeCells #[.slice none 0 0] N) 30)) := by
  obtain ⟨i0, hi, hz0, hz1, hz2⟩ := info_parts Tryd.infoInts
  have := run_make (P := Tryd.prog) w 55 30 i0 (.slice none 0 0) Tryd.underlying55 hi hz0 .i64 .i64 (N : Int) (N : Int) (by omega) (Int.le_refl _) (by rw [hz2]; omega) (by omega)
  simpa [hz1, Value.cells] using this

end Go.Proofs.YtlkojoinbogkmaaDoor
