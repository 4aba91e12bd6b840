/-
  findEdges: the iterator of the sides as a range over it wants it.
-/
import Derived.Test.YtlkojoinbogkmaaDoorFind
import Derived.Test.YtlkojoinbogkmaaDoorMem
import Derived.RangeFuncNested
namespace Go.Proofs.YtlkojoinbogkmaaDoor
set_option maxRecDepth 100000
open Go Go.RowKit

theorem sides_stops (n : Nat) (hn : 1 ≤ n) (B1 B2 b : Nat) (R C a : Nat) (hC : 1 ≤ C) (hC2 : C ≤ 32) (hR : R ≤ 32) (ha : a < R * C)
    (w : World) (hw : Ways w) (h1 : w.cell? ⟨B1, 0, none⟩ = some (.int .i64 (a : Int))) (h2 : w.cell? ⟨B2, 0, none⟩ = some (.pointer (some ⟨b, 0, none⟩)))
    (hr : w.cell? ⟨b, 0, none⟩ = some (.int .i64 (R : Int))) (hc : w.cell? ⟨b, 1, none⟩ = some (.int .i64 (C : Int))) :
    SeqStopsK Fence.wide n Tryd.prog 55 #[.pointer (some ⟨B1, 0, none⟩), .pointer (some ⟨B2, 0, none⟩)] (fun x : Side R C a => #[.int .i64 (x.1.1 : Int), wayV x.1.2])
      (KeepsSide b B1 B2) (fun xs => xs.map (·.1) = sidesK R C a 4) (fun _ => True) 4 w := by
  intro l J Jx W hB hJ _ hY h0
  have hk : ∀ (p : Addr) (v : Value), w.cell? p = some v → W.cell? p = some v := fun p v h => (World.cell?_of_block (hB.block _ (World.block_lt_of_cell? w p h))).trans h
  exact sides1_in n hn l B1 B2 b R C a hC hC2 hR ha W (fun j u hj => hk _ _ (hw j u hj)) (hk _ _ h1) (hk _ _ h2) (hk _ _ hr) (hk _ _ hc) J Jx hJ hY h0

theorem keepsSide_putObj (b B1 B2 : Nat) (W : World) (l : Nat) (o o' : Obj) (ho : W.heap[l]? = some o) (hc : o.isCells = false) : KeepsSide b B1 B2 W (W.putObj l o') := by
  intro p v _ hv
  have hne : p.block ≠ l := by
    intro e
    rw [cells_of_cell hv (e ▸ ho)] at hc
    cases hc
  exact (World.cell?_of_block (World.putObj_heap_other hne)).trans hv
end Go.Proofs.YtlkojoinbogkmaaDoor
