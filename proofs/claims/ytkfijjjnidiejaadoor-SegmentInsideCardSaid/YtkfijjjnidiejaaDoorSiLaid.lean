/-
  What the row's condition on the listed variable gives: the table of the ways lies in memory.
-/
import Derived.Test.YtkfijjjnidiejaaDoorSides
import Derived.ProofKit
import Derived.LaidMore
import Derived.OpenShut
import Derived.Stop.Joined
namespace Go.Proofs.YtkfijjjnidiejaaDoor
set_option maxRecDepth 100000
open Go.ChangeShapes Go.WideShapes Go.ChangeAt Go.RowKit

abbrev laid1 : List (String × DataW Unit) := Rows.segmentInsideRow.laid
def waysName : String := Rows.segmentInsideRow.named.headD ""
theorem gWays : Tryd.prog.globalNamed waysName = some 0 := by kernel_rfl
theorem tWays : (Tryd.prog.globals[0]?).map (·.type) = some 122 := by kernel_rfl

theorem way_of {H : Type} {enc : TypeId × Value → H} {w : World} {base : Nat} {spare : Nat → Bool} {held : Bool} {m : Nat} {c0 c1 c2 c3 : Value} {x : DataW H × List MemPlace}
    (h : DataW.trod enc Tryd.prog w base spare held m 106 [c0, c1, c2, c3] = some x) :
    ∃ a b c d, c0 = .int .u8 a ∧ c1 = .int .u8 b ∧ c2 = .int .i64 c ∧ c3 = .int .i64 d ∧ x.1 = .agg [.lit (.int .u8 a), .lit (.int .u8 b), .lit (.int .i64 c), .lit (.int .i64 d)] := by
  obtain ⟨xs, n, _, rfl, hl, hlen, hf⟩ := DataW.trod_struct Tryd.underlying106 h
  match xs, hlen with
  | [y0, y1, y2, y3], _ =>
    have c8 : Tryd.prog.cellsOf 5 = 1 := by kernel_rfl
    have c64 : Tryd.prog.cellsOf 3 = 1 := by kernel_rfl
    have h0 := hf 0 _ rfl
    have h1 := hf 1 _ rfl
    have h2 := hf 2 _ rfl
    have h3 := hf 3 _ rfl
    obtain ⟨a, e0, f0, _⟩ := DataW.trod_int (x := y0) Tryd.underlying5 h0
    obtain ⟨b, e1, f1, _⟩ := DataW.trod_int (x := y1) Tryd.underlying5 h1
    obtain ⟨c, e2, f2, _⟩ := DataW.trod_int (x := y2) Tryd.underlying3 h2
    obtain ⟨d, e3, f3, _⟩ := DataW.trod_int (x := y3) Tryd.underlying3 h3
    refine ⟨a, b, c, d, by simpa [c8] using e0, by simpa [c8] using e1, by simpa [c64] using e2, by simpa [c64] using e3, ?_⟩
    rw [f0, f1, f2, f3]
    rfl

theorem of_laid {W : World} (h : laidMetH Tryd.prog laid1 W) : Ways W := by
  rw [MakeChecks.laidMetH_plain _ _ _ (by kernel_rfl)] at h
  obtain ⟨ps, ⟨g0, t0, cs0, f0, p0, q0, hg0, ht0, hv0, hd0, _, _⟩, _, _⟩ := h
  obtain rfl := Option.some.inj (gWays.symm.trans hg0)
  obtain rfl := Option.some.inj (tWays.symm.trans ht0)
  obtain ⟨xs, m1, rfl, hx1, hlen, hn, hel⟩ := DataW.trod_array Tryd.underlying122 hd0
  have c4 : Tryd.prog.cellsOf 106 = 4 := by kernel_rfl
  have c16 : Tryd.prog.cellsOf 122 = 16 := by kernel_rfl
  obtain ⟨l⟩ := cs0
  have hcell := World.var?_cell hg0 hv0
  rw [c16] at hlen
  match l, hlen with
  | [b0, b1, b2, b3, b4, b5, b6, b7, b8, b9, b10, b11, b12, b13, b14, b15], _ =>
    match xs, hn with
    | [x0, x1, x2, x3], _ =>
      have h0 := hel 0 (by decide)
      have h1 := hel 1 (by decide)
      have h2 := hel 2 (by decide)
      have h3 := hel 3 (by decide)
      rw [c4] at h0 h1 h2 h3
      obtain ⟨k0, k1, k2, k3, e0, e1, e2, e3, r0⟩ := way_of (x := x0) (c0 := b0) (c1 := b1) (c2 := b2) (c3 := b3) h0
      obtain ⟨k4, k5, k6, k7, e4, e5, e6, e7, r1⟩ := way_of (x := x1) (c0 := b4) (c1 := b5) (c2 := b6) (c3 := b7) h1
      obtain ⟨k8, k9, k10, k11, e8, e9, e10, e11, r2⟩ := way_of (x := x2) (c0 := b8) (c1 := b9) (c2 := b10) (c3 := b11) h2
      obtain ⟨k12, k13, k14, k15, e12, e13, e14, e15, r3⟩ := way_of (x := x3) (c0 := b12) (c1 := b13) (c2 := b14) (c3 := b15) h3
      have hd := congrArg Prod.fst hx1
      simp only [Rows.laid_wagonway_grid_ways, List.map_cons, List.map_nil, r0, r1, r2, r3, DataW.agg.injEq, List.cons.injEq, DataW.lit.injEq, Lit.int.injEq, true_and, and_true] at hd
      obtain ⟨⟨v0, v1, v2, v3⟩, ⟨v4, v5, v6, v7⟩, ⟨v8, v9, v10, v11⟩, v12, v13, v14, v15⟩ := hd
      intro j u hj
      rw [hcell j]
      subst e0 e1 e2 e3 e4 e5 e6 e7 e8 e9 e10 e11 e12 e13 e14 e15
      rw [← v0, ← v1, ← v2, ← v3, ← v4, ← v5, ← v6, ← v7, ← v8, ← v9, ← v10, ← v11, ← v12, ← v13, ← v14, ← v15]
      simpa [waysL] using hj
end Go.Proofs.YtkfijjjnidiejaaDoor
