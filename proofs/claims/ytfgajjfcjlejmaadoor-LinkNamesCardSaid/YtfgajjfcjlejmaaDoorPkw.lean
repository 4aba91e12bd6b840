/-
  A block of fifteen cells: read, written.
-/
import Derived.Test.YtfgajjfcjlejmaaDoorHeap
import Derived.Test.YtfgajjfcjlejmaaDoorKp
namespace Go.Proofs.YtfgajjfcjlejmaaDoor
set_option maxRecDepth 100000
set_option linter.unusedSimpArgs false
open Go Go.RowKit

theorem pk_cells {W : World} {b : Nat} {z0 z1 z2 z3 z4 z5 z6 z7 z8 z9 z10 z11 z12 z13 z14 : Value} {t : TypeId} (h : W.heap[b]? = some (.cells #[z0, z1, z2, z3, z4, z5, z6, z7, z8, z9, z10, z11, z12, z13, z14] t (0, 0))) :
    (W.cell? ⟨b, 0, none⟩ = some z0 ∧ W.cell? ⟨b, 1, none⟩ = some z1 ∧ W.cell? ⟨b, 2, none⟩ = some z2 ∧ W.cell? ⟨b, 3, none⟩ = some z3 ∧ W.cell? ⟨b, 4, none⟩ = some z4 ∧ W.cell? ⟨b, 5, none⟩ = some z5 ∧ W.cell? ⟨b, 6, none⟩ = some z6 ∧ W.cell? ⟨b, 7, none⟩ = some z7 ∧ W.cell? ⟨b, 8, none⟩ = some z8 ∧ W.cell? ⟨b, 9, none⟩ = some z9 ∧ W.cell? ⟨b, 10, none⟩ = some z10 ∧ W.cell? ⟨b, 11, none⟩ = some z11 ∧ W.cell? ⟨b, 12, none⟩ = some z12 ∧ W.cell? ⟨b, 13, none⟩ = some z13 ∧ W.cell? ⟨b, 14, none⟩ = some z14) ∧ ∀ j, W.frozen? ⟨b, j, none⟩ = false :=
  ⟨by refine ⟨?_, ?_, ?_, ?_, ?_, ?_, ?_, ?_, ?_, ?_, ?_, ?_, ?_, ?_, ?_⟩ <;> (rw [blk_cell h]; rfl), fun j => blk_free h j⟩
theorem pk_write {V : World} {b : Nat} {z0 z1 z2 z3 z4 z5 z6 z7 z8 z9 z10 z11 z12 z13 z14 : Value} {t : TypeId} (h : V.heap[b]? = some (.cells #[z0, z1, z2, z3, z4, z5, z6, z7, z8, z9, z10, z11, z12, z13, z14] t (0, 0))) (u6 u7 u8 u9 u10 u11 u12 u13 u14 : Value) :
    ((((((((((V.setCell ⟨b, 6, none⟩ u6).setCell ⟨b, 7, none⟩ u7).setCell ⟨b, 8, none⟩ u8).setCell ⟨b, 9, none⟩ u9).setCell ⟨b, 10, none⟩ u10).setCell ⟨b, 11, none⟩ u11).setCell ⟨b, 12, none⟩ u12).setCell ⟨b, 13, none⟩ u13).setCell ⟨b, 14, none⟩ u14).heap[b]? = some (.cells #[z0, z1, z2, z3, z4, z5, u6, u7, u8, u9, u10, u11, u12, u13, u14] t (0, 0))) ∧
    Kept (fun k => k = b) V (((((((((V.setCell ⟨b, 6, none⟩ u6).setCell ⟨b, 7, none⟩ u7).setCell ⟨b, 8, none⟩ u8).setCell ⟨b, 9, none⟩ u9).setCell ⟨b, 10, none⟩ u10).setCell ⟨b, 11, none⟩ u11).setCell ⟨b, 12, none⟩ u12).setCell ⟨b, 13, none⟩ u13).setCell ⟨b, 14, none⟩ u14) := by
  constructor
  · have h6 := blk_set h 6 u6
    have h7 := blk_set h6 7 u7
    have h8 := blk_set h7 8 u8
    have h9 := blk_set h8 9 u9
    have h10 := blk_set h9 10 u10
    have h11 := blk_set h10 11 u11
    have h12 := blk_set h11 12 u12
    have h13 := blk_set h12 13 u13
    have h14 := blk_set h13 14 u14
    simpa using h14
  · have k0 := Kept.refl (fun k => k = b) V
    have k6 := k0.setCell (p := ⟨b, 6, none⟩) (.inl rfl) u6
    have k7 := k6.setCell (p := ⟨b, 7, none⟩) (.inl rfl) u7
    have k8 := k7.setCell (p := ⟨b, 8, none⟩) (.inl rfl) u8
    have k9 := k8.setCell (p := ⟨b, 9, none⟩) (.inl rfl) u9
    have k10 := k9.setCell (p := ⟨b, 10, none⟩) (.inl rfl) u10
    have k11 := k10.setCell (p := ⟨b, 11, none⟩) (.inl rfl) u11
    have k12 := k11.setCell (p := ⟨b, 12, none⟩) (.inl rfl) u12
    have k13 := k12.setCell (p := ⟨b, 13, none⟩) (.inl rfl) u13
    exact k13.setCell (p := ⟨b, 14, none⟩) (.inl rfl) u14
theorem pk_all {V : World} {b : Nat} {z0 z1 z2 z3 z4 z5 z6 z7 z8 z9 z10 z11 z12 z13 z14 : Value} {t : TypeId} (h : V.heap[b]? = some (.cells #[z0, z1, z2, z3, z4, z5, z6, z7, z8, z9, z10, z11, z12, z13, z14] t (0, 0))) (u0 u1 u2 u3 u4 u5 u6 u7 u8 u9 u10 u11 u12 u13 u14 : Value) :
    ((((((((((((((((V.setCell ⟨b, 0, none⟩ u0).setCell ⟨b, 1, none⟩ u1).setCell ⟨b, 2, none⟩ u2).setCell ⟨b, 3, none⟩ u3).setCell ⟨b, 4, none⟩ u4).setCell ⟨b, 5, none⟩ u5).setCell ⟨b, 6, none⟩ u6).setCell ⟨b, 7, none⟩ u7).setCell ⟨b, 8, none⟩ u8).setCell ⟨b, 9, none⟩ u9).setCell ⟨b, 10, none⟩ u10).setCell ⟨b, 11, none⟩ u11).setCell ⟨b, 12, none⟩ u12).setCell ⟨b, 13, none⟩ u13).setCell ⟨b, 14, none⟩ u14)).heap[b]? = some (.cells #[u0, u1, u2, u3, u4, u5, u6, u7, u8, u9, u10, u11, u12, u13, u14] t (0, 0)) ∧ Kept (fun k => k = b) V (((((((((((((((V.setCell ⟨b, 0, none⟩ u0).setCell ⟨b, 1, none⟩ u1).setCell ⟨b, 2, none⟩ u2).setCell ⟨b, 3, none⟩ u3).setCell ⟨b, 4, none⟩ u4).setCell ⟨b, 5, none⟩ u5).setCell ⟨b, 6, none⟩ u6).setCell ⟨b, 7, none⟩ u7).setCell ⟨b, 8, none⟩ u8).setCell ⟨b, 9, none⟩ u9).setCell ⟨b, 10, none⟩ u10).setCell ⟨b, 11, none⟩ u11).setCell ⟨b, 12, none⟩ u12).setCell ⟨b, 13, none⟩ u13).setCell ⟨b, 14, none⟩ u14) := by
  constructor
  · have h0 := blk_set h 0 u0
    have h1 := blk_set h0 1 u1
    have h2 := blk_set h1 2 u2
    have h3 := blk_set h2 3 u3
    have h4 := blk_set h3 4 u4
    have h5 := blk_set h4 5 u5
    have h6 := blk_set h5 6 u6
    have h7 := blk_set h6 7 u7
    have h8 := blk_set h7 8 u8
    have h9 := blk_set h8 9 u9
    have h10 := blk_set h9 10 u10
    have h11 := blk_set h10 11 u11
    have h12 := blk_set h11 12 u12
    have h13 := blk_set h12 13 u13
    have h14 := blk_set h13 14 u14
    simpa using h14
  · have k0 := (Kept.refl (fun k => k = b) V).setCell (p := ⟨b, 0, none⟩) (.inl rfl) u0
    have k1 := k0.setCell (p := ⟨b, 1, none⟩) (.inl rfl) u1
    have k2 := k1.setCell (p := ⟨b, 2, none⟩) (.inl rfl) u2
    have k3 := k2.setCell (p := ⟨b, 3, none⟩) (.inl rfl) u3
    have k4 := k3.setCell (p := ⟨b, 4, none⟩) (.inl rfl) u4
    have k5 := k4.setCell (p := ⟨b, 5, none⟩) (.inl rfl) u5
    have k6 := k5.setCell (p := ⟨b, 6, none⟩) (.inl rfl) u6
    have k7 := k6.setCell (p := ⟨b, 7, none⟩) (.inl rfl) u7
    have k8 := k7.setCell (p := ⟨b, 8, none⟩) (.inl rfl) u8
    have k9 := k8.setCell (p := ⟨b, 9, none⟩) (.inl rfl) u9
    have k10 := k9.setCell (p := ⟨b, 10, none⟩) (.inl rfl) u10
    have k11 := k10.setCell (p := ⟨b, 11, none⟩) (.inl rfl) u11
    have k12 := k11.setCell (p := ⟨b, 12, none⟩) (.inl rfl) u12
    have k13 := k12.setCell (p := ⟨b, 13, none⟩) (.inl rfl) u13
    exact k13.setCell (p := ⟨b, 14, none⟩) (.inl rfl) u14
end Go.Proofs.YtfgajjfcjlejmaaDoor
