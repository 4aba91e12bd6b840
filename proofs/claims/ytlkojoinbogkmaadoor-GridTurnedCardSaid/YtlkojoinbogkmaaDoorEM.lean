/-
  A map whose edges have been found, or not yet: what sync.Once.Do makes of it.
-/
import Derived.Test.YtlkojoinbogkmaaDoorLoop
import Derived.Test.YtlkojoinbogkmaaDoorOnce
import Derived.Test.YtlkojoinbogkmaaDoorSl
import Derived.Test.YtlkojoinbogkmaaDoorW6
namespace Go.Proofs.YtlkojoinbogkmaaDoor
set_option maxRecDepth 100000
open Go.RowKit

/-- The tables lie there. -/
structure Done (b R C : Nat) (ms : List UInt8) (w : World) : Prop where
  c3 : w.cell? ⟨b, 3, none⟩ = some (.int .u32 1)
  cnt : w.cell? ⟨b, 8, none⟩ = some (.int .i64 (eds R C ms ms.length : Int))
  tables : ∃ B gn gb T, Mem B gn gb ms.length [gn, gb] (tabs R C ms.length ms ms.length) T w ∧ w.cell? ⟨b, 6, none⟩ = some (.slice (some ⟨gn, 0, none⟩) ms.length ms.length) ∧
    w.cell? ⟨b, 7, none⟩ = some (.slice (some ⟨gb, 0, none⟩) ms.length ms.length)

structure EM (b g cap R C : Nat) (ms : List UInt8) (w : World) : Prop where
  ways : Ways w
  wb : 0 ≠ b
  gb : g ≠ b
  hC : 1 ≤ C
  hC2 : C ≤ 32
  hR : R ≤ 32
  hN : R * C = ms.length
  mark : ∀ u, u < ms.length → w.cell? ⟨g, u, none⟩ = some (.int .u8 ((ms.getD u 0).toNat : Int))
  c0 : w.cell? ⟨b, 0, none⟩ = some (.int .i64 (R : Int))
  c1 : w.cell? ⟨b, 1, none⟩ = some (.int .i64 (C : Int))
  c2 : w.cell? ⟨b, 2, none⟩ = some (.slice (some ⟨g, 0, none⟩) ms.length cap)
  st : w.heap[b]? = some (.cells (cellsE R C (.slice (some ⟨g, 0, none⟩) ms.length cap) 0 0 (.slice none 0 0) (.slice none 0 0) 0) 57 (0, 0)) ∨ Done b R C ms w

theorem Done.grown {b R C : Nat} {ms : List UInt8} {w w' : World} {row : Option Nat} (h : Done b R C ms w) (hg : w.grownBy w' row) (hr : ∀ r, row = some r → ∃ o : Obj, w.heap[r]? = some o ∧ o.isCells = false) : Done b R C ms w' := by
  have hb : some b ≠ row := fun e => by
    obtain ⟨o, ho, hc⟩ := hr _ e.symm
    rw [cells_of_cell h.c3 ho] at hc; cases hc
  obtain ⟨B, gn, gb, T, hT, h6, h7⟩ := h.tables
  exact ⟨hg.cell h.c3 hb, hg.cell h.cnt hb, B, gn, gb, T, hT.others hg hr, hg.cell h6 hb, hg.cell h7 hb⟩

theorem grown_of_below {w w' : World} (h : Below w.heap.size w w') (row : Option Nat) : w.grownBy w' row := ⟨h.os, h.tape, h.output, h.size, fun k hk _ => h.block k hk⟩
theorem grown_trans {a b c : World} {row : Option Nat} (h : a.grownBy b row) (k : b.grownBy c row) : a.grownBy c row :=
  ⟨k.os.trans h.os, k.tape.trans h.tape, k.output.trans h.output, Nat.le_trans h.size k.size, fun i hi hne => (k.block i (Nat.lt_of_lt_of_le hi h.size) hne).trans (h.block i hi hne)⟩
theorem grown_set (w : World) (b j : Nat) (v : Value) : w.grownBy (w.setCell ⟨b, j, none⟩ v) (some b) :=
  ⟨rfl, rfl, rfl, by simp, fun k _ hk => Below.heap_setCell _ _ _ k (fun e => hk (by rw [e]))⟩

theorem EM.grown {b g cap R C : Nat} {ms : List UInt8} {w w' : World} (h : EM b g cap R C ms w) (hg : w.grownBy w' none) : EM b g cap R C ms w' where
  ways j u hj := hg.cell (h.ways j u hj) (by simp)
  wb := h.wb
  gb := h.gb
  hC := h.hC
  hC2 := h.hC2
  hR := h.hR
  hN := h.hN
  mark u hu := hg.cell (h.mark u hu) (by simp)
  c0 := hg.cell h.c0 (by simp)
  c1 := hg.cell h.c1 (by simp)
  c2 := hg.cell h.c2 (by simp)
  st := h.st.imp (fun h => (hg.block b (blk_lt h) (by simp)).trans h) (fun h => h.grown hg (by intro r e; cases e))

theorem EM.below {b g cap R C : Nat} {ms : List UInt8} {w w' : World} (h : EM b g cap R C ms w) (hb : Below w.heap.size w w') : EM b g cap R C ms w' := h.grown (grown_of_below hb none)

/-- Only the block b of the map turns. -/
theorem EM.turned {b g cap R C : Nat} {ms : List UInt8} {w w' : World} (h : EM b g cap R C ms w) (hg : w.grownBy w' (some b)) (h0 : w'.cell? ⟨b, 0, none⟩ = some (.int .i64 (R : Int))) (h1 : w'.cell? ⟨b, 1, none⟩ = some (.int .i64 (C : Int)))
    (h2 : w'.cell? ⟨b, 2, none⟩ = some (.slice (some ⟨g, 0, none⟩) ms.length cap)) (hd : Done b R C ms w') : EM b g cap R C ms w' where
  ways j u hj := hg.cell (h.ways j u hj) (fun e => h.wb (by injection e))
  wb := h.wb
  gb := h.gb
  hC := h.hC
  hC2 := h.hC2
  hR := h.hR
  hN := h.hN
  mark u hu := hg.cell (h.mark u hu) (fun e => h.gb (by injection e))
  c0 := h0
  c1 := h1
  c2 := h2
  st := .inr hd

theorem World.drew_grown (w : World) (row : Option Nat) : w.grownBy w.drew row := ⟨rfl, rfl, rfl, Nat.le_refl _, fun _ _ _ => rfl⟩

set_option maxHeartbeats 1600000 in
theorem do_any {b g cap R C : Nat} {ms : List UInt8} {w : World} (h : EM b g cap R C ms w) :
    Calls Tryd.prog 31 #[.pointer (some ⟨b, 3, none⟩), .func (.func 32) #[.pointer (some ⟨b, 0, none⟩)] #[]] w fun e w' => e = .returned (.tuple #[]) ∧ EM b g cap R C ms w' ∧ Done b R C ms w' ∧ w.grownBy w' (some b) ∧ (Done b R C ms w → w' = w) := by
  rcases h.st with hb | hd
  · have e0 : w.cell? ⟨b, 3, none⟩ = some (.int .u32 0) := by rw [blk_cell hb]; rfl
    have e1 : w.cell? ⟨b, 4, none⟩ = some (.int .i32 0) := by rw [blk_cell hb]; rfl
    have hg1 := grown_set w b 4 (.int .i32 1)
    have hb1 : (w.setCell ⟨b, 4, none⟩ (.int .i32 1)).heap[b]? = some (.cells (cellsE R C (.slice (some ⟨g, 0, none⟩) ms.length cap) 0 1 (.slice none 0 0) (.slice none 0 0) 0) 57 (0, 0)) := by
      rw [blk_set hb]; rfl
    have hf := find_any b g cap R C ms (w.setCell ⟨b, 4, none⟩ (.int .i32 1)) h.hC h.hC2 h.hR h.hN (fun j u hj => hg1.cell (h.ways j u hj) (fun e => h.wb (by injection e))) h.wb h.gb (fun u hu => hg1.cell (h.mark u hu) (fun e => h.gb (by injection e))) hb1
    refine (do_first b (fun W => Found b R C ms (w.setCell ⟨b, 4, none⟩ (.int .i32 1)) W) w e0 e1 (blk_free hb 4) (hf.mono ?_)).mono ?_
    · rintro e W ⟨he, hF⟩
      exact ⟨he, hF, hF.low 3 (by omega) _ (by rw [blk_cell hb1]; rfl), hF.free 3, hF.low 4 (by omega) _ (by rw [blk_cell hb1]; rfl), hF.free 4⟩
    · rintro e w' ⟨W, hF, rfl, rfl⟩
      have k1 := grown_set W.drew b 3 (.int .u32 1)
      have k2 := grown_set (W.drew.setCell ⟨b, 3, none⟩ (.int .u32 1)) b 4 (.int .i32 0)
      have kW : W.grownBy ((W.drew.setCell ⟨b, 3, none⟩ (.int .u32 1)).setCell ⟨b, 4, none⟩ (.int .i32 0)) (some b) := grown_trans (grown_trans (World.drew_grown W _) k1) k2
      have hg : w.grownBy ((W.drew.setCell ⟨b, 3, none⟩ (.int .u32 1)).setCell ⟨b, 4, none⟩ (.int .i32 0)) (some b) := grown_trans (grown_trans hg1 hF.grown) kW
      have hc : ∀ j, j ≠ 3 → j ≠ 4 → ∀ v, W.cell? ⟨b, j, none⟩ = some v → ((W.drew.setCell ⟨b, 3, none⟩ (.int .u32 1)).setCell ⟨b, 4, none⟩ (.int .i32 0)).cell? ⟨b, j, none⟩ = some v := by
        intro j h3 h4 v hv
        rw [World.cell?_setCell_other _ ⟨b, 4, none⟩ ⟨b, j, none⟩ _ (by intro e; apply h4; cases e; rfl), World.cell?_setCell_other _ ⟨b, 3, none⟩ ⟨b, j, none⟩ _ (by intro e; apply h3; cases e; rfl), World.cell?_drew]
        exact hv
      have hd : Done b R C ms ((W.drew.setCell ⟨b, 3, none⟩ (.int .u32 1)).setCell ⟨b, 4, none⟩ (.int .i32 0)) := by
        obtain ⟨gn, gb, T, hT, h6, h7, l1, l2⟩ := hF.tables
        have hbw : b < w.heap.size := blk_lt hb
        have hs : (w.setCell ⟨b, 4, none⟩ (.int .i32 1)).heap.size = w.heap.size := by simp
        refine ⟨?_, hc 8 (by omega) (by omega) _ hF.cnt, _, gn, gb, T, hT.kept kW ?_ ?_ ?_, hc 6 (by omega) (by omega) _ h6, hc 7 (by omega) (by omega) _ h7⟩
        · rw [World.cell?_setCell_other _ ⟨b, 4, none⟩ ⟨b, 3, none⟩ _ (by simp)]
          exact World.cell?_setCell_same _ _ _ ((World.cell?_drew _ _).trans (hF.low 3 (by omega) _ (by rw [blk_cell hb1]; rfl)))
        · intro e; injection e with e; omega
        · intro e; injection e with e; omega
        · intro j hj
          right
          intro e
          have := ((hT.own j hj).lt b e).1
          omega
      exact ⟨rfl, h.turned hg (hc 0 (by omega) (by omega) _ (hF.low 0 (by omega) _ (by rw [blk_cell hb1]; rfl))) (hc 1 (by omega) (by omega) _ (hF.low 1 (by omega) _ (by rw [blk_cell hb1]; rfl))) (hc 2 (by omega) (by omega) _ (hF.low 2 (by omega) _ (by rw [blk_cell hb1]; rfl))) hd, hd, hg, fun h' => by have := h'.c3; rw [e0] at this; cases this⟩
  · refine (do_done b _ w hd.c3).mono ?_
    rintro e w' ⟨rfl, rfl⟩
    exact ⟨rfl, h, hd, ⟨rfl, rfl, rfl, Nat.le_refl _, fun _ _ _ => rfl⟩, fun _ => rfl⟩
end Go.Proofs.YtlkojoinbogkmaaDoor
