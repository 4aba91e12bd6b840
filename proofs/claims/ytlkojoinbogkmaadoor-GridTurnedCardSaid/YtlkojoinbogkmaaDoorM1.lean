/-
  One map in memory, from call to call; and the law's own example.
-/
import Derived.Test.YtlkojoinbogkmaaDoorSt
namespace Go.Proofs.YtlkojoinbogkmaaDoor
set_option maxRecDepth 100000
set_option linter.unusedSimpArgs false
open Go.RowKit

structure M1 (w0 : World) (bm gm cm R C : Nat) (ms : List UInt8) (w : World) : Prop where
  em : EM bm gm cm R C ms w
  bl : Below w0.heap.size w0 w
  lo : w0.heap.size ≤ bm

section
variable {w0 w w' : World} {bm gm cm R C : Nat} {ms : List UInt8}

theorem M1.below (h : M1 w0 bm gm cm R C ms w) (hb : Below w.heap.size w w') : M1 w0 bm gm cm R C ms w' := ⟨h.em.below hb, h.bl.trans (hb.mono h.bl.size), h.lo⟩
theorem M1.turned (h : M1 w0 bm gm cm R C ms w) (he : EM bm gm cm R C ms w') (hg : w.grownBy w' (some bm)) : M1 w0 bm gm cm R C ms w' :=
  ⟨he, h.bl.grown hg h.bl.size (fun k e => by cases e; exact h.lo), h.lo⟩

theorem m1_start {w w1 : World} {bm gm cm : Nat} {L : List (List UInt8)} (hw : Ways w) (hG : Pure.Good L) (hm : MapAt w1 bm gm cm L) (hb1 : Below w.heap.size w w1) (hbm : w.heap.size ≤ bm) :
    M1 w bm gm cm L.length (Pure.wid L) L.flatten w1 := by
  have hgm := (hm.own.lt gm rfl).1
  have hwl : 0 < w.heap.size := World.block_lt_of_cell? w ⟨0, 0, none⟩ (hw 0 _ rfl)
  refine ⟨?_, hb1, hbm⟩
  exact
    { ways := fun j u hj => (hb1.cell (p := ⟨0, j, none⟩) hwl).trans (hw j u hj)
      wb := by omega
      gb := by omega
      hC := hG.lo
      hC2 := hG.hi
      hR := hG.len
      hN := hG.size.symm
      mark := fun u hu => byte_cells hm.own u hu
      c0 := by rw [blk_cell hm.blk]; rfl
      c1 := by rw [blk_cell hm.blk]; rfl
      c2 := by rw [blk_cell hm.blk]; rfl
      st := .inl hm.blk }

theorem m1_next (i : Int) (h : M1 w0 bm gm cm R C ms w) :
    Calls Tryd.prog 10 #[.pointer (some ⟨bm, 0, none⟩), .int .i64 i] w fun e w' => ∃ a c, e = .returned (.slice a (nextZ R C ms i).length c) ∧ (M1 w0 bm gm cm R C ms w' ∧ Lst w' (.slice a (nextZ R C ms i).length c) (nextZ R C ms i)) := by
  refine (next_any i h.em).mono ?_
  rintro e w' ⟨v, w1, rfl, he, hg, _, _, hown, hb⟩
  obtain ⟨a, c, rfl, hc⟩ := lst_of hown
  exact ⟨a, c, rfl, (h.turned he hg).below hb, a, c, rfl, hc⟩

theorem m1_back (i : Int) (h : M1 w0 bm gm cm R C ms w) :
    Calls Tryd.prog 13 #[.pointer (some ⟨bm, 0, none⟩), .int .i64 i] w fun e w' => ∃ a c, e = .returned (.slice a (backZ R C ms i).length c) ∧ (M1 w0 bm gm cm R C ms w' ∧ Lst w' (.slice a (backZ R C ms i).length c) (backZ R C ms i)) := by
  refine (back_any i h.em).mono ?_
  rintro e w' ⟨v, w1, rfl, he, hg, _, _, hown, hb⟩
  obtain ⟨a, c, rfl, hc⟩ := lst_of hown
  exact ⟨a, c, rfl, (h.turned he hg).below hb, a, c, rfl, hc⟩

theorem m1_edges (h : M1 w0 bm gm cm R C ms w) :
    Calls Tryd.prog 19 #[.pointer (some ⟨bm, 0, none⟩)] w fun e w' => e = .returned (.int .i64 (eds R C ms ms.length : Int)) ∧ M1 w0 bm gm cm R C ms w' := by
  refine (edges_any h.em).mono ?_
  rintro e w' ⟨rfl, he, hg⟩
  exact ⟨rfl, h.turned he hg⟩

theorem m1_all (h : M1 w0 bm gm cm R C ms w) (hm : 0 < ms.length) :
    Calls Tryd.prog 27 #[.pointer (some ⟨bm, 0, none⟩)] w fun e w' => ∃ a c, e = .returned (.slice a (frees ms).length c) ∧ (M1 w0 bm gm cm R C ms w' ∧ Lst w' (.slice a (frees ms).length c) (frees ms)) := by
  have hlen := h.em.len
  refine (all_any bm gm cm ms w (by omega) h.em.lt (World.block_lt_of_cell? w ⟨gm, 0, none⟩ (h.em.mark 0 hm)) h.em.c2 (fun j hj => h.em.mark j hj)).mono ?_
  rintro e w' ⟨a, c, rfl, hown, hb⟩
  exact ⟨a, c, rfl, h.below hb, lst_of hown⟩
end

/-- A list, and one written out in the text. -/
theorem same_new {w : World} {u : Value} {l : List Nat} {n c : Nat} {xs : Array Value} {t : TypeId} (h : Lst w u l) (hn : l.length ≤ 100000) (hx : xs = (l.map natV).toArray) (hl : n = l.length) :
    Calls Tryd.prog 11 #[u, .slice (some ⟨w.heap.size, 0, none⟩) n c] (w.alloc (.cells xs t)) fun e w' => e = .returned (.bool true) ∧ Below w.heap.size w w' := by
  subst hx hl
  have hb : Below w.heap.size w (w.alloc (.cells (l.map natV).toArray t)) := (Below.refl _ w).alloc (Nat.le_refl _) _
  have h2 : Lst (w.alloc (.cells (l.map natV).toArray t)) (.slice (some ⟨w.heap.size, 0, none⟩) l.length c) l := by
    refine ⟨_, _, rfl, fun j hj => ⟨_, rfl, ?_⟩⟩
    rw [blk_cell (World.alloc_heap_new w _)]
    simp [List.getD, hj, natV]
  refine (same_any (h.below hb) h2 hn).mono ?_
  rintro e w' ⟨rfl, m, rfl⟩
  exact ⟨by simp, bel_drewN hb m⟩
end Go.Proofs.YtlkojoinbogkmaaDoor
