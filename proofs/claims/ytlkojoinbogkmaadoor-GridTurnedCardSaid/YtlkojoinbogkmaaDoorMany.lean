/-
  Several maps in memory, from call to call.
-/
import Derived.Test.YtlkojoinbogkmaaDoorUp
import Derived.Test.YtlkojoinbogkmaaDoorMore
namespace Go.Proofs.YtlkojoinbogkmaaDoor
set_option maxRecDepth 100000
set_option linter.unusedSimpArgs false
open Go.RowKit

theorem EM.stays {F b g cap R C : Nat} {ms : List UInt8} {w w' : World} (h : EM b g cap R C ms w) (hu : Up F b w) (hg : w.grownBy w' none) : EM b g cap R C ms w' ∧ Up F b w' := by
  have hE := h.grown hg
  refine ⟨hE, ?_⟩
  have hblt : b < w.heap.size := World.block_lt_of_cell? w ⟨b, 0, none⟩ h.c0
  have hcb : ∀ j, w'.cell? ⟨b, j, none⟩ = w.cell? ⟨b, j, none⟩ := fun j => World.cell?_of_block (a := ⟨b, j, none⟩) (hg.block b hblt (by simp))
  intro f hf q n c hc
  rw [hcb f] at hc
  obtain ⟨k1, k2⟩ := hu f hf q n c hc
  refine ⟨k1, fun j hj v hv r hr => ?_⟩
  rcases h.st with hr' | hd
  · rcases hf with rfl | rfl <;> (rw [blk_cell hr'] at hc; simp [cellsE] at hc)
  · obtain ⟨B, gn, gb, T, hT, h6, h7⟩ := hd.tables
    have hq : q.block < w.heap.size := by
      rcases hf with rfl | rfl
      · rw [h6] at hc
        simp only [Option.some.injEq, Value.slice.injEq] at hc
        obtain ⟨rfl, _⟩ := hc
        exact hT.lt _ hT.hgn
      · rw [h7] at hc
        simp only [Option.some.injEq, Value.slice.injEq] at hc
        obtain ⟨rfl, _⟩ := hc
        exact hT.lt _ hT.hgb
    have := World.cell?_of_block (a := ⟨q.block, j, none⟩) (hg.block q.block hq (by simp))
    rw [this] at hv
    exact k2 j hj v hv r hr

/-- A map: where it lies, and what it holds. -/
structure Mp where
  b : Nat
  g : Nat
  cap : Nat
  R : Nat
  C : Nat
  ms : List UInt8

structure Many (w0 : World) (F : Nat) (ps : List Mp) (w : World) : Prop where
  em : ∀ p ∈ ps, EM p.b p.g p.cap p.R p.C p.ms w ∧ Up F p.b w
  lt : ∀ p ∈ ps, w0.heap.size ≤ p.b ∧ p.b < F
  gne : ∀ p ∈ ps, ∀ q ∈ ps, p.g ≠ q.b
  one : ∀ p ∈ ps, ∀ q ∈ ps, p.b = q.b → p = q
  wl : 0 < w0.heap.size
  bl : Below w0.heap.size w0 w
  fs : F ≤ w.heap.size

/-- A list in memory at F or above. -/
def LstF (F : Nat) (w : World) (v : Value) (l : List Nat) : Prop := ∃ a c, v = .slice a l.length c ∧ ∀ j, j < l.length → ∃ g, a = some ⟨g, 0, none⟩ ∧ F ≤ g ∧ w.cell? ⟨g, j, none⟩ = some (.int .i64 ((l.getD j 0 : Nat) : Int))

/-- What a call leaves that turns at most one map's block. -/
def Turns (F : Nat) (w w' : World) : Prop := ∃ row, w.grownBy w' row ∧ ∀ r, row = some r → r < F

theorem LstF.turns {F : Nat} {w w' : World} {v : Value} {l : List Nat} (h : LstF F w v l) (ht : Turns F w w') : LstF F w' v l := by
  obtain ⟨row, hg, hr⟩ := ht
  obtain ⟨a, c, rfl, hc⟩ := h
  refine ⟨a, c, rfl, fun j hj => ?_⟩
  obtain ⟨g, rfl, hF, hcell⟩ := hc j hj
  exact ⟨g, rfl, hF, hg.cell hcell (fun e => by have := hr g e.symm; omega)⟩
theorem LstF.lst {F : Nat} {w : World} {v : Value} {l : List Nat} (h : LstF F w v l) : Lst w v l := by
  obtain ⟨a, c, rfl, hc⟩ := h
  refine ⟨a, c, rfl, fun j hj => ?_⟩
  obtain ⟨g, rfl, _, hcell⟩ := hc j hj
  exact ⟨g, rfl, hcell⟩
theorem lstF_of {F B : Nat} {w : World} {v : Value} {l : List Nat} (h : w.ownsRow B 3 1 v l.length (l.map natV)) (hB : F ≤ B) : LstF F w v l := by
  rcases h.2 with ⟨rfl, h0⟩ | ⟨g, cap, cur, rfl, hg, _⟩
  · exact ⟨none, 0, by rw [h0], fun j hj => by omega⟩
  · exact ⟨_, _, rfl, fun j hj => ⟨g, rfl, by omega, int_cells h j hj⟩⟩

section
variable {w0 w w' : World} {F : Nat} {ps : List Mp}

theorem Many.below (h : Many w0 F ps w) (hb : Below w.heap.size w w') : Many w0 F ps w' ∧ Turns F w w' :=
  ⟨⟨fun p hp => (h.em p hp).1.stays (h.em p hp).2 (grown_of_below hb none), h.lt, h.gne, h.one, h.wl, h.bl.trans (hb.mono h.bl.size), Nat.le_trans h.fs hb.size⟩, none, grown_of_below hb none, by intro r e; cases e⟩

theorem Many.turned (h : Many w0 F ps w) {p : Mp} (hp : p ∈ ps) (he : EM p.b p.g p.cap p.R p.C p.ms w') (hu : Up F p.b w') (hg : w.grownBy w' (some p.b)) : Many w0 F ps w' ∧ Turns F w w' := by
  have hlt := h.lt p hp
  refine ⟨⟨fun q hq => ?_, h.lt, h.gne, h.one, h.wl, h.bl.grown hg h.bl.size (fun k e => by cases e; exact hlt.1), Nat.le_trans h.fs hg.size⟩, some p.b, hg, by intro r e; cases e; exact hlt.2⟩
  rcases Decidable.em (q.b = p.b) with e | e
  · rw [h.one q hq p hp e]
    exact ⟨he, hu⟩
  · exact (h.em q hq).1.beside (h.em q hq).2 hg hlt.2 e (h.gne q hq p hp) (by have := h.wl; omega)

theorem n_next {p : Mp} (hp : p ∈ ps) (i : Int) (h : Many w0 F ps w) :
    Calls Tryd.prog 10 #[.pointer (some ⟨p.b, 0, none⟩), .int .i64 i] w fun e w' => ∃ a c, e = .returned (.slice a (nextZ p.R p.C p.ms i).length c) ∧ (Many w0 F ps w' ∧ Turns F w w' ∧ LstF F w' (.slice a (nextZ p.R p.C p.ms i).length c) (nextZ p.R p.C p.ms i)) := by
  refine (next_anyU i (h.em p hp).1).mono ?_
  rintro e w' ⟨v, w1, rfl, he, hg, _, _, hup, hown, hb⟩
  obtain ⟨m1, row, g1, r1⟩ := h.turned hp he (hup F h.fs (h.em p hp).2) hg
  have hl := lstF_of hown m1.fs
  obtain ⟨m2, _⟩ := m1.below hb
  obtain ⟨a, c, rfl, hc⟩ := hl
  exact ⟨a, c, rfl, m2, ⟨some p.b, grown_trans hg (grown_of_below hb _), by intro r e; cases e; exact (h.lt p hp).2⟩, a, c, rfl, hc⟩

theorem n_edges {p : Mp} (hp : p ∈ ps) (h : Many w0 F ps w) :
    Calls Tryd.prog 19 #[.pointer (some ⟨p.b, 0, none⟩)] w fun e w' => e = .returned (.int .i64 (eds p.R p.C p.ms p.ms.length : Int)) ∧ (Many w0 F ps w' ∧ Turns F w w') := by
  refine (edges_anyU (h.em p hp).1).mono ?_
  rintro e w' ⟨rfl, he, hg, hup⟩
  exact ⟨rfl, h.turned hp he (hup F h.fs (h.em p hp).2) hg⟩

theorem n_edge {p : Mp} (hp : p ∈ ps) (i x : Int) (h : Many w0 F ps w) :
    Calls Tryd.prog 15 #[.pointer (some ⟨p.b, 0, none⟩), .int .i64 i, .int .i64 x] w fun e w' => e = .returned (.bool ((nextZ p.R p.C p.ms i).any (fun u => (u : Int) == x))) ∧ (Many w0 F ps w' ∧ Turns F w w') := by
  refine (medge_anyU i x (h.em p hp).1).mono ?_
  rintro e w' ⟨rfl, he, hg, hup⟩
  exact ⟨rfl, h.turned hp he (hup F h.fs (h.em p hp).2) hg⟩

theorem n_all {p : Mp} (hp : p ∈ ps) (h : Many w0 F ps w) (hm : 0 < p.ms.length) :
    Calls Tryd.prog 27 #[.pointer (some ⟨p.b, 0, none⟩)] w fun e w' => ∃ v, e = .returned v ∧ (Many w0 F ps w' ∧ Turns F w w' ∧ LstF F w' v (frees p.ms)) := by
  have hE := (h.em p hp).1
  have hlen := hE.len
  refine (all_any p.b p.g p.cap p.ms w (by omega) hE.lt (World.block_lt_of_cell? w ⟨p.g, 0, none⟩ (hE.mark 0 hm)) hE.c2 (fun j hj => hE.mark j hj)).mono ?_
  rintro e w' ⟨a, c, rfl, hown, hb⟩
  obtain ⟨m1, t1⟩ := h.below hb
  exact ⟨_, rfl, m1, t1, lstF_of hown h.fs⟩

theorem n_kind {p : Mp} (hp : p ∈ ps) (i : Int) (h : Many w0 F ps w) :
    Calls Tryd.prog 24 #[.pointer (some ⟨p.b, 0, none⟩), .int .i64 i] w fun e w' => e = .returned (.int .u8 ((kindB p.ms i).toNat : Int)) ∧ w = w' :=
  kind_any p.b p.g p.cap p.ms i w (h.em p hp).1.c2 (fun j hj => (h.em p hp).1.mark j hj)
theorem n_cells {p : Mp} (hp : p ∈ ps) (h : Many w0 F ps w) :
    Calls Tryd.prog 22 #[.pointer (some ⟨p.b, 0, none⟩)] w fun e w' => e = .returned (.int .i64 (p.ms.length : Int)) ∧ w = w' :=
  cells_any p.b _ _ _ w (h.em p hp).1.c2
theorem n_cols {p : Mp} (hp : p ∈ ps) (h : Many w0 F ps w) :
    Calls Tryd.prog 26 #[.pointer (some ⟨p.b, 0, none⟩)] w fun e w' => e = .returned (.int .i64 (p.C : Int)) ∧ w = w' :=
  cols_any p.b _ w (h.em p hp).1.c1

theorem n_same {u v : Value} {l : List Nat} (h : Many w0 F ps w) (h1 : LstF F w u l) (h2 : LstF F w v l) (hn : l.length ≤ 100000) :
    Calls Tryd.prog 11 #[u, v] w fun e w' => e = .returned (.bool true) ∧ (Many w0 F ps w' ∧ Turns F w w') := by
  refine (same_any h1.lst h2.lst hn).mono ?_
  rintro e w' ⟨rfl, m, rfl⟩
  exact ⟨by simp, h.below (bel_drewN (Below.refl _ _) m)⟩
end
end Go.Proofs.YtlkojoinbogkmaaDoor
