/- Joined texts: Q4, Q5, Q6. -/
import Derived.Test.YtkfijjjnidiejaaDoorQ3
import Derived.Test.YtkfijjjnidiejaaDoorQPure3
import Derived.Test.YtkfijjjnidiejaaDoorSt

/-
  The document's Around: its walk.
-/
namespace Go.Proofs.YtkfijjjnidiejaaDoor
set_option maxRecDepth 100000
open Go Go.RowKit Rq

/-! Around, where there is nothing around -/
def outB (l : List Int) (x fr : Int) : Bool := decide (x ∈ l) && (x != fr)

end Go.Proofs.YtkfijjjnidiejaaDoor

/-
  The document's Around: its walk.
-/
namespace Go.Proofs.YtkfijjjnidiejaaDoor
set_option maxRecDepth 100000
open Go Go.RowKit Rq

def dz (d : List Nat) : Array Value := (d.map natV).toArray
theorem dz_made (n : Nat) : madeCells #[.int .i64 0] n = dz (List.replicate n 0) := by
  apply Array.toList_inj.1
  rw [toList_madeCells_one]
  simp [dz, natV]
theorem dz_set (d : List Nat) (i v : Nat) : (dz d).setIfInBounds i (natV v) = dz (d.set i v) := by
  unfold dz
  apply Array.toList_inj.1
  simp [List.map_set]
theorem dz_get {d : List Nat} {i : Nat} (h : i < d.length) : (dz d)[i]? = some (natV (d.getD i 0)) := by simp [dz, List.getD, h]
theorem makeInts_run (N : Nat) (hN : N ≤ 100000) (w : World) : (Instr.makeSlice 22 (.int .i64 (N : Int)) (.int .i64 (N : Int))).run Tryd.prog w = .ok (.slice (some ⟨w.heap.size, 0, none⟩) N N) (w.alloc (.cells (madeCells #[.int .i64 0] N) 3)) := by
  obtain ⟨i0, hi, hz0, hz1, hz2⟩ := info_parts Tryd.infoInt
  have := run_make (P := Tryd.prog) w 22 3 i0 (.int .i64 0) Tryd.underlying22 hi hz0 .i64 .i64 (N : Int) (N : Int) (by omega) (Int.le_refl _) (by rw [hz2]; omega) (by omega)
  simpa [hz1, Value.cells] using this

/-- The marks, in memory. -/
structure DI (gd : Nat) (d : List Nat) (w wr : World) : Prop where
  bl : Below w.heap.size w wr
  blk : wr.heap[gd]? = some (.cells (dz d) 3 (0, 0))
  lo : w.heap.size ≤ gd
theorem DI.below {gd : Nat} {d : List Nat} {w wr w2 : World} (h : DI gd d w wr) (hb : Below wr.heap.size wr w2) : DI gd d w w2 :=
  ⟨h.bl.trans (hb.mono h.bl.size), (hb.block gd (blk_lt h.blk)).trans h.blk, h.lo⟩
theorem DI.drewN {gd : Nat} {d : List Nat} {w wr : World} (h : DI gd d w wr) (n : Nat) : DI gd d w (wr.drewN n) := h.below (bel_drewN (Below.refl _ _) n)
theorem DI.set {gd : Nat} {d : List Nat} {w wr : World} (h : DI gd d w wr) (j v : Nat) : DI gd (d.set j v) w (wr.setCell ⟨gd, j, none⟩ (natV v)) := by
  refine ⟨h.bl.setCell (p := ⟨gd, j, none⟩) h.lo _, ?_, h.lo⟩
  rw [blk_set h.blk, dz_set]
theorem DI.cell {gd : Nat} {d : List Nat} {w wr : World} (h : DI gd d w wr) {j : Nat} (hj : j < d.length) : wr.cell? ⟨gd, j, none⟩ = some (natV (d.getD j 0)) := by
  rw [blk_cell h.blk, dz_get hj]

/-- What the document's Around tells. -/
def RAroundP (R C : Nat) (ms : List UInt8) (c far : Nat) (ban : List Int) (w : World) (e : Ending) (w' : World) : Prop :=
  ∃ (v : Value) (l : List Nat), e = .returned v ∧ Below w.heap.size w w' ∧ w'.ownsRow w.heap.size 3 1 v l.length (l.map natV) ∧ l.Pairwise (· < ·) ∧ ∀ x, x ∈ l ↔ ∃ n, n ≤ far ∧ Fw (outs R C ms) (banF ban) c n x

def RoutA (N : Nat) (nx : Nat → List Nat) (ban : Nat → Bool) (c far gd : Nat) (w : World) (u : Value) (wr : World) : Prop :=
  ∃ (d : List Nat) (k : Nat), 1 ≤ k ∧ k ≤ far + 1 ∧ k ≤ N + 1 ∧ u = .int .i64 (k : Int) ∧ DI gd d w wr ∧ Ra N nx ban c d k 0 [] ∧ ∀ x v : Nat, d[x]? = some v → v ≤ k
def RmidA (N : Nat) (nx : Nat → List Nat) (ban : Nat → Bool) (c gd k : Nat) (w : World) (u : Value) (wr : World) : Prop :=
  ∃ (d : List Nat) (a : Nat), a ≤ N ∧ u = .int .i64 (a : Int) ∧ DI gd d w wr ∧ Ra N nx ban c d k a []
def RinA (N : Nat) (nx : Nat → List Nat) (ban : Nat → Bool) (c gd k a : Nat) (A : Option Addr) (w : World) (u : Value) (wr : World) : Prop :=
  ∃ (d : List Nat) (j : Nat), j ≤ (nx a).length ∧ u = .int .i64 (j : Int) ∧ DI gd d w wr ∧ Ra N nx ban c d k a ((nx a).take j) ∧ d[a]? = some k ∧ IntsAt wr A (intsQ (nx a)) ∧ ∀ q, A = some q → q.block ≠ gd

end Go.Proofs.YtkfijjjnidiejaaDoor

/-
  Both Arounds, and Check, on a pair of maps.
-/
namespace Go.Proofs.YtkfijjjnidiejaaDoor
set_option maxRecDepth 100000
open Go Go.RowKit Rq

/-! The document's Around, where there is nothing around -/
/-- What lies around. -/
def ArL (R C : Nat) (ms : List UInt8) (cell far : Int) (ban : List Int) (l : List Nat) : Prop :=
  (freeB ms cell = false ∨ far < 0 → l = []) ∧ (freeB ms cell = true → 0 ≤ far → l.Pairwise (· < ·) ∧ ∀ x, x ∈ l ↔ ∃ n, n ≤ far.toNat ∧ Fw (outs R C ms) (banF ban) cell.toNat n x)
theorem ArL.one {R C : Nat} {ms : List UInt8} {cell far : Int} {ban : List Int} {l m : List Nat} (h : ArL R C ms cell far ban l) (k : ArL R C ms cell far ban m) : l = m := by
  by_cases h1 : freeB ms cell = false ∨ far < 0
  · rw [h.1 h1, k.1 h1]
  · have h2 : freeB ms cell = true := by
      cases hf : freeB ms cell
      · exact absurd (.inl hf) h1
      · rfl
    have h3 : 0 ≤ far := by
      rcases Int.lt_or_le far 0 with h4 | h4
      · exact absurd (.inr h4) h1
      · exact h4
    obtain ⟨l1, l2⟩ := h.2 h2 h3
    obtain ⟨m1, m2⟩ := k.2 h2 h3
    exact rise_ext l1 m1 (fun x => (l2 x).trans (m2 x).symm)

section
variable {w0 w w' : World} {bm gm cm br gr cr : Nat} {Q : List ByteArray}

end
end Go.Proofs.YtkfijjjnidiejaaDoor
