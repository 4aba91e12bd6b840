/-
  Piles in memory: which blocks a call may turn; a pile's cells.
-/
import Derived.Test.YtdhpphkkpjldfabPPure
import Derived.Test.YtdhpphkkpjldfabRows
import Derived.WalkKit
import Derived.WalkSpells
import Derived.WalkLawsBesides
import Derived.Below
import Derived.Laws.OwnMore
import Derived.Deep.AppendLies
import Derived.Deep.Draws
import Derived.Deep.OwnRows
namespace Go.Proofs.Ytdhpphkkpjldfab
set_option maxRecDepth 100000
open Go Go.RowKit Pq

/-- Of what there was, the blocks of X alone may have turned. -/
structure Kept (X : Nat → Prop) (w w' : World) : Prop where
  os : w'.os = w.os
  tape : w'.tape = w.tape
  output : w'.output = w.output
  size : w.heap.size ≤ w'.heap.size
  block : ∀ k, k < w.heap.size → ¬ X k → w'.heap[k]? = w.heap[k]?

namespace Kept
variable {X Y : Nat → Prop} {a w w' : World}
theorem refl (X : Nat → Prop) (w : World) : Kept X w w := ⟨rfl, rfl, rfl, Nat.le_refl _, fun _ _ _ => rfl⟩
theorem trans (h : Kept X a w) (k : Kept Y w w') (hY : ∀ i, i < a.heap.size → Y i → X i) : Kept X a w' :=
  ⟨k.os.trans h.os, k.tape.trans h.tape, k.output.trans h.output, Nat.le_trans h.size k.size, fun i hi hx => (k.block i (Nat.lt_of_lt_of_le hi h.size) (fun hy => hx (hY i hi hy))).trans (h.block i hi hx)⟩
theorem mono (h : Kept X w w') (hX : ∀ k, k < w.heap.size → X k → Y k) : Kept Y w w' := ⟨h.os, h.tape, h.output, h.size, fun k hk hn => h.block k hk (fun hx => hn (hX k hk hx))⟩
theorem drew (h : Kept X a w) : Kept X a w.drew := ⟨h.os, h.tape, h.output, h.size, h.block⟩
theorem drewN (h : Kept X a w) (n : Nat) : Kept X a (w.drewN n) := ⟨h.os, h.tape, h.output, h.size, h.block⟩
theorem alloc (h : Kept X a w) (o : Obj) : Kept X a (w.alloc o) :=
  ⟨h.os, h.tape, h.output, Nat.le_trans h.size (by simp), fun k hk hx => (Below.heap_alloc w o k (Nat.lt_of_lt_of_le hk h.size)).trans (h.block k hk hx)⟩
theorem setCell (h : Kept X a w) {p : Addr} (hp : X p.block ∨ a.heap.size ≤ p.block) (u : Value) : Kept X a (w.setCell p u) :=
  ⟨h.os, h.tape, h.output, by simpa [World.setCell] using h.size, fun k hk hx => (Below.heap_setCell w p u k (by
    rintro rfl
    rcases hp with hp | hp
    · exact hx hp
    · omega)).trans (h.block k hk hx)⟩
theorem grown (h : Kept X a w) {row : Option Nat} (hg : w.grownBy w' row) (hr : ∀ k, row = some k → X k ∨ a.heap.size ≤ k) : Kept X a w' :=
  ⟨hg.os.trans h.os, hg.tape.trans h.tape, hg.output.trans h.output, Nat.le_trans h.size hg.size, fun k hk hx => (hg.block k (Nat.lt_of_lt_of_le hk h.size) (fun e => by
    rcases hr k e.symm with h1 | h1
    · exact hx h1
    · omega)).trans (h.block k hk hx)⟩
theorem of_below {B : Nat} (h : Below B w w') (hB : w.heap.size ≤ B) : Kept X w w' := ⟨h.os, h.tape, h.output, h.size, fun k hk _ => h.block k (Nat.lt_of_lt_of_le hk hB)⟩
theorem below {B : Nat} (h : Kept X w w') (hX : ∀ k, X k → B ≤ k) (hB : B ≤ w.heap.size) : Below B w w' :=
  ⟨h.os, h.tape, h.output, h.size, fun k hk => h.block k (by omega) (fun hx => by have := hX k hx; omega)⟩
theorem cell (h : Kept X w w') {p : Addr} {v : Value} (hc : w.cell? p = some v) (hp : ¬ X p.block) : w'.cell? p = some v :=
  (World.cell?_of_block (h.block p.block (World.block_lt_of_cell? w p hc) hp)).trans hc
theorem frozen (h : Kept X w w') {p : Addr} (hlt : p.block < w.heap.size) (hp : ¬ X p.block) : w'.frozen? p = w.frozen? p :=
  World.frozen?_of_block (h.block p.block hlt hp)
theorem row (h : Kept X w w') {base : Nat} {e : TypeId} {size : Nat} {v : Value} {n : Nat} {xs : List Value} (ho : w.ownsRow base e size v n xs) (hv : ∀ g, v.ownBlock = some g → ¬ X g) : w'.ownsRow base e size v n xs := by
  refine ⟨ho.1, ?_⟩
  rcases ho.2 with hn | ⟨g, cap, cur, rfl, hb, hg, rest⟩
  · exact .inl hn
  · exact .inr ⟨g, cap, cur, rfl, hb, by rw [h.block g (Array.getElem?_eq_some_iff.1 hg).1 (hv g rfl)]; exact hg, rest⟩
end Kept

/-- An item's cells; a list's. -/
def Pq.It.cs (x : It) : List Value := [.int .i64 x.c, .int .i64 x.t, .int .i64 x.i]
def Pq.It.val (x : It) : Value := .agg #[.int .i64 x.c, .int .i64 x.t, .int .i64 x.i]
def csL (l : List It) : List Value := l.flatMap It.cs
theorem csL_length (l : List It) : (csL l).length = l.length * 3 := by
  induction l with
  | nil => rfl
  | cons x l ih => show (x.cs ++ csL l).length = _; rw [List.length_append, ih]; simp [It.cs]; omega
theorem csL_append (l m : List It) : csL (l ++ m) = csL l ++ csL m := by simp [csL]
theorem csL_get {l : List It} {k j : Nat} (h : k < l.length) (hj : j < 3) : (csL l)[k * 3 + j]? = (at_ l k).cs[j]? := by
  induction l generalizing k with
  | nil => simp at h
  | cons x l ih =>
    show (x.cs ++ csL l)[k * 3 + j]? = _
    cases k with
    | zero => rw [List.getElem?_append_left (by simp [It.cs]; omega)]; simp [at_cons_zero]
    | succ k =>
      rw [List.getElem?_append_right (by simp [It.cs]; omega), at_cons_succ, ← ih (by simpa using h)]
      congr 1
      simp [It.cs]; omega
theorem csL_c {l : List It} {k : Nat} (h : k < l.length) : (csL l)[k * 3]? = some (.int .i64 (at_ l k).c) := csL_get (j := 0) h (by omega)
theorem csL_t {l : List It} {k : Nat} (h : k < l.length) : (csL l)[k * 3 + 1]? = some (.int .i64 (at_ l k).t) := csL_get (j := 1) h (by omega)
theorem csL_i {l : List It} {k : Nat} (h : k < l.length) : (csL l)[k * 3 + 2]? = some (.int .i64 (at_ l k).i) := csL_get (j := 2) h (by omega)
theorem csL_one {l : List It} : ∀ u ∈ csL l, u.oneCell' = true := by
  intro u hu
  simp only [csL, List.mem_flatMap, It.cs] at hu
  obtain ⟨x, _, hu⟩ := hu
  simp at hu
  rcases hu with rfl | rfl | rfl <;> rfl
theorem csL_take (l : List It) (n : Nat) : (csL l).take (n * 3) = csL (l.take n) := by
  induction l generalizing n with
  | nil => simp [csL]
  | cons x l ih =>
    cases n with
    | zero => simp [csL]
    | succ n =>
      show (x.cs ++ csL l).take _ = x.cs ++ csL (l.take n)
      have e : (n + 1) * 3 = x.cs.length + n * 3 := by simp [It.cs]; omega
      rw [e, List.take_length_add_append, ih]
theorem csL_set {l : List It} {k : Nat} (h : k < l.length) (x : It) : csL (l.set k x) = (((csL l).set (k * 3) (.int .i64 x.c)).set (k * 3 + 1) (.int .i64 x.t)).set (k * 3 + 2) (.int .i64 x.i) := by
  induction l generalizing k with
  | nil => simp at h
  | cons y l ih =>
    cases k with
    | zero => rfl
    | succ k =>
      rw [List.set_cons_succ]
      show y.cs ++ csL (l.set k x) = _
      rw [ih (by simpa using h)]
      show _ = (((y.cs ++ csL l).set _ _).set _ _).set _ _
      have e : ∀ j, (k + 1) * 3 + j = y.cs.length + (k * 3 + j) := by intro j; simp [It.cs]; omega
      have e0 : (k + 1) * 3 = y.cs.length + k * 3 := e 0
      rw [e 1, e 2, e0]
      simp

/-- A pile: its one cell, and its items' row. -/
def Pile (w : World) (b j : Nat) (r : Option Nat) (l : List It) : Prop :=
  ∃ v, w.cell? ⟨b, j, none⟩ = some v ∧ w.frozen? ⟨b, j, none⟩ = false ∧ v.ownBlock = r ∧ r ≠ some b ∧ w.ownsRow 0 32 3 v l.length (csL l)

/-- A pile's blocks. -/
def Of (b : Nat) (r : Option Nat) (k : Nat) : Prop := k = b ∨ some k = r

theorem Pile.lt {w : World} {b j : Nat} {r : Option Nat} {l : List It} (h : Pile w b j r l) : ∀ k, Of b r k → k < w.heap.size := by
  obtain ⟨v, hc, _, hr, _, ho⟩ := h
  rintro k (rfl | hk)
  · exact World.block_lt_of_cell? w _ hc
  · rw [← hr] at hk; exact (ho.lt k hk.symm).2
theorem Pile.kept {w w' : World} {b j : Nat} {r : Option Nat} {l : List It} {X : Nat → Prop} (h : Pile w b j r l) (hk : Kept X w w') (hX : ∀ k, Of b r k → ¬ X k) : Pile w' b j r l := by
  have hlt := h.lt
  obtain ⟨v, hc, hf, hr, hn, ho⟩ := h
  refine ⟨v, hk.cell hc (hX b (.inl rfl)), by rw [hk.frozen (p := ⟨b, j, none⟩) (hlt b (.inl rfl)) (hX b (.inl rfl))]; exact hf, hr, hn, hk.row ho (fun g hg => hX g (.inr (by rw [← hr, hg])))⟩
theorem Pile.drewN {w : World} {b j : Nat} {r : Option Nat} {l : List It} (h : Pile w b j r l) (n : Nat) : Pile (w.drewN n) b j r l := h
theorem Pile.drew {w : World} {b j : Nat} {r : Option Nat} {l : List It} (h : Pile w b j r l) : Pile w.drew b j r l := h

/-- Of what there was, the pile's own cell and its row alone may have turned. -/
structure Kp (b j : Nat) (r : Option Nat) (w w' : World) : Prop where
  kept : Kept (Of b r) w w'
  side : ∀ o, o ≠ j → w'.cell? ⟨b, o, none⟩ = w.cell? ⟨b, o, none⟩
  froz : ∀ o, w'.frozen? ⟨b, o, none⟩ = w.frozen? ⟨b, o, none⟩
theorem Kp.refl (b j : Nat) (r : Option Nat) (w : World) : Kp b j r w w := ⟨Kept.refl _ _, fun _ _ => rfl, fun _ => rfl⟩
theorem Kp.trans {b j : Nat} {r r' : Option Nat} {a w w' : World} (h : Kp b j r a w) (k : Kp b j r' w w') (hr : ∀ i, i < a.heap.size → some i = r' → some i = r) : Kp b j r a w' :=
  ⟨h.kept.trans k.kept (fun i hi hx => hx.imp id (hr i hi)), fun o ho => (k.side o ho).trans (h.side o ho), fun o => (k.froz o).trans (h.froz o)⟩
/-- Block b as it was. -/
theorem Kp.of_kept {b j : Nat} {r : Option Nat} {w w' : World} {X : Nat → Prop} (h : Kept X w w') (hb : b < w.heap.size) (hn : ¬ X b) (hX : ∀ k, k < w.heap.size → X k → some k = r) : Kp b j r w w' :=
  ⟨h.mono (fun k hk hx => .inr (hX k hk hx)), fun o _ => World.cell?_of_block (a := ⟨b, o, none⟩) (h.block b hb hn), fun o => World.frozen?_of_block (a := ⟨b, o, none⟩) (h.block b hb hn)⟩
theorem Kp.below {b j : Nat} {r : Option Nat} {w w' : World} {B : Nat} (h : Below B w w') (hB : w.heap.size ≤ B) (hb : b < w.heap.size) : Kp b j r w w' :=
  Kp.of_kept (Kept.of_below (X := fun _ => False) h hB) hb id (fun _ _ h => h.elim)
theorem Kp.alloc {b j : Nat} {r : Option Nat} {w w' : World} (h : Kp b j r w w') (hb : b < w.heap.size) (o : Obj) : Kp b j r w (w'.alloc o) :=
  h.trans (Kp.of_kept (r := none) ((Kept.refl (fun _ => False) w').alloc o) (Nat.lt_of_lt_of_le hb h.kept.size) id (fun _ _ h => h.elim)) (fun _ _ e => by cases e)
theorem Kp.drew {b j : Nat} {r : Option Nat} {w w' : World} (h : Kp b j r w w') : Kp b j r w w'.drew := ⟨h.kept.drew, h.side, h.froz⟩

theorem row_cells {w : World} {base g cap : Nat} {l : List It} {e : TypeId} (h : w.ownsRow base e 3 (.slice (some ⟨g, 0, none⟩) l.length cap) l.length (csL l)) {k : Nat} (hk : k < l.length) :
    w.cell? ⟨g, k * 3, none⟩ = some (.int .i64 (at_ l k).c) ∧ w.cell? ⟨g, k * 3 + 1, none⟩ = some (.int .i64 (at_ l k).t) ∧ w.cell? ⟨g, k * 3 + 2, none⟩ = some (.int .i64 (at_ l k).i) := by
  refine ⟨?_, ?_, ?_⟩
  · rw [h.cellAt _ (by omega), csL_c hk]
  · rw [h.cellAt _ (by omega), csL_t hk]
  · rw [h.cellAt _ (by omega), csL_i hk]
end Go.Proofs.Ytdhpphkkpjldfab
