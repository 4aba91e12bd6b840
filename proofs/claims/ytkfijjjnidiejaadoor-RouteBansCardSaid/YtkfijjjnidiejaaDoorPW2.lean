/- Joined texts: PMem, PW1, PW2. -/
import Derived.Test.YtkfijjjnidiejaaDoorPPure
import Derived.Test.YtkfijjjnidiejaaDoorRows
import Derived.WalkKit
import Derived.WalkSpells
import Derived.WalkLawsBesides
import Derived.Below
import Derived.Laws.OwnMore
import Derived.Deep.AppendLies
import Derived.Deep.Draws
import Derived.Deep.OwnRows
import Derived.RegionTactic
import Derived.ChangeAlike
import Derived.BigRegion
import Derived.Outline

/-
  Piles in memory: which blocks a call may turn; a pile's cells.
-/
namespace Go.Proofs.YtkfijjjnidiejaaDoor
set_option maxRecDepth 100000
open Go Go.RowKit Pq

/-- Of what there was, the blocks of X alone may have turned. -/
structure Kept (X : Nat → Prop) (w w' : World) : Prop where
  os : w'.os = w.os
  tape : w'.tape = w.tape
  output : w'.output = w.output
  size : w.heap.size ≤ w'.heap.size
  block : ∀ k, k < w.heap.size → ¬ X k → w'.heap[k]? = w.heap[k]?

namespace Kept
variable {X Y : Nat → Prop} {a w w' : World}
theorem refl (X : Nat → Prop) (w : World) : Kept X w w := ⟨rfl, rfl, rfl, Nat.le_refl _, fun _ _ _ => rfl⟩
theorem trans (h : Kept X a w) (k : Kept Y w w') (hY : ∀ i, i < a.heap.size → Y i → X i) : Kept X a w' :=
  ⟨k.os.trans h.os, k.tape.trans h.tape, k.output.trans h.output, Nat.le_trans h.size k.size, fun i hi hx => (k.block i (Nat.lt_of_lt_of_le hi h.size) (fun hy => hx (hY i hi hy))).trans (h.block i hi hx)⟩
theorem mono (h : Kept X w w') (hX : ∀ k, k < w.heap.size → X k → Y k) : Kept Y w w' := ⟨h.os, h.tape, h.output, h.size, fun k hk hn => h.block k hk (fun hx => hn (hX k hk hx))⟩
theorem drew (h : Kept X a w) : Kept X a w.drew := ⟨h.os, h.tape, h.output, h.size, h.block⟩
theorem drewN (h : Kept X a w) (n : Nat) : Kept X a (w.drewN n) := ⟨h.os, h.tape, h.output, h.size, h.block⟩
theorem alloc (h : Kept X a w) (o : Obj) : Kept X a (w.alloc o) :=
  ⟨h.os, h.tape, h.output, Nat.le_trans h.size (by simp), fun k hk hx => (Below.heap_alloc w o k (Nat.lt_of_lt_of_le hk h.size)).trans (h.block k hk hx)⟩
theorem setCell (h : Kept X a w) {p : Addr} (hp : X p.block ∨ a.heap.size ≤ p.block) (u : Value) : Kept X a (w.setCell p u) :=
  ⟨h.os, h.tape, h.output, by simpa [World.setCell] using h.size, fun k hk hx => (Below.heap_setCell w p u k (by
    rintro rfl
    rcases hp with hp | hp
    · exact hx hp
    · omega)).trans (h.block k hk hx)⟩
theorem grown (h : Kept X a w) {row : Option Nat} (hg : w.grownBy w' row) (hr : ∀ k, row = some k → X k ∨ a.heap.size ≤ k) : Kept X a w' :=
  ⟨hg.os.trans h.os, hg.tape.trans h.tape, hg.output.trans h.output, Nat.le_trans h.size hg.size, fun k hk hx => (hg.block k (Nat.lt_of_lt_of_le hk h.size) (fun e => by
    rcases hr k e.symm with h1 | h1
    · exact hx h1
    · omega)).trans (h.block k hk hx)⟩
theorem of_below {B : Nat} (h : Below B w w') (hB : w.heap.size ≤ B) : Kept X w w' := ⟨h.os, h.tape, h.output, h.size, fun k hk _ => h.block k (Nat.lt_of_lt_of_le hk hB)⟩
theorem below {B : Nat} (h : Kept X w w') (hX : ∀ k, X k → B ≤ k) (hB : B ≤ w.heap.size) : Below B w w' :=
  ⟨h.os, h.tape, h.output, h.size, fun k hk => h.block k (by omega) (fun hx => by have := hX k hx; omega)⟩
theorem cell (h : Kept X w w') {p : Addr} {v : Value} (hc : w.cell? p = some v) (hp : ¬ X p.block) : w'.cell? p = some v :=
  (World.cell?_of_block (h.block p.block (World.block_lt_of_cell? w p hc) hp)).trans hc
theorem frozen (h : Kept X w w') {p : Addr} (hlt : p.block < w.heap.size) (hp : ¬ X p.block) : w'.frozen? p = w.frozen? p :=
  World.frozen?_of_block (h.block p.block hlt hp)
theorem row (h : Kept X w w') {base : Nat} {e : TypeId} {size : Nat} {v : Value} {n : Nat} {xs : List Value} (ho : w.ownsRow base e size v n xs) (hv : ∀ g, v.ownBlock = some g → ¬ X g) : w'.ownsRow base e size v n xs := by
  refine ⟨ho.1, ?_⟩
  rcases ho.2 with hn | ⟨g, cap, cur, rfl, hb, hg, rest⟩
  · exact .inl hn
  · exact .inr ⟨g, cap, cur, rfl, hb, by rw [h.block g (Array.getElem?_eq_some_iff.1 hg).1 (hv g rfl)]; exact hg, rest⟩
end Kept

/-- An item's cells; a list's. -/
def Pq.It.cs (x : It) : List Value := [.int .i64 x.c, .int .i64 x.t, .int .i64 x.i]
def Pq.It.val (x : It) : Value := .agg #[.int .i64 x.c, .int .i64 x.t, .int .i64 x.i]
def csL (l : List It) : List Value := l.flatMap It.cs
theorem csL_length (l : List It) : (csL l).length = l.length * 3 := by
  induction l with
  | nil => rfl
  | cons x l ih => show (x.cs ++ csL l).length = _; rw [List.length_append, ih]; simp [It.cs]; omega
theorem csL_append (l m : List It) : csL (l ++ m) = csL l ++ csL m := by simp [csL]
theorem csL_get {l : List It} {k j : Nat} (h : k < l.length) (hj : j < 3) : (csL l)[k * 3 + j]? = (at_ l k).cs[j]? := by
  induction l generalizing k with
  | nil => simp at h
  | cons x l ih =>
    show (x.cs ++ csL l)[k * 3 + j]? = _
    cases k with
    | zero => rw [List.getElem?_append_left (by simp [It.cs]; omega)]; simp [at_cons_zero]
    | succ k =>
      rw [List.getElem?_append_right (by simp [It.cs]; omega), at_cons_succ, ← ih (by simpa using h)]
      congr 1
      simp [It.cs]; omega
theorem csL_c {l : List It} {k : Nat} (h : k < l.length) : (csL l)[k * 3]? = some (.int .i64 (at_ l k).c) := csL_get (j := 0) h (by omega)
theorem csL_t {l : List It} {k : Nat} (h : k < l.length) : (csL l)[k * 3 + 1]? = some (.int .i64 (at_ l k).t) := csL_get (j := 1) h (by omega)
theorem csL_i {l : List It} {k : Nat} (h : k < l.length) : (csL l)[k * 3 + 2]? = some (.int .i64 (at_ l k).i) := csL_get (j := 2) h (by omega)
theorem csL_one {l : List It} : ∀ u ∈ csL l, u.oneCell' = true := by
  intro u hu
  simp only [csL, List.mem_flatMap, It.cs] at hu
  obtain ⟨x, _, hu⟩ := hu
  simp at hu
  rcases hu with rfl | rfl | rfl <;> rfl
theorem csL_take (l : List It) (n : Nat) : (csL l).take (n * 3) = csL (l.take n) := by
  induction l generalizing n with
  | nil => simp [csL]
  | cons x l ih =>
    cases n with
    | zero => simp [csL]
    | succ n =>
      show (x.cs ++ csL l).take _ = x.cs ++ csL (l.take n)
      have e : (n + 1) * 3 = x.cs.length + n * 3 := by simp [It.cs]; omega
      rw [e, List.take_length_add_append, ih]
theorem csL_set {l : List It} {k : Nat} (h : k < l.length) (x : It) : csL (l.set k x) = (((csL l).set (k * 3) (.int .i64 x.c)).set (k * 3 + 1) (.int .i64 x.t)).set (k * 3 + 2) (.int .i64 x.i) := by
  induction l generalizing k with
  | nil => simp at h
  | cons y l ih =>
    cases k with
    | zero => rfl
    | succ k =>
      rw [List.set_cons_succ]
      show y.cs ++ csL (l.set k x) = _
      rw [ih (by simpa using h)]
      show _ = (((y.cs ++ csL l).set _ _).set _ _).set _ _
      have e : ∀ j, (k + 1) * 3 + j = y.cs.length + (k * 3 + j) := by intro j; simp [It.cs]; omega
      have e0 : (k + 1) * 3 = y.cs.length + k * 3 := e 0
      rw [e 1, e 2, e0]
      simp

/-- A pile: its one cell, and its items' row. -/
def Pile (w : World) (b j : Nat) (r : Option Nat) (l : List It) : Prop :=
  ∃ v, w.cell? ⟨b, j, none⟩ = some v ∧ w.frozen? ⟨b, j, none⟩ = false ∧ v.ownBlock = r ∧ r ≠ some b ∧ w.ownsRow 0 89 3 v l.length (csL l)

/-- A pile's blocks. -/
def Of (b : Nat) (r : Option Nat) (k : Nat) : Prop := k = b ∨ some k = r

theorem Pile.lt {w : World} {b j : Nat} {r : Option Nat} {l : List It} (h : Pile w b j r l) : ∀ k, Of b r k → k < w.heap.size := by
  obtain ⟨v, hc, _, hr, _, ho⟩ := h
  rintro k (rfl | hk)
  · exact World.block_lt_of_cell? w _ hc
  · rw [← hr] at hk; exact (ho.lt k hk.symm).2
theorem Pile.kept {w w' : World} {b j : Nat} {r : Option Nat} {l : List It} {X : Nat → Prop} (h : Pile w b j r l) (hk : Kept X w w') (hX : ∀ k, Of b r k → ¬ X k) : Pile w' b j r l := by
  have hlt := h.lt
  obtain ⟨v, hc, hf, hr, hn, ho⟩ := h
  refine ⟨v, hk.cell hc (hX b (.inl rfl)), by rw [hk.frozen (p := ⟨b, j, none⟩) (hlt b (.inl rfl)) (hX b (.inl rfl))]; exact hf, hr, hn, hk.row ho (fun g hg => hX g (.inr (by rw [← hr, hg])))⟩
theorem Pile.drewN {w : World} {b j : Nat} {r : Option Nat} {l : List It} (h : Pile w b j r l) (n : Nat) : Pile (w.drewN n) b j r l := h
theorem Pile.drew {w : World} {b j : Nat} {r : Option Nat} {l : List It} (h : Pile w b j r l) : Pile w.drew b j r l := h

/-- Of what there was, the pile's own cell and its row alone may have turned. -/
structure Kp (b j : Nat) (r : Option Nat) (w w' : World) : Prop where
  kept : Kept (Of b r) w w'
  side : ∀ o, o ≠ j → w'.cell? ⟨b, o, none⟩ = w.cell? ⟨b, o, none⟩
  froz : ∀ o, w'.frozen? ⟨b, o, none⟩ = w.frozen? ⟨b, o, none⟩
theorem Kp.refl (b j : Nat) (r : Option Nat) (w : World) : Kp b j r w w := ⟨Kept.refl _ _, fun _ _ => rfl, fun _ => rfl⟩
theorem Kp.trans {b j : Nat} {r r' : Option Nat} {a w w' : World} (h : Kp b j r a w) (k : Kp b j r' w w') (hr : ∀ i, i < a.heap.size → some i = r' → some i = r) : Kp b j r a w' :=
  ⟨h.kept.trans k.kept (fun i hi hx => hx.imp id (hr i hi)), fun o ho => (k.side o ho).trans (h.side o ho), fun o => (k.froz o).trans (h.froz o)⟩
/-- Block b as it was. -/
theorem Kp.of_kept {b j : Nat} {r : Option Nat} {w w' : World} {X : Nat → Prop} (h : Kept X w w') (hb : b < w.heap.size) (hn : ¬ X b) (hX : ∀ k, k < w.heap.size → X k → some k = r) : Kp b j r w w' :=
  ⟨h.mono (fun k hk hx => .inr (hX k hk hx)), fun o _ => World.cell?_of_block (a := ⟨b, o, none⟩) (h.block b hb hn), fun o => World.frozen?_of_block (a := ⟨b, o, none⟩) (h.block b hb hn)⟩
theorem Kp.below {b j : Nat} {r : Option Nat} {w w' : World} {B : Nat} (h : Below B w w') (hB : w.heap.size ≤ B) (hb : b < w.heap.size) : Kp b j r w w' :=
  Kp.of_kept (Kept.of_below (X := fun _ => False) h hB) hb id (fun _ _ h => h.elim)
theorem Kp.alloc {b j : Nat} {r : Option Nat} {w w' : World} (h : Kp b j r w w') (hb : b < w.heap.size) (o : Obj) : Kp b j r w (w'.alloc o) :=
  h.trans (Kp.of_kept (r := none) ((Kept.refl (fun _ => False) w').alloc o) (Nat.lt_of_lt_of_le hb h.kept.size) id (fun _ _ h => h.elim)) (fun _ _ e => by cases e)
theorem Kp.drew {b j : Nat} {r : Option Nat} {w w' : World} (h : Kp b j r w w') : Kp b j r w w'.drew := ⟨h.kept.drew, h.side, h.froz⟩

theorem row_cells {w : World} {base g cap : Nat} {l : List It} {e : TypeId} (h : w.ownsRow base e 3 (.slice (some ⟨g, 0, none⟩) l.length cap) l.length (csL l)) {k : Nat} (hk : k < l.length) :
    w.cell? ⟨g, k * 3, none⟩ = some (.int .i64 (at_ l k).c) ∧ w.cell? ⟨g, k * 3 + 1, none⟩ = some (.int .i64 (at_ l k).t) ∧ w.cell? ⟨g, k * 3 + 2, none⟩ = some (.int .i64 (at_ l k).i) := by
  refine ⟨?_, ?_, ?_⟩
  · rw [h.cellAt _ (by omega), csL_c hk]
  · rw [h.cellAt _ (by omega), csL_t hk]
  · rw [h.cellAt _ (by omega), csL_i hk]
end Go.Proofs.YtkfijjjnidiejaaDoor

/-
  The pile's small functions: their walks.
-/
namespace Go.Proofs.YtkfijjjnidiejaaDoor
set_option maxRecDepth 100000
open Go Go.RowKit Pq

def LenPost (n : Nat) (w : World) (e : Ending) (w' : World) : Prop := e = .returned (.int .i64 (n : Int)) ∧ w = w'

set_option maxHeartbeats 400000 in
theorem ret_bool {a b : Bool} (h : a = b) : Ending.returned (.bool a) = .returned (.bool b) := by rw [h]

set_option maxHeartbeats 400000 in
theorem len_any {w : World} {b j : Nat} {r : Option Nat} {l : List It} (h : Pile w b j r l) :
    Calls Tryd.prog 81 #[.pointer (some ⟨b, j, none⟩)] w fun e w' => e = .returned (.int .i64 (l.length : Int)) ∧ w = w' := by
  obtain ⟨v, hc, hf, hr, hn, ho⟩ := h
  obtain ⟨a, cap, rfl⟩ : ∃ a cap, v = .slice a l.length cap := by
    rcases ho.2 with ⟨rfl, h0⟩ | ⟨g, cap, cur, rfl, _⟩
    · exact ⟨none, 0, by rw [h0]⟩
    · exact ⟨_, _, rfl⟩
  clear ho hr hn hf
  generalize l.length = n at hc ⊢
  go_enter Tryd.func81, Tryd.ntmps81
  go_wp2
  go_ret
  exact ⟨rfl, rfl⟩

set_option maxHeartbeats 400000 in
theorem len_none (w : World) :
    Calls Tryd.prog 81 #[.pointer none] w fun e w' => e = .returned (.int .i64 0) ∧ w = w' := by
  go_enter Tryd.func81, Tryd.ntmps81
  go_wp2
  go_ret
  exact ⟨rfl, rfl⟩

theorem cell_a1 {w : World} {p : Addr} {v : Value} (h : w.cell? p = some v) : ∀ o, (w.alloc o).cell? p = some v := fun o => (World.cell?_alloc_lt w o p (World.block_lt_of_cell? w p h)).trans h
theorem cell_a2 {w : World} {p : Addr} {v : Value} (h : w.cell? p = some v) : ∀ o o', ((w.alloc o).alloc o').cell? p = some v := fun o o' => cell_a1 (cell_a1 h o) o'

set_option maxHeartbeats 1000000 in
theorem ahead_any {w : World} {b j c : Nat} {r : Option Nat} {l : List It} (h : Pile w b j r l) (hp : w.cell? ⟨c, 0, none⟩ = some (.pointer (some ⟨b, j, none⟩))) (a k : Nat) (ha : a < l.length) (hk : k < l.length) :
    Calls Tryd.prog 91 #[.int .i64 (a : Int), .int .i64 (k : Int), .pointer (some ⟨c, 0, none⟩)] w fun e w' => e = .returned (.bool (lt (at_ l a) (at_ l k))) ∧ Below w.heap.size w w' := by
  obtain ⟨v, hc, hf, hr, hn, ho⟩ := h
  obtain ⟨g, cap, rfl⟩ : ∃ g cap, v = .slice (some ⟨g, 0, none⟩) l.length cap := by
    rcases ho.2 with ⟨rfl, h0⟩ | ⟨g, cap, cur, rfl, _⟩
    · omega
    · exact ⟨_, _, rfl⟩
  obtain ⟨a0, a1, a2⟩ := row_cells ho ha
  obtain ⟨k0, k1, k2⟩ := row_cells ho hk
  clear ho hr hn hf
  generalize at_ l a = x at *
  generalize at_ l k = y at *
  obtain ⟨x0, x1, x2⟩ := x
  obtain ⟨y0, y1, y2⟩ := y
  simp only at *
  generalize l.length = n at *
  go_enter Tryd.func91, Tryd.ntmps91
  go_wp2
  have ba0 := cell_a1 a0
  have ba1 := cell_a1 a1
  have ba2 := cell_a1 a2
  have bk0 := cell_a1 k0
  have bk1 := cell_a1 k1
  have bk2 := cell_a1 k2
  have bhc := cell_a1 hc
  have bhp := cell_a1 hp
  have ca0 := cell_a2 a0
  have ca1 := cell_a2 a1
  have ca2 := cell_a2 a2
  have ck0 := cell_a2 k0
  have ck1 := cell_a2 k1
  have ck2 := cell_a2 k2
  have chc := cell_a2 hc
  have chp := cell_a2 hp
  go_region
  all_goals
    clear ba0 ba1 ba2 bk0 bk1 bk2 bhc bhp ca0 ca1 ca2 ck0 ck1 ck2 chc chp a0 a1 a2 k0 k1 k2 hc hp
    go_wp2
    all_goals
      go_ret
      refine ⟨ret_bool ?_, ?_⟩
      · unfold lt
        simp_all
      · exact (((Below.refl _ _).alloc (Nat.le_refl _) _).alloc (by simp) _).drew
end Go.Proofs.YtkfijjjnidiejaaDoor

/-
  The pile's swap: its walk.
-/
namespace Go.Proofs.YtkfijjjnidiejaaDoor
set_option maxRecDepth 100000
open Go Go.RowKit Pq

/-- Three cells of a row stored: one item put into its place. -/
def put3 (w : World) (g k : Nat) (x : It) : World :=
  ((w.setCell ⟨g, k * 3, none⟩ (.int .i64 x.c)).setCell ⟨g, k * 3 + 1, none⟩ (.int .i64 x.t)).setCell ⟨g, k * 3 + 2, none⟩ (.int .i64 x.i)

theorem put3_row {w : World} {base g cap : Nat} {l : List It} {e : TypeId} (h : w.ownsRow base e 3 (.slice (some ⟨g, 0, none⟩) l.length cap) l.length (csL l)) {k : Nat} (hk : k < l.length) (x : It) :
    (put3 w g k x).ownsRow base e 3 (.slice (some ⟨g, 0, none⟩) (l.set k x).length cap) (l.set k x).length (csL (l.set k x)) := by
  rw [csL_set hk, List.length_set]
  exact (((h.stored _ _).1.stored _ _).1.stored _ _).1

theorem put3_kept {X : Nat → Prop} {a w : World} (h : Kept X a w) {g : Nat} (hg : X g) (k : Nat) (x : It) : Kept X a (put3 w g k x) :=
  ((h.setCell (p := ⟨g, k * 3, none⟩) (.inl hg) _).setCell (p := ⟨g, k * 3 + 1, none⟩) (.inl hg) _).setCell (p := ⟨g, k * 3 + 2, none⟩) (.inl hg) _

theorem put3_block {w : World} {b j g k : Nat} {x : It} (h : b ≠ g) : (put3 w g k x).cell? ⟨b, j, none⟩ = w.cell? ⟨b, j, none⟩ := by
  unfold put3
  rw [World.cell?_setCell_other _ _ _ _ (by intro e; cases e; exact h rfl), World.cell?_setCell_other _ _ _ _ (by intro e; cases e; exact h rfl), World.cell?_setCell_other _ _ _ _ (by intro e; cases e; exact h rfl)]
theorem put3_frozen {w : World} {b j g k : Nat} {x : It} (h : b ≠ g) : (put3 w g k x).frozen? ⟨b, j, none⟩ = w.frozen? ⟨b, j, none⟩ :=
  World.frozen?_of_block (by
    unfold put3
    rw [Below.heap_setCell _ _ _ _ h, Below.heap_setCell _ _ _ _ h, Below.heap_setCell _ _ _ _ h])

def SwapPost (w : World) (b j : Nat) (r : Option Nat) (l : List It) (e : Ending) (w' : World) : Prop :=
  e = .returned (.tuple #[]) ∧ Pile w' b j r l ∧ Kept (fun k => some k = r) w w'

theorem swap_post {w : World} {b j g cap : Nat} {r : Option Nat} {l : List It} (hc : w.cell? ⟨b, j, none⟩ = some (.slice (some ⟨g, 0, none⟩) l.length cap)) (hf : w.frozen? ⟨b, j, none⟩ = false)
    (hr : (Value.slice (some ⟨g, 0, none⟩) l.length cap).ownBlock = r) (hn : r ≠ some b) (ho : w.ownsRow 0 89 3 (.slice (some ⟨g, 0, none⟩) l.length cap) l.length (csL l)) {a k : Nat} (ha : a < l.length) (hk : k < l.length) :
    SwapPost w b j r (swp l a k) (.returned (.tuple #[])) (put3 (put3 w g a (at_ l k)) g k (at_ l a)).drew := by
  have hgb : b ≠ g := by
    rintro rfl
    exact hn hr.symm
  have hg : some g = r := hr
  have h1 := put3_row ho ha (at_ l k)
  have h2 := put3_row h1 (k := k) (by simpa using hk) (at_ l a)
  have hK : Kept (fun k => some k = r) w (put3 (put3 w g a (at_ l k)) g k (at_ l a)) := put3_kept (X := fun k => some k = r) (put3_kept (X := fun k => some k = r) (Kept.refl _ _) hg _ _) hg _ _
  have e : ((l.set a (at_ l k)).set k (at_ l a)).length = l.length := by simp
  rw [e] at h2
  have hP : Pile (put3 (put3 w g a (at_ l k)) g k (at_ l a)) b j r (swp l a k) := by
    refine ⟨.slice (some ⟨g, 0, none⟩) l.length cap, ?_, ?_, hr, hn, ?_⟩
    · rw [put3_block hgb, put3_block hgb]; exact hc
    · rw [put3_frozen hgb, put3_frozen hgb]; exact hf
    · rw [swp_length]; exact h2
  exact ⟨rfl, hP.drew, hK.drew⟩

set_option maxHeartbeats 1000000 in
theorem swap_any {w : World} {b j : Nat} {r : Option Nat} {l : List It} (h : Pile w b j r l) (a k : Nat) (ha : a < l.length) (hk : k < l.length) (hne : a ≠ k) :
    Calls Tryd.prog 80 #[.pointer (some ⟨b, j, none⟩), .int .i64 (a : Int), .int .i64 (k : Int)] w (SwapPost w b j r (swp l a k)) := by
  obtain ⟨v, hc, hf, hr, hn, ho⟩ := h
  obtain ⟨g, cap, rfl⟩ : ∃ g cap, v = .slice (some ⟨g, 0, none⟩) l.length cap := by
    rcases ho.2 with ⟨rfl, h0⟩ | ⟨g, cap, cur, rfl, _⟩
    · omega
    · exact ⟨_, _, rfl⟩
  have HO : Hid (w.ownsRow 0 89 3 (.slice (some ⟨g, 0, none⟩) l.length cap) l.length (csL l)) := ho
  obtain ⟨a0, a1, a2⟩ := row_cells ho ha
  obtain ⟨k0, k1, k2⟩ := row_cells ho hk
  have fz : ∀ o, w.frozen? ⟨g, o, none⟩ = false := fun o => ho.frozenAt o
  have HR : Hid ((Value.slice (some ⟨g, 0, none⟩) l.length cap).ownBlock = r) := hr
  have HN : Hid (r ≠ some b) := hn
  have hgb : g ≠ b := by
    rintro rfl
    exact HN.out HR.out.symm
  have HF : Hid (SwapPost w b j r (swp l a k) (.returned (.tuple #[])) (put3 (put3 w g a (at_ l k)) g k (at_ l a)).drew) := swap_post hc hf HR.out HN.out ho ha hk
  clear ho hr hn
  generalize hx : at_ l a = x at *
  generalize hy : at_ l k = y at *
  have HX : Hid (at_ l a = x) := hx
  have HY : Hid (at_ l k = y) := hy
  clear hx hy
  obtain ⟨x0, x1, x2⟩ := x
  obtain ⟨y0, y1, y2⟩ := y
  simp only at *
  have HA : Hid (a < l.length) := ha
  have HK : Hid (k < l.length) := hk
  generalize hL : l.length = n at *
  have HLn : Hid (l.length = n) := hL
  clear hL
  go_enter Tryd.func80, Tryd.ntmps80
  go_wp2
  go_region
  go_end0
  exact HF.out
end Go.Proofs.YtkfijjjnidiejaaDoor
