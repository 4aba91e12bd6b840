/-
  Graphs in memory: which blocks a call may turn; a graph's cell, its table, its rows.
-/
import Derived.Test.YtlcadkhhpnaofaaGPure
import Derived.Test.YtlcadkhhpnaofaaRows
import Derived.WalkKit
import Derived.WalkSpells
import Derived.WalkLawsBesides
import Derived.Below
import Derived.Laws.OwnMore
import Derived.Deep.AppendLies
import Derived.Deep.Draws
import Derived.Deep.OwnRows
import Derived.Lib.Hide
namespace Go.Proofs.Ytlcadkhhpnaofaa
set_option maxRecDepth 100000
open Go Go.RowKit Gq

/-- Of what there was, the blocks of X alone may have turned. -/
structure Kept (X : Nat → Prop) (w w' : World) : Prop where
  os : w'.os = w.os
  tape : w'.tape = w.tape
  output : w'.output = w.output
  size : w.heap.size ≤ w'.heap.size
  block : ∀ k, k < w.heap.size → ¬ X k → w'.heap[k]? = w.heap[k]?

abbrev Still (w w' : World) : Prop := Kept (fun _ => False) w w'

namespace Kept
variable {X Y : Nat → Prop} {a w w' : World}
theorem refl (X : Nat → Prop) (w : World) : Kept X w w := ⟨rfl, rfl, rfl, Nat.le_refl _, fun _ _ _ => rfl⟩
theorem trans (h : Kept X a w) (k : Kept Y w w') (hY : ∀ i, i < a.heap.size → Y i → X i) : Kept X a w' :=
  ⟨k.os.trans h.os, k.tape.trans h.tape, k.output.trans h.output, Nat.le_trans h.size k.size, fun i hi hx => (k.block i (Nat.lt_of_lt_of_le hi h.size) (fun hy => hx (hY i hi hy))).trans (h.block i hi hx)⟩
theorem mono (h : Kept X w w') (hX : ∀ k, k < w.heap.size → X k → Y k) : Kept Y w w' := ⟨h.os, h.tape, h.output, h.size, fun k hk hn => h.block k hk (fun hx => hn (hX k hk hx))⟩
theorem drew (h : Kept X a w) : Kept X a w.drew := ⟨h.os, h.tape, h.output, h.size, h.block⟩
theorem drewN (h : Kept X a w) (n : Nat) : Kept X a (w.drewN n) := ⟨h.os, h.tape, h.output, h.size, h.block⟩
theorem alloc (h : Kept X a w) (o : Obj) : Kept X a (w.alloc o) :=
  ⟨h.os, h.tape, h.output, Nat.le_trans h.size (by simp), fun k hk hx => (Below.heap_alloc w o k (Nat.lt_of_lt_of_le hk h.size)).trans (h.block k hk hx)⟩
theorem setCell (h : Kept X a w) {p : Addr} (hp : X p.block ∨ a.heap.size ≤ p.block) (u : Value) : Kept X a (w.setCell p u) :=
  ⟨h.os, h.tape, h.output, by simpa [World.setCell] using h.size, fun k hk hx => (Below.heap_setCell w p u k (by
    rintro rfl
    rcases hp with hp | hp
    · exact hx hp
    · omega)).trans (h.block k hk hx)⟩
theorem grown (h : Kept X a w) {row : Option Nat} (hg : w.grownBy w' row) (hr : ∀ k, row = some k → X k ∨ a.heap.size ≤ k) : Kept X a w' :=
  ⟨hg.os.trans h.os, hg.tape.trans h.tape, hg.output.trans h.output, Nat.le_trans h.size hg.size, fun k hk hx => (hg.block k (Nat.lt_of_lt_of_le hk h.size) (fun e => by
    rcases hr k e.symm with h1 | h1
    · exact hx h1
    · omega)).trans (h.block k hk hx)⟩
theorem of_below {B : Nat} (h : Below B w w') (hB : w.heap.size ≤ B) : Kept X w w' := ⟨h.os, h.tape, h.output, h.size, fun k hk _ => h.block k (Nat.lt_of_lt_of_le hk hB)⟩
theorem below {B : Nat} (h : Kept X w w') (hX : ∀ k, X k → B ≤ k) (hB : B ≤ w.heap.size) : Below B w w' :=
  ⟨h.os, h.tape, h.output, h.size, fun k hk => h.block k (by omega) (fun hx => by have := hX k hx; omega)⟩
theorem cell (h : Kept X w w') {p : Addr} {v : Value} (hc : w.cell? p = some v) (hp : ¬ X p.block) : w'.cell? p = some v :=
  (World.cell?_of_block (h.block p.block (World.block_lt_of_cell? w p hc) hp)).trans hc
theorem frozen (h : Kept X w w') {p : Addr} (hlt : p.block < w.heap.size) (hp : ¬ X p.block) : w'.frozen? p = w.frozen? p :=
  World.frozen?_of_block (h.block p.block hlt hp)
theorem row (h : Kept X w w') {base : Nat} {e : TypeId} {size : Nat} {v : Value} {n : Nat} {xs : List Value} (ho : w.ownsRow base e size v n xs) (hv : ∀ g, v.ownBlock = some g → ¬ X g) : w'.ownsRow base e size v n xs := by
  refine ⟨ho.1, ?_⟩
  rcases ho.2 with hn | ⟨g, cap, cur, rfl, hb, hg, rest⟩
  · exact .inl hn
  · exact .inr ⟨g, cap, cur, rfl, hb, by rw [h.block g (Array.getElem?_eq_some_iff.1 hg).1 (hv g rfl)]; exact hg, rest⟩
end Kept

theorem blk_cell {w : World} {b : Nat} {cs : Array Value} {t : TypeId} {fr : Nat × Nat} (h : w.heap[b]? = some (.cells cs t fr)) (j : Nat) : w.cell? ⟨b, j, none⟩ = cs[j]? := by
  simp only [World.cell?, h]
  simp
theorem blk_free {w : World} {b : Nat} {cs : Array Value} {t : TypeId} (h : w.heap[b]? = some (.cells cs t (0, 0))) (j : Nat) : w.frozen? ⟨b, j, none⟩ = false := by
  simp [World.frozen?, h]
theorem blk_lt {w : World} {b : Nat} {o : Obj} (h : w.heap[b]? = some o) : b < w.heap.size := (Array.getElem?_eq_some_iff.1 h).1

/-- A base may be less. -/
theorem row_base {w : World} {base base' : Nat} {e : TypeId} {size : Nat} {v : Value} {n : Nat} {xs : List Value} (h : w.ownsRow base e size v n xs) (hb : base' ≤ base) : w.ownsRow base' e size v n xs := by
  refine ⟨h.1, ?_⟩
  rcases h.2 with hn | ⟨g, cap, cur, hv, h1, rest⟩
  · exact .inl hn
  · exact .inr ⟨g, cap, cur, hv, Nat.le_trans hb h1, rest⟩

def ni (n : Nat) : Value := .int .i64 (n : Int)
def nis (l : List Nat) : List Value := l.map ni
theorem nis_length (l : List Nat) : (nis l).length = l.length := by simp [nis]
theorem nis_append (l m : List Nat) : nis (l ++ m) = nis l ++ nis m := by simp [nis]
theorem nis_one {l : List Nat} : ∀ u ∈ nis l, u.oneCell' = true := by
  intro u hu
  obtain ⟨n, _, rfl⟩ := List.mem_map.1 hu
  rfl
theorem nis_get {l : List Nat} {k : Nat} (h : k < l.length) : (nis l)[k]? = some (ni (l.getD k 0)) := by simp [nis, List.getD, h]

/-- A list of nodes: a slice of the program's own, in a block of its own (or nil). -/
def RowAt (w : World) (v : Value) (l : List Nat) : Prop := w.ownsRow 0 3 1 v l.length (nis l)
theorem RowAt.nil (w : World) : RowAt w (.slice none 0 0) [] := World.ownsRow_nil ..
theorem RowAt.kept {X : Nat → Prop} {w w' : World} {v : Value} {l : List Nat} (h : RowAt w v l) (hk : Kept X w w') (hv : ∀ g, v.ownBlock = some g → ¬ X g) : RowAt w' v l := hk.row h hv
theorem RowAt.still {w w' : World} {v : Value} {l : List Nat} (h : RowAt w v l) (hk : Still w w') : RowAt w' v l := hk.row h (fun _ _ => id)
theorem RowAt.lt {w : World} {v : Value} {l : List Nat} (h : RowAt w v l) {k : Nat} (hk : v.ownBlock = some k) : k < w.heap.size := (World.ownsRow.lt h k hk).2
/-- What it looks like. -/
theorem RowAt.form {w : World} {v : Value} {l : List Nat} (h : RowAt w v l) : ∃ A cap, v = .slice A l.length cap ∧ l.length ≤ cap ∧ cap ≤ maxLen ∧ (A = none → l = [] ∧ cap = 0) ∧
    ∀ k, k < l.length → ∃ g, A = some ⟨g, 0, none⟩ ∧ w.cell? ⟨g, k, none⟩ = some (.int .i64 ((l.getD k 0 : Nat) : Int)) ∧ w.frozen? ⟨g, k, none⟩ = false := by
  rcases h.2 with ⟨rfl, h0⟩ | ⟨g, cap, cur, rfl, hb, hg, h1, h2, h3, h4⟩
  · refine ⟨none, 0, by rw [h0], by omega, by unfold maxLen; omega, fun _ => ⟨List.eq_nil_of_length_eq_zero h0, rfl⟩, fun k hk => by omega⟩
  · refine ⟨_, _, rfl, h1, h2, (fun e => by cases e), fun k hk => ⟨g, rfl, ?_, ?_⟩⟩
    · have := World.ownsRow.cellAt (h : w.ownsRow 0 3 1 (.slice (some ⟨g, 0, none⟩) l.length cap) l.length (nis l)) k (by omega)
      rw [this, nis_get hk]
      rfl
    · exact World.ownsRow.frozenAt (h : w.ownsRow 0 3 1 (.slice (some ⟨g, 0, none⟩) l.length cap) l.length (nis l)) k

/-- A row's head. -/
def hd (Vs : List Value) (i : Nat) : Value := Vs.getD i (.slice none 0 0)
theorem hd_set {Vs : List Value} {i j : Nat} {v : Value} (h : i < Vs.length) : hd (Vs.set i v) j = if j = i then v else hd Vs j := by
  unfold hd
  simp only [List.getD_eq_getElem?_getD, List.getElem?_set]
  by_cases e : i = j
  · subst e; simp [h]
  · rw [if_neg e, if_neg (fun h => e h.symm)]

/-- A table of rows: a slice of the program's own whose cells are the rows' heads Vs. -/
structure Tab (w : World) (A : Value) (Vs : List Value) (R : Gr) (T : Option Nat) : Prop where
  own : w.ownsRow 0 34 1 A R.length Vs
  blk : A.ownBlock = T
  row : ∀ i, i < R.length → RowAt w (hd Vs i) (row R i) ∧ ∀ k, (hd Vs i).ownBlock = some k → T ≠ some k ∧ ∀ j, j < R.length → j ≠ i → (hd Vs j).ownBlock ≠ some k

/-- A graph: its one cell, its table, its rows; S: its blocks. -/
def GAt (w : World) (b : Nat) (R : Gr) (S : Nat → Prop) : Prop :=
  ∃ A Vs T, w.cell? ⟨b, 0, none⟩ = some A ∧ w.frozen? ⟨b, 0, none⟩ = false ∧ Tab w A Vs R T ∧ T ≠ some b ∧ S b ∧ (∀ g, T = some g → S g) ∧
    (∀ i, i < R.length → ∀ k, (hd Vs i).ownBlock = some k → S k ∧ k ≠ b) ∧ ∀ k, S k → k < w.heap.size

theorem Tab.kept {X : Nat → Prop} {w w' : World} {A : Value} {Vs : List Value} {R : Gr} {T : Option Nat} (h : Tab w A Vs R T) (hk : Kept X w w') (hT : ∀ g, T = some g → ¬ X g)
    (hr : ∀ i, i < R.length → ∀ k, (hd Vs i).ownBlock = some k → ¬ X k) : Tab w' A Vs R T :=
  ⟨hk.row h.own (fun g hg => hT g (by rw [← h.blk, hg])), h.blk, fun i hi => ⟨(h.row i hi).1.kept hk (hr i hi), (h.row i hi).2⟩⟩
theorem GAt.kept {X : Nat → Prop} {w w' : World} {b : Nat} {R : Gr} {S : Nat → Prop} (h : GAt w b R S) (hk : Kept X w w') (hX : ∀ k, S k → ¬ X k) : GAt w' b R S := by
  obtain ⟨A, Vs, T, hc, hf, ht, hn, hb, hT, hr, hlt⟩ := h
  refine ⟨A, Vs, T, hk.cell hc (hX b hb), ?_, ht.kept hk (fun g hg => hX g (hT g hg)) (fun i hi k hk => hX k (hr i hi k hk).1), hn, hb, hT, hr, fun k hk' => Nat.lt_of_lt_of_le (hlt k hk') hk.size⟩
  rw [hk.frozen (p := ⟨b, 0, none⟩) (hlt b hb) (hX b hb)]; exact hf
theorem GAt.still {w w' : World} {b : Nat} {R : Gr} {S : Nat → Prop} (h : GAt w b R S) (hk : Still w w') : GAt w' b R S := h.kept hk (fun _ _ => id)
theorem GAt.below {w w' : World} {b : Nat} {R : Gr} {S : Nat → Prop} {B : Nat} (h : GAt w b R S) (hb : Below B w w') (hB : w.heap.size ≤ B) : GAt w' b R S := h.still (Kept.of_below hb hB)
theorem GAt.alloc {w : World} {b : Nat} {R : Gr} {S : Nat → Prop} (h : GAt w b R S) (o : Obj) : GAt (w.alloc o) b R S := h.still ((Kept.refl _ w).alloc o)
theorem GAt.drewN {w : World} {b : Nat} {R : Gr} {S : Nat → Prop} (h : GAt w b R S) (n : Nat) : GAt (w.drewN n) b R S := h.still ((Kept.refl _ w).drewN n)
theorem GAt.mono {w : World} {b : Nat} {R : Gr} {S S' : Nat → Prop} (h : GAt w b R S) (hS : ∀ k, S k → S' k) (hlt : ∀ k, S' k → k < w.heap.size) : GAt w b R S' := by
  obtain ⟨A, Vs, T, hc, hf, ht, hn, hb, hT, hr, _⟩ := h
  exact ⟨A, Vs, T, hc, hf, ht, hn, hS _ hb, fun g hg => hS g (hT g hg), fun i hi k hk => ⟨hS k (hr i hi k hk).1, (hr i hi k hk).2⟩, hlt⟩
theorem GAt.lt {w : World} {b : Nat} {R : Gr} {S : Nat → Prop} (h : GAt w b R S) : ∀ k, S k → k < w.heap.size := by
  obtain ⟨_, _, _, _, _, _, _, _, _, _, h⟩ := h
  exact h

/-- A row of it, as a walk reads it. -/
theorem Tab.head {w : World} {A : Value} {Vs : List Value} {R : Gr} {T : Option Nat} (h : Tab w A Vs R T) {i : Nat} (hi : i < R.length) :
    ∃ g cap, A = .slice (some ⟨g, 0, none⟩) R.length cap ∧ T = some g ∧ w.cell? ⟨g, i, none⟩ = some (hd Vs i) ∧ w.frozen? ⟨g, i, none⟩ = false := by
  have ho := h.own
  rcases ho.2 with ⟨_, h0⟩ | ⟨g, cap, cur, rfl, hb, hg, _⟩
  · omega
  · refine ⟨g, cap, rfl, h.blk.symm, ?_, World.ownsRow.frozenAt ho i⟩
    rw [World.ownsRow.cellAt ho i (by omega)]
    have hl := ho.1
    simp [hd, List.getD, show i < Vs.length by omega]
theorem Tab.form {w : World} {A : Value} {Vs : List Value} {R : Gr} {T : Option Nat} (h : Tab w A Vs R T) : ∃ P cap, A = .slice P R.length cap := by
  have ho := h.own
  rcases ho.2 with ⟨rfl, h0⟩ | ⟨g, cap, cur, rfl, _⟩
  · exact ⟨none, 0, by rw [h0]⟩
  · exact ⟨_, _, rfl⟩
end Go.Proofs.Ytlcadkhhpnaofaa
