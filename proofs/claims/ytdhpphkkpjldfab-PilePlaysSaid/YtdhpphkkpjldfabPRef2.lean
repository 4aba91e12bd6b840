/-
  The document's pile: Top.
-/
import Derived.Test.YtdhpphkkpjldfabPRef1
import Derived.StillTailTactics
import Derived.Laws.AppendOwnNone
namespace Go.Proofs.Ytdhpphkkpjldfab
set_option maxRecDepth 100000
open Go Go.RowKit Pq

/-- The document's pile: its one cell, and its items in order, wherever they lie. -/
structure RefAt (w : World) (b : Nat) (A : Option Addr) (s : List It) : Prop where
  cell : ∃ cap, w.cell? ⟨b, 0, none⟩ = some (.slice A s.length cap) ∧ s.length ≤ cap ∧ (A = none → cap = 0)
  froz : w.frozen? ⟨b, 0, none⟩ = false
  items : ItemsAt w A s
  far : ∀ a, A = some a → a.block ≠ b ∧ a.block < w.heap.size

theorem ItemsAt.kept {w w' : World} {A : Option Addr} {l : List It} {X : Nat → Prop} (h : ItemsAt w A l) (hk : Kept X w w') (hX : ∀ a, A = some a → ¬ X a.block) : ItemsAt w' A l := by
  intro k hlt
  obtain ⟨a, h0, h1, h2, h3, h4⟩ := h k hlt
  refine ⟨a, h0, Nat.lt_of_lt_of_le h1 hk.size, ?_, ?_, ?_⟩
  · exact hk.cell h2 (by rw [add_block]; exact hX a h0)
  · exact hk.cell h3 (by simp only [add_block]; exact hX a h0)
  · exact hk.cell h4 (by simp only [add_block]; exact hX a h0)

theorem RefAt.lt {w : World} {b : Nat} {A : Option Addr} {s : List It} (h : RefAt w b A s) : b < w.heap.size := by
  obtain ⟨cap, hc, _⟩ := h.cell
  exact World.block_lt_of_cell? w _ hc
theorem RefAt.kept {w w' : World} {b : Nat} {A : Option Addr} {s : List It} {X : Nat → Prop} (h : RefAt w b A s) (hk : Kept X w w') (hb : ¬ X b) (hA : ∀ a, A = some a → ¬ X a.block) : RefAt w' b A s := by
  have hlt := h.lt
  obtain ⟨⟨cap, hc, hn⟩, hf, hi, hfar⟩ := h
  exact ⟨⟨cap, hk.cell hc hb, hn⟩, by rw [hk.frozen (p := ⟨b, 0, none⟩) hlt hb]; exact hf, hi.kept hk hA, fun a e => ⟨(hfar a e).1, Nat.lt_of_lt_of_le (hfar a e).2 hk.size⟩⟩
theorem RefAt.grow {w w' : World} {b : Nat} {A : Option Addr} {s : List It} (h : RefAt w b A s) (hk : Kept (fun _ => False) w w') : RefAt w' b A s := h.kept hk id (fun _ _ => id)

set_option maxHeartbeats 400000 in
theorem rtop_some {w : World} {b : Nat} {A : Option Addr} {x : It} {s : List It} (h : RefAt w b A (x :: s)) :
    Calls Try.prog 12 #[.pointer (some ⟨b, 0, none⟩)] w fun e w' => e = .returned (.tuple #[.agg #[.int .i64 x.c, .int .i64 x.t, .int .i64 x.i], .bool true]) ∧ Below w.heap.size w w' := by
  obtain ⟨⟨cap, hc, hn⟩, hf, hi, hfar⟩ := h
  obtain ⟨a, rfl, hab, a0, a1, a2⟩ := hi 0 (by simp)
  have ha : a.add (0 * 3) = a := by simp [Addr.add]
  rw [ha] at a0 a1 a2
  simp only [at_cons_zero, List.length_cons] at *
  have b0 := cell_a1 a0
  have b1 := cell_a1 a1
  have b2 := cell_a1 a2
  have bc := cell_a1 hc
  clear hi hfar hab ha hf hc
  obtain ⟨x0, x1, x2⟩ := x
  simp only at *
  generalize s.length = n at *
  have hne : ((n : Int) + 1 == 0) = false := by rw [beq_eq_false_iff_ne]; omega
  go_enter Try.func12, Try.ntmps12
  go_wp2
  exact bodyPost_ret (v := .tuple #[.agg #[.int .i64 x0, .int .i64 x1, .int .i64 x2], .bool true]) (by simp [results, Try.results12, go_sem]) rfl ⟨rfl, (Below.refl _ _).alloc (Nat.le_refl _) _⟩

set_option maxHeartbeats 400000 in
theorem rtop_nil {w : World} {b : Nat} {A : Option Addr} (h : RefAt w b A []) :
    Calls Try.prog 12 #[.pointer (some ⟨b, 0, none⟩)] w (NoItem w) := by
  obtain ⟨⟨cap, hc, hn⟩, hf, hi, hfar⟩ := h
  simp only [List.length_nil] at *
  have bc := cell_a1 hc
  clear hi hfar hf hc
  go_enter Try.func12, Try.ntmps12
  go_wp2
  exact bodyPost_ret (v := .tuple #[.agg #[.int .i64 0, .int .i64 0, .int .i64 0], .bool false]) (by simp [results, Try.results12, go_sem]) rfl ⟨rfl, (Below.refl _ _).alloc (Nat.le_refl _) _⟩
end Go.Proofs.Ytdhpphkkpjldfab
