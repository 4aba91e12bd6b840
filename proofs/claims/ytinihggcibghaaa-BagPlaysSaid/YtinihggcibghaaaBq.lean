/-
  What All answers, as a list that is read.
-/
import Derived.Test.YtinihggcibghaaaB9
namespace Go.Proofs.Ytinihggcibghaaa
set_option maxRecDepth 100000
set_option linter.unusedSimpArgs false
open Go Go.RowKit Bg

/-- What is told of a packet: the same as All tells. -/
structure AllQ (W : World) (l : List Fl) (g cap : Nat) : Prop where
  cells : ∀ k, k < l.length → (W.cell? ⟨g, k * 5, none⟩ = some (.int .i64 (l.getD k noFl).n) ∧ W.cell? ⟨g, k * 5 + 1, none⟩ = some (.int .i64 (l.getD k noFl).f) ∧ W.cell? ⟨g, k * 5 + 2, none⟩ = some (.int .i64 (l.getD k noFl).t) ∧ W.cell? ⟨g, k * 5 + 4, none⟩ = some (.bool (l.getD k noFl).s)) ∧
    ∃ A c, W.cell? ⟨g, k * 5 + 3, none⟩ = some (.slice A (l.getD k noFl).d.length c) ∧ BytesAt W A (l.getD k noFl).d
theorem AllQ.below {W W' : World} {l : List Fl} {g cap : Nat} (h : AllQ W l g cap) (hb : Below W.heap.size W W') : AllQ W' l g cap := by
  refine ⟨fun k hk => ?_⟩
  obtain ⟨⟨h0, h1, h2, h4⟩, A, c, h3, h5⟩ := h.cells k hk
  have kk : Kept (fun _ => False) W W' := Kept.of_below hb (Nat.le_refl _)
  exact ⟨⟨kk.cell h0 id, kk.cell h1 id, kk.cell h2 id, kk.cell h4 id⟩, A, c, kk.cell h3 id, h5.below hb⟩
/-- What All answers, as a list that is read. -/
theorem AllP.q {w W' : World} {l : List Fl} {e : Ending} (h : AllP w l e W') : ∃ A cap, e = .returned (.slice A l.length cap) ∧ (0 < l.length → ∃ g, A = some ⟨g, 0, none⟩ ∧ AllQ W' l g cap) ∧ l.length ≤ cap ∧ cap ≤ maxLen ∧ Below w.heap.size w W' := by
  obtain ⟨v, E, rfl, h1, h2, h3⟩ := h
  obtain ⟨A, cap, rfl, h4, h5, h6⟩ := h2.form
  have hlen : E.length = l.length := by rw [← h1]; simp
  refine ⟨A, cap, by rw [hlen], fun h0 => ?_, by omega, h5, h3⟩
  obtain ⟨g, rfl⟩ := h6 (by omega)
  refine ⟨g, rfl, ⟨fun k hk => ?_⟩⟩
  obtain ⟨x0, x1, x2, x3, x4⟩ := h2.cells (k := k) (by omega)
  obtain ⟨a1, _⟩ := h2.ent (k := k) (by omega)
  unfold Ent.v at x3
  rw [entD h1] at x0 x1 x2 x3 x4 a1
  exact ⟨⟨x0, x1, x2, x4⟩, _, _, x3, a1⟩

end Go.Proofs.Ytinihggcibghaaa
