/-
  What comes in, by its bulk.
-/
import Derived.Test.YtgciibcngmimkaaSfS
import Derived.Test.YtgciibcngmimkaaRows
namespace Go.Proofs.Ytgciibcngmimkaa
set_option maxRecDepth 100000
set_option linter.unusedSimpArgs false
open Go Go.RowKit Go.ChangeShapes Go.WideShapes Go.Deep Sf

section
variable {H : Type} {enc : TypeId × Value → H} {w : World} {base : Nat} {spare : Nat → Bool} {held : Bool}
theorem bk1 (d : DataW H) : 1 ≤ Rows.uptoBulk d := by
  cases d with
  | lit l => cases l <;> simp [Rows.uptoBulk]
  | _ => simp [Rows.uptoBulk]
theorem bkLen (l : List (DataW H)) : l.length ≤ Rows.uptoBulkAll l := by
  induction l with
  | nil => simp
  | cons d t ih =>
    have := bk1 d
    simp only [Rows.uptoBulkAll, List.length_cons]
    omega
theorem bkSnoc (l : List (DataW H)) (d : DataW H) : Rows.uptoBulkAll (l ++ [d]) = Rows.uptoBulkAll l + Rows.uptoBulk d := by
  induction l with
  | nil => simp [Rows.uptoBulkAll]
  | cons x t ih => simp only [List.cons_append, Rows.uptoBulkAll, ih]; omega
theorem bytes_bulk {fuel : Nat} {A : Option Addr} {n cap : Nat} {x : DataW H × List MemPlace} (hf : DataW.trod enc Try.prog w base spare held fuel 30 [.slice A n cap] = some x) : n ≤ Rows.uptoBulk x.1 := by
  rcases open_slice Try.underlying30 hf with ⟨h0, _⟩ | ⟨a', len', cap', m, k, D, Pl, hcs, hb, hl, hm, hmm, hx, hi⟩
  · have e : (Value.slice A n cap) = .slice none 0 0 := by simpa using h0
    injection e with _ e _
    omega
  · have e : (Value.slice A n cap) = .slice (some a') len' cap' := by simpa using hcs
    injection e with _ e _
    have := bkLen ((List.range len').map D)
    rw [List.length_map, List.length_range] at this
    rw [hx]
    simp only [Rows.uptoBulk]
    omega
theorem rc_bulk {fuel : Nat} {c0 c1 : Value} {A : Option Addr} {n cap : Nat} {x : DataW H × List MemPlace} (h : DataW.trod enc Try.prog w base spare held fuel 32 [c0, c1, .slice A n cap] = some x) : n ≤ Rows.uptoBulk x.1 := by
  obtain ⟨xs, k, _, hxe, hlen, hxl, hf⟩ := DataW.trod_struct Try.underlying32 h
  have q1 : Try.prog.cellsOf 3 = 1 := by kernel_rfl
  have q3 : Try.prog.cellsOf 30 = 1 := by kernel_rfl
  match xs, hxl with
  | [y0, y1, y2], _ =>
    have f2 := hf 2 _ rfl
    simp [q1, q3] at f2
    have := bytes_bulk (x := y2) f2
    rw [hxe]
    simp [Rows.uptoBulk, Rows.uptoBulkAll]
    omega
theorem gsum_bulk (l : List Rc) (D : Nat → DataW H) (h : ∀ i, i < l.length → (l.getD i default).r.d.length ≤ Rows.uptoBulk (D i)) : ∀ n, n ≤ l.length → gsum (l.take n) ≤ 11 * Rows.uptoBulkAll ((List.range n).map D) := by
  intro n
  induction n with
  | zero => intro _; simp [gsum]
  | succ n ih =>
    intro hn
    have h1 := ih (by omega)
    have h2 := h n (by omega)
    have h3 := bk1 (D n)
    rw [gsum_take (by omega), List.range_succ, List.map_append, List.map_singleton, bkSnoc]
    omega
theorem rcs_bulk {v : Value} {d : DataW H} {ps : List MemPlace} {r : Reach} {b0 : Nat} (hv : Value.okWide Try.prog w r b0 22 v) (h : DataW.Trod enc Try.prog w base spare held 22 v d ps) :
    ∃ (A : Option Addr) (l : List Rc) (cap : Nat), v = .slice A l.length cap ∧ RsAt w A l ∧ gsum l ≤ 11 * Rows.uptoBulk d := by
  obtain ⟨A, l, cap, rfl, h1, h2, _⟩ := rcs_in hv h
  refine ⟨A, l, cap, rfl, h1, ?_⟩
  obtain ⟨fuel, hf⟩ := h
  have hc : Try.prog.cellsOf 32 = 3 := by kernel_rfl
  rcases open_slice Try.underlying22 hf with ⟨h0, _⟩ | ⟨a', len', cap', m, k, D, Pl, hcs, hb, hl, hm, hmm, hx, hi⟩
  · have e : (Value.slice A l.length cap) = .slice none 0 0 := by simpa [Value.cells] using h0
    injection e with _ e _
    rw [List.length_eq_zero_iff.1 e]
    simp [gsum]
  · have e : (Value.slice A l.length cap) = .slice (some a') len' cap' := by simpa [Value.cells] using hcs
    injection e with e1 e2 _
    subst e1
    injection hx with hx _
    have hml : len' ≤ m := by rw [hmm]; split <;> omega
    have hD : ∀ i, i < l.length → (l.getD i default).r.d.length ≤ Rows.uptoBulk (D i) := fun i hil => by
      obtain ⟨cs', hcs', ht⟩ := hi i (by omega)
      rw [hc] at hcs'
      obtain ⟨a, ea, ⟨_, _, g2⟩, _⟩ := h1 i hil
      injection ea with ea
      subst ea
      obtain ⟨_, hcl, hat⟩ := World.cells?_some hcs'
      match cs', hcl with
      | [c0, c1, c2], _ =>
        have q2 := hat 2 (by omega)
        have q2' : w.cell? ((a'.add (i * 3)).add 2) = some (.slice (l.getD i default).A (l.getD i default).r.d.length (l.getD i default).cap) := g2
        rw [q2'] at q2
        have e3 : c2 = .slice (l.getD i default).A (l.getD i default).r.d.length (l.getD i default).cap := by simpa using q2.symm
        rw [e3] at ht
        exact rc_bulk (x := (D i, Pl i)) ht
    have := gsum_bulk l D hD l.length (Nat.le_refl _)
    rw [List.take_of_length_le (Nat.le_refl _), e2] at this
    rw [hx]
    simp only [Rows.uptoBulk]
    omega
theorem rec_bulk {v : Value} {d : DataW H} {ps : List MemPlace} {r : Reach} {b0 : Nat} (hv : Value.okWide Try.prog w r b0 32 v) (h : DataW.Trod enc Try.prog w base spare held 32 v d ps) :
    ∃ x : Rc, v = recA x.r.k x.r.n x.A x.r.d.length x.cap ∧ RecOk w x.r x.A x.cap ∧ x.r.d.length ≤ Rows.uptoBulk d := by
  obtain ⟨x, rfl, hx⟩ := rec_in hv h
  obtain ⟨fuel, hf⟩ := h
  exact ⟨x, rfl, hx, rc_bulk (x := (d, ps)) hf⟩
end
end Go.Proofs.Ytgciibcngmimkaa
