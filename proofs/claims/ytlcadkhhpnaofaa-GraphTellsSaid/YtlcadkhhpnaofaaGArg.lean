/-
  The laws' arguments: edges as they come in.
-/
import Derived.Test.YtlcadkhhpnaofaaGMem
import Derived.Deep.Slices
import Derived.Deep.Fields
import Derived.ChangeSame
import Derived.OpenShut
namespace Go.Proofs.Ytlcadkhhpnaofaa
set_option maxRecDepth 100000
open Go Go.RowKit Gq
open Go.ChangeShapes Go.WideShapes Go.Deep

abbrev Ed := Int × Int
def ed (l : List Ed) (k : Nat) : Ed := l.getD k (0, 0)
theorem ed_get {l : List Ed} {k : Nat} (h : k < l.length) : ed l k = l[k] := by simp [ed, List.getD, h]
theorem choose_eds {P : Nat → Ed → Prop} : ∀ n, (∀ i, i < n → ∃ x, P i x) → ∃ l : List Ed, l.length = n ∧ ∀ i, i < n → P i (ed l i)
  | 0, _ => ⟨[], rfl, fun i hi => by omega⟩
  | n + 1, h => by
    obtain ⟨l, hl, hp⟩ := choose_eds n (fun i hi => h i (by omega))
    obtain ⟨x, hx⟩ := h n (by omega)
    refine ⟨l ++ [x], by simp [hl], fun i hi => ?_⟩
    by_cases e : i = n
    · subst e
      have : ed (l ++ [x]) l.length = x := by simp [ed]
      rw [← hl, this, hl]; exact hx
    · have : ed (l ++ [x]) i = ed l i := by
        unfold ed
        simp only [List.getD_eq_getElem?_getD]
        rw [List.getElem?_append_left (by omega)]
      rw [this]; exact hp i (by omega)

/-- Edges lie there. -/
def EdgesAt (w : World) (A : Option Addr) (l : List Ed) : Prop :=
  ∀ k, k < l.length → ∃ a, A = some a ∧ a.block < w.heap.size ∧ w.cell? (a.add (k * 2)) = some (.int .i64 (ed l k).1) ∧ w.cell? ((a.add (k * 2)).add 1) = some (.int .i64 (ed l k).2)
theorem add_block (a : Addr) (n : Nat) : (a.add n).block = a.block := by unfold Addr.add; split <;> rfl
theorem EdgesAt.below {w w' : World} {A : Option Addr} {l : List Ed} (h : EdgesAt w A l) {B : Nat} (hb : Below B w w') (hB : w.heap.size ≤ B) : EdgesAt w' A l := by
  intro k hk
  obtain ⟨a, h0, h1, h2, h3⟩ := h k hk
  refine ⟨a, h0, Nat.lt_of_lt_of_le h1 hb.size, ?_, ?_⟩
  · rw [hb.cell (by rw [add_block]; omega)]; exact h2
  · rw [hb.cell (by rw [add_block, add_block]; omega)]; exact h3

section
variable {H : Type} {enc : TypeId × Value → H} {w : World} {base : Nat} {spare : Nat → Bool} {held : Bool}
theorem ed_trod {fuel : Nat} {cs : List Value} {x : DataW H × List MemPlace} (h : DataW.trod enc Try.prog w base spare held fuel 31 cs = some x) : ∃ e : Ed, cs = [.int .i64 e.1, .int .i64 e.2] := by
  obtain ⟨xs, n, _, _, hlen, hxl, hf⟩ := DataW.trod_array Try.underlying31 h
  have hc : Try.prog.cellsOf 31 = 2 := by kernel_rfl
  have hci : Try.prog.cellsOf 3 = 1 := by kernel_rfl
  rw [hc] at hlen
  match cs, hlen with
  | [c0, c1], _ =>
    match xs, hxl with
    | [y0, y1], _ =>
      have f0 : DataW.trod enc Try.prog w base spare held n 3 ((([c0, c1] : List Value).drop (0 * Try.prog.cellsOf 3)).take (Try.prog.cellsOf 3)) = ([y0, y1] : List _)[0]? := hf 0 (by omega)
      have f1 : DataW.trod enc Try.prog w base spare held n 3 ((([c0, c1] : List Value).drop (1 * Try.prog.cellsOf 3)).take (Try.prog.cellsOf 3)) = ([y0, y1] : List _)[1]? := hf 1 (by omega)
      rw [hci] at f0 f1
      obtain ⟨n0, e0, _, w0⟩ := DataW.trod_int Try.underlying3 f0
      obtain ⟨n1, e1, _, w1⟩ := DataW.trod_int Try.underlying3 f1
      simp at e0 e1
      exact ⟨(n0, n1), by simp [e0, e1]⟩

theorem edges_in {v : Value} {d : DataW H} {ps : List MemPlace} {r : Reach} {b0 : Nat} (hv : Value.okWide Try.prog w r b0 22 v) (h : DataW.Trod enc Try.prog w base spare held 22 v d ps) :
    ∃ (A : Option Addr) (l : List Ed) (cap : Nat), v = .slice A l.length cap ∧ EdgesAt w A l ∧ l.length ≤ maxLen := by
  obtain ⟨a, len, cap, rfl⟩ := okWide_slice Try.underlying22 hv
  obtain ⟨fuel, hf⟩ := h
  have hc : Try.prog.cellsOf 31 = 2 := by kernel_rfl
  rcases open_slice Try.underlying22 hf with ⟨h0, _⟩ | ⟨a', len', cap', m, n, D, Pl, hcs, hb, hl, hm, hmm, hx, hi⟩
  · have e : (Value.slice a len cap) = .slice none 0 0 := by simpa [Value.cells] using h0
    cases e
    exact ⟨none, [], 0, rfl, fun k hk => by simp at hk, by simp [maxLen]⟩
  · have e : (Value.slice a len cap) = .slice (some a') len' cap' := by simpa [Value.cells] using hcs
    cases e
    have hml : len ≤ m := by rw [hmm]; split <;> omega
    obtain ⟨l, hll, hp⟩ := choose_eds (P := fun i x => a'.block < w.heap.size ∧ w.cell? (a'.add (i * 2)) = some (.int .i64 x.1) ∧ w.cell? ((a'.add (i * 2)).add 1) = some (.int .i64 x.2)) len (by
      intro i hil
      obtain ⟨cs', hcs', ht⟩ := hi i (by omega)
      rw [hc] at hcs'
      obtain ⟨it, rfl⟩ := ed_trod ht
      obtain ⟨_, hcl, hat⟩ := World.cells?_some hcs'
      have h0 := hat 0 (by omega)
      have h1 := hat 1 (by omega)
      have e0 : (a'.add (i * 2)).add 0 = a'.add (i * 2) := by simp [Addr.add]
      rw [e0] at h0
      refine ⟨it, ?_, h0, h1⟩
      have := World.block_lt_of_cell? w _ h0
      rwa [add_block] at this)
    refine ⟨some a', l, cap, by rw [hll], fun k hk => ?_, by omega⟩
    obtain ⟨h1, h2, h3⟩ := hp k (by omega)
    exact ⟨a', rfl, h1, h2, h3⟩
end
end Go.Proofs.Ytlcadkhhpnaofaa
