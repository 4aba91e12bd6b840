/-
  The laws' arguments: lists of items as they come in.
-/
import Derived.Test.YtdhpphkkpjldfabPMem
import Derived.Deep.Slices
import Derived.Deep.Fields
import Derived.ChangeSame
import Derived.OpenShut
namespace Go.Proofs.Ytdhpphkkpjldfab
set_option maxRecDepth 100000
open Go Go.RowKit Pq
open Go.ChangeShapes Go.WideShapes Go.Deep

theorem choose_list {P : Nat → It → Prop} : ∀ n, (∀ i, i < n → ∃ x, P i x) → ∃ l : List It, l.length = n ∧ ∀ i, i < n → P i (at_ l i)
  | 0, _ => ⟨[], rfl, fun i hi => by omega⟩
  | n + 1, h => by
    obtain ⟨l, hl, hp⟩ := choose_list n (fun i hi => h i (by omega))
    obtain ⟨x, hx⟩ := h n (by omega)
    refine ⟨l ++ [x], by simp [hl], fun i hi => ?_⟩
    by_cases e : i = n
    · subst e; rw [← hl, at_append_last, hl]; exact hx
    · rw [at_append_left (by omega)]; exact hp i (by omega)

/-- Within an int's bounds. -/
def Wf (x : It) : Prop := -9223372036854775808 ≤ x.c ∧ -9223372036854775808 ≤ x.t ∧ -9223372036854775808 ≤ x.i

/-- A list of items lies there. -/
def ItemsAt (w : World) (A : Option Addr) (l : List It) : Prop :=
  ∀ k, k < l.length → ∃ a, A = some a ∧ a.block < w.heap.size ∧ w.cell? (a.add (k * 3)) = some (.int .i64 (at_ l k).c) ∧ w.cell? ⟨(a.add (k * 3)).block, (a.add (k * 3)).off + 1, none⟩ = some (.int .i64 (at_ l k).t) ∧ w.cell? ⟨(a.add (k * 3)).block, (a.add (k * 3)).off + 2, none⟩ = some (.int .i64 (at_ l k).i)

theorem add_block (a : Addr) (n : Nat) : (a.add n).block = a.block := by unfold Addr.add; split <;> rfl

theorem ItemsAt.below {w w' : World} {A : Option Addr} {l : List It} (h : ItemsAt w A l) {B : Nat} (hb : Below B w w') (hB : w.heap.size ≤ B) : ItemsAt w' A l := by
  intro k hk
  obtain ⟨a, h0, h1, h2, h3, h4⟩ := h k hk
  refine ⟨a, h0, Nat.lt_of_lt_of_le h1 hb.size, ?_, ?_, ?_⟩
  · rw [hb.cell (by rw [add_block]; omega)]; exact h2
  · rw [hb.cell (by simp only [add_block]; omega)]; exact h3
  · rw [hb.cell (by simp only [add_block]; omega)]; exact h4


theorem wf_lo {n : Int} (h : (Lit.int .i64 n).wf = true) : -9223372036854775808 ≤ n := by
  have h1 : IntKind.i64.min = -9223372036854775808 := rfl
  simp only [Lit.wf, Bool.and_eq_true, decide_eq_true_eq] at h
  omega

section
variable {H : Type} {enc : TypeId × Value → H} {w : World} {base : Nat} {spare : Nat → Bool} {held : Bool}

theorem item_trod {fuel : Nat} {cs : List Value} {x : DataW H × List MemPlace} (h : DataW.trod enc Try.prog w base spare held fuel 32 cs = some x) : ∃ it : It, cs = it.cs ∧ Wf it := by
  obtain ⟨xs, n, _, _, hlen, hxl, hf⟩ := DataW.trod_struct Try.underlying32 h
  have hc : Try.prog.cellsOf 32 = 3 := by kernel_rfl
  have hci : Try.prog.cellsOf 3 = 1 := by kernel_rfl
  rw [hc] at hlen
  match cs, hlen with
  | [c0, c1, c2], _ =>
    match xs, hxl with
    | [y0, y1, y2], _ =>
      have f0 : DataW.trod enc Try.prog w base spare held n 3 ((([c0, c1, c2] : List Value).drop 0).take (Try.prog.cellsOf 3)) = ([y0, y1, y2] : List _)[0]? := hf 0 _ rfl
      have f1 : DataW.trod enc Try.prog w base spare held n 3 ((([c0, c1, c2] : List Value).drop 1).take (Try.prog.cellsOf 3)) = ([y0, y1, y2] : List _)[1]? := hf 1 _ rfl
      have f2 : DataW.trod enc Try.prog w base spare held n 3 ((([c0, c1, c2] : List Value).drop 2).take (Try.prog.cellsOf 3)) = ([y0, y1, y2] : List _)[2]? := hf 2 _ rfl
      rw [hci] at f0 f1 f2
      obtain ⟨n0, e0, _, w0⟩ := DataW.trod_int Try.underlying3 f0
      obtain ⟨n1, e1, _, w1⟩ := DataW.trod_int Try.underlying3 f1
      obtain ⟨n2, e2, _, w2⟩ := DataW.trod_int Try.underlying3 f2
      simp at e0 e1 e2
      exact ⟨⟨n0, n1, n2⟩, by simp [It.cs, e0, e1, e2], wf_lo w0, wf_lo w1, wf_lo w2⟩

theorem items_in {v : Value} {d : DataW H} {ps : List MemPlace} {r : Reach} {b0 : Nat} (hv : Value.okWide Try.prog w r b0 24 v) (h : DataW.Trod enc Try.prog w base spare held 24 v d ps) :
    ∃ (A : Option Addr) (l : List It) (cap : Nat), v = .slice A l.length cap ∧ ItemsAt w A l ∧ (∀ x ∈ l, Wf x) ∧ l.length ≤ maxLen := by
  obtain ⟨a, len, cap, rfl⟩ := okWide_slice Try.underlying24 hv
  obtain ⟨fuel, hf⟩ := h
  have hc : Try.prog.cellsOf 32 = 3 := by kernel_rfl
  rcases open_slice Try.underlying24 hf with ⟨h0, _⟩ | ⟨a', len', cap', m, n, D, Pl, hcs, hb, hl, hm, hmm, hx, hi⟩
  · have e : (Value.slice a len cap) = .slice none 0 0 := by simpa [Value.cells] using h0
    cases e
    exact ⟨none, [], 0, rfl, fun k hk => by simp at hk, fun x hx => by simp at hx, by simp [maxLen]⟩
  · have e : (Value.slice a len cap) = .slice (some a') len' cap' := by simpa [Value.cells] using hcs
    cases e
    have hml : len ≤ m := by rw [hmm]; split <;> omega
    obtain ⟨l, hll, hp⟩ := choose_list (P := fun i x => Wf x ∧ a'.block < w.heap.size ∧ w.cell? (a'.add (i * 3)) = some (.int .i64 x.c) ∧ w.cell? ((a'.add (i * 3)).add 1) = some (.int .i64 x.t) ∧ w.cell? ((a'.add (i * 3)).add 2) = some (.int .i64 x.i)) len (by
      intro i hil
      obtain ⟨cs', hcs', ht⟩ := hi i (by omega)
      rw [hc] at hcs'
      obtain ⟨it, rfl, hw⟩ := item_trod ht
      obtain ⟨_, hcl, hat⟩ := World.cells?_some hcs'
      have h0 := hat 0 (by omega)
      have h1 := hat 1 (by omega)
      have h2 := hat 2 (by omega)
      have e0 : (a'.add (i * 3)).add 0 = a'.add (i * 3) := by simp [Addr.add]
      rw [e0] at h0
      refine ⟨it, hw, ?_, h0, h1, h2⟩
      have := World.block_lt_of_cell? w _ h0
      rwa [add_block] at this)
    refine ⟨some a', l, cap, by rw [hll], fun k hk => ?_, fun x hx => ?_, by omega⟩
    · obtain ⟨_, h1, h2, h3, h4⟩ := hp k (by omega)
      exact ⟨a', rfl, h1, h2, h3, h4⟩
    · obtain ⟨j, hj, rfl⟩ := List.getElem_of_mem hx
      rw [← at_get hj]
      exact (hp j (by omega)).1
end
end Go.Proofs.Ytdhpphkkpjldfab
