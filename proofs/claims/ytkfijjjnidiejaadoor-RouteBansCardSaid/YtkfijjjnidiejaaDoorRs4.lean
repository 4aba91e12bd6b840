/- Joined texts: Rs3, Rs4. -/
import Derived.Test.YtkfijjjnidiejaaDoorRs2
import Derived.Test.YtkfijjjnidiejaaDoorQArg

/-
  The walk of the law RouteRest: there is a route.
-/
namespace Go.Proofs.YtkfijjjnidiejaaDoor
set_option maxRecDepth 100000
set_option linter.unusedSimpArgs false
open Go Go.RowKit Rq

/-- The banned cells, and those of the others that are too far. -/
def farL (C N fr n : Nat) (ban more : List Int) (j : Nat) : List Int := ban ++ (more.take j).filter (fun x => decide ((n : Int) ≤ farZ C N (fr : Int) x))
def FarR (w8 : World) (L : List Int) (v : Value) (wr : World) : Prop := wr.ownsRow w8.heap.size 3 1 v L.length (L.map intW) ∧ Below w8.heap.size w8 wr
theorem FarR.ints {w8 wr : World} {L : List Int} {v : Value} (h : FarR w8 L v wr) : ∃ A c, v = .slice A L.length c ∧ IntsAt wr A L := by
  obtain ⟨ho, hb⟩ := h
  rcases ho.2 with ⟨rfl, h0⟩ | ⟨g, cap, cur, rfl, h1, h2, h3, _⟩
  · exact ⟨none, 0, by rw [h0], fun j hj => by omega⟩
  · refine ⟨some ⟨g, 0, none⟩, cap, rfl, fun j hj => ⟨_, rfl, blk_lt h2, ?_⟩⟩
    have : Addr.add ⟨g, 0, none⟩ j = ⟨g, j, none⟩ := by simp [Addr.add]; omega
    rw [this, ho.cellAt j (by omega)]
    simp [intW, List.getD, hj]
theorem row_empty (w : World) (t : TypeId) (ht : t = 3) : (w.alloc (.cells #[] t)).ownsRow w.heap.size 3 1 (.slice (some ⟨w.heap.size, 0, none⟩) 0 0) 0 [] := by
  subst ht
  exact ⟨rfl, .inr ⟨w.heap.size, 0, #[], rfl, Nat.le_refl _, heap_alloc_new w _, Nat.le_refl _, by unfold maxLen; omega, rfl, rfl⟩⟩

end Go.Proofs.YtkfijjjnidiejaaDoor

/-
  The law RouteRest, whole.
-/
namespace Go.Proofs.YtkfijjjnidiejaaDoor
set_option maxRecDepth 100000
open Go Go.RowKit Rq
open Go.ChangeShapes Go.WideShapes

section
variable {H : Type} {enc : TypeId × Value → H} {w : World} {base : Nat} {spare : Nat → Bool} {held : Bool}
theorem ints_in2 {v : Value} {d : DataW H} {ps : List MemPlace} {r : Reach} {b0 : Nat} (hv : Value.okWide Tryd.prog w r b0 22 v) (h : DataW.Trod enc Tryd.prog w base spare held 22 v d ps) :
    ∃ (A : Option Addr) (l : List Int) (cap : Nat), v = .slice A l.length cap ∧ IntsAt w A l ∧ l.length ≤ cap ∧ (A = none → l = [] ∧ cap = 0) := by
  obtain ⟨a, len, cap, rfl⟩ := okWide_slice Tryd.underlying22 hv
  obtain ⟨fuel, hf⟩ := h
  have hc : Tryd.prog.cellsOf 3 = 1 := by kernel_rfl
  rcases Go.ChangeShapes.open_ints Tryd.underlying22 Tryd.underlying3 hc hf with ⟨h0, _⟩ | ⟨a', len', cap', zs, hcs, hb, hl, hm, hz, _, hi, _⟩
  · have e : (Value.slice a len cap) = .slice none 0 0 := by simpa [Value.cells] using h0
    cases e
    exact ⟨none, [], 0, rfl, fun k hk => by simp at hk, by simp, fun _ => ⟨rfl, rfl⟩⟩
  · have e : (Value.slice a len cap) = .slice (some a') len' cap' := by simpa [Value.cells] using hcs
    cases e
    have hzl : len ≤ zs.length := by rw [hz]; split <;> omega
    have htl : (zs.take len).length = len := by rw [List.length_take]; omega
    refine ⟨some a', zs.take len, cap, by rw [htl], fun j hj => ?_, by rw [htl]; exact hl, fun e => by cases e⟩
    rw [htl] at hj
    have h1 := hi j (by omega)
    refine ⟨a', rfl, ?_, ?_⟩
    · have := World.block_lt_of_cell? w _ h1
      have hbk : (a'.add j).block = a'.block := by unfold Addr.add; split <;> rfl
      rwa [hbk] at this
    · rw [h1]
      simp [List.getD, hj]
end

end Go.Proofs.YtkfijjjnidiejaaDoor
