/-
  A function's way out behind many loops over an iterator: each has left a mark among the deferred calls; no round has deferred anything.
-/
import Derived.Test.YtlkojoinbogkmaaDoorHeap
import Derived.RangeFuncNested
import Derived.RangeFuncLeaves
namespace Go.Proofs.YtlkojoinbogkmaaDoor
open Go Go.RowKit

theorem leaves_marks {P : Program} {F : Fence} {n : Nat} {fn : Func} {tmps : Array Value} {R : Ending → World → Prop} {I : World → Prop} {p : Nat → Prop}
    (hI : ∀ (W : World) (D : Nat), p D → I W → W.heap[D]? = some (.deferred (some [])) → I (W.putObj D (.deferred none)))
    (hEnd : ∀ W, I W → LeavesInM F n P fn tmps R [] .returning W) :
    ∀ (ds : List Nat) (W : World), ds.Nodup → (∀ D ∈ ds, p D ∧ W.heap[D]? = some (.deferred (some []))) → I W →
      LeavesInM F n P fn tmps R (ds.map fun D => { target := .collected D, args := #[] }) .returning W := by
  intro ds
  induction ds with
  | nil => intro W _ _ h; exact hEnd W h
  | cons D ds ih =>
    intro W hn hd h
    obtain ⟨hp, hD⟩ := hd D (by simp)
    have hn' := List.nodup_cons.1 hn
    refine ⟨by simp, .inl ⟨D, _, rfl, run_takeDeferred hD, ?_⟩⟩
    refine ih _ hn'.2 (fun E hE => ?_) (hI W D hp h hD)
    refine ⟨(hd E (by simp [hE])).1, ?_⟩
    rw [World.putObj_heap_other (by intro e; subst e; exact hn'.1 hE)]
    exact (hd E (by simp [hE])).2
end Go.Proofs.YtlkojoinbogkmaaDoor
