/-
  Add of any two nodes.
-/
import Derived.Test.YtlcadkhhpnaofaaGSt0
import Derived.IntWalk
namespace Go.Proofs.Ytlcadkhhpnaofaa
set_option maxRecDepth 100000
open Go Go.RowKit Gq

/-- Add of two nodes. -/
theorem addK_any {w : World} {b : Nat} {R : Gr} {S : Nat → Prop} (h : GAt w b R S) (hO : Ok R) {a c : Nat} (ha : a < R.length) (hc : c < R.length) :
    Calls Try.prog 8 #[.pointer (some ⟨b, 0, none⟩), .int .i64 (a : Int), .int .i64 (c : Int)] w fun e w' => ∃ z : Int, e = .returned (.int .i64 z) ∧ ((a ≠ c ∧ z = 0) ∨ (a = c ∧ z = 20)) ∧
      ∃ R' S', GAt w' b R' S' ∧ Ok R' ∧ R'.length = R.length ∧ (∀ i x, x ∈ row R i → x ∈ row R' i) ∧ (∀ k, S' k → S k ∨ w.heap.size ≤ k) ∧ Kept S w w' := by
  by_cases hac : a = c
  · refine (add_out h (a := (a : Int)) (x := (c : Int)) (fun hn => hn.2.2 (by rw [hac]))).mono ?_
    rintro e w' ⟨rfl, hw⟩
    obtain rfl := hw.symm
    exact ⟨20, rfl, .inr ⟨hac, rfl⟩, R, S, h, hO, rfl, fun _ _ hx => hx, fun k hk => .inl hk, Kept.refl _ _⟩
  · refine (add_any h hO (a := a) (x := c) ha hc hac).mono ?_
    rintro e w' ⟨rfl, S', h1, h2, h3⟩
    refine ⟨0, rfl, .inl ⟨hac, rfl⟩, addE R a c, S', h1, addE_ok hO ha hc hac, addE_length .., fun i x hx => ?_, h2, h3⟩
    rw [row_addE ha]
    by_cases e : i = a
    · subst e; rw [if_pos rfl]; exact mem_insN.2 (.inr hx)
    · rw [if_neg e]; exact hx

end Go.Proofs.Ytlcadkhhpnaofaa
