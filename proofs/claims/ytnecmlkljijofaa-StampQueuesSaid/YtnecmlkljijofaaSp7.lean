/-
  Next at the end of the counts.
-/
import Derived.Test.YtnecmlkljijofaaSp6
namespace Go.Proofs.Ytnecmlkljijofaa
set_option maxRecDepth 100000
set_option linter.unusedSimpArgs false
open Go Go.RowKit Sp

/-- Next at the end of the counts. -/
theorem next_end {w : World} {b e c : Nat} (h : CkAt w b e c) (he : e ≤ 4294967295) (hc : c = 4294967295) :
    Calls Try.prog 12 #[.pointer (some ⟨b, 0, none⟩)] w fun x w' => x = .returned (.tuple #[.int .u64 0, .int .i64 120]) ∧ Kept (fun k => k = b) w w' := by
  subst hc
  refine (next_at h he (by omega)).mono ?_
  rw [if_pos rfl, if_pos rfl, if_pos rfl]
  exact fun _ _ h => ⟨h.1, h.2.2⟩
end Go.Proofs.Ytnecmlkljijofaa
