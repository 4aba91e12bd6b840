/-
  The zero of the document's claims.
-/
import Derived.Test.YtijhkjegpcmjoaaCm0
namespace Go.Proofs.Ytijhkjegpcmjoaa
set_option maxRecDepth 100000
open Go Go.RowKit Cl
theorem Try.zero2048 (W : World) : (zeroValue 34).run Try.prog W = .ok (.agg f2048) W := by kernel_rfl
end Go.Proofs.Ytijhkjegpcmjoaa
