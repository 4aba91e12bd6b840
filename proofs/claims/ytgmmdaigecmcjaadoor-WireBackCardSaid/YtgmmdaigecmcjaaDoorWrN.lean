/-
  The law WireBack: whole.
-/
import Derived.Test.YtgmmdaigecmcjaaDoorWrN1
import Derived.Test.YtgmmdaigecmcjaaDoorWrN2
import Derived.Test.YtgmmdaigecmcjaaDoorWrN3
namespace Go.Proofs.YtgmmdaigecmcjaaDoor
set_option maxRecDepth 100000
set_option linter.unusedSimpArgs false
open Go Go.RowKit Wr

theorem wback_any {w : World} (hT : Tab w) (p : Pkt) {A : Option Addr} (cap : Nat) (hC : ClaimsAt w A p.msg.claims) (hf : Fits p) (hlm : p.msg.claims.length ≤ maxLen) {B : Option Addr} {l : List Nat} {cb : Nat} (hB : BytesAt w B l) (hlt : ∀ c ∈ l, c < 256) (hcb : l.length ≤ cb) (hcm : cb ≤ maxLen) :
    Calls Tryd.prog 6 #[pktA p A p.msg.claims.length cap, .slice B l.length cb] w fun e w' => e = .returned (.bool true) ∧ Below w.heap.size w w' := by
  by_cases h1 : p.msg.claims.length ≤ 100
  · by_cases h2 : l.length ≤ 500
    · cases h3 : okP p with
      | false =>
        cases h4 : readF l with
        | none => exact wback_no0 hT p cap hC hf hlm hB hlt hcb hcm h1 h2 h3 h4
        | some x => exact wback_no1 hT p cap hC hf hlm hB hlt hcb hcm h1 h2 h3 h4
      | true =>
        cases h4 : readF l with
        | none => exact wback_ok0 hT p cap hC hf hlm hB hlt hcb hcm h1 h2 h3 h4
        | some x => exact wback_ok1 hT p cap hC hf hlm hB hlt hcb hcm h1 h2 h3 h4
    · exact wback_big hT p cap hC hf hlm hB hlt hcb hcm (.inr (by omega))
  · exact wback_big hT p cap hC hf hlm hB hlt hcb hcm (.inl (by omega))
end Go.Proofs.YtgmmdaigecmcjaaDoor
