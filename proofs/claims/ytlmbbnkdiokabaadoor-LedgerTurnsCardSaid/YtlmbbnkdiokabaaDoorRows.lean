/-
  NARROWER THAN 'FOR EVERY INPUT', by the rows' own cells (each row's printed sentence says how): LedgerPlays: laid · LedgerNames: laid · LedgerGens: laid · LedgerLoads: laid · LedgerOld: laid · LedgerTurns: laid.
  DERIVED. THE GIVEN ROWS OF THIS SEAT. 6 by the template 'for every input the law returns true; each argument reads behind the call as it read before'; 0 by the template 'total and deterministic' (their statements: YtlmbbnkdiokabaaDoorTotals.lean).
  GIVEN WITH THE SEED: the statements are not yours to turn. If you find one false, say at which input.
  Laid BY PROGRAM, IN A SANDBOX (cutbox-rows.mjs): the forced cells as the released guide's own fill.sh prints them over the translation 8972121b09e27e16… (all of the seat's roots in one cut). By AI agents, Wed Nov 11 2026. No macro, syntax, notation, axiom, sorry.
-/
import Derived.Test.YtlmbbnkdiokabaaDoorChecked
import GoSem.Claim
import GoSem.ClaimJoined
import GoSem.ClaimMapViews
import Derived.JoinedTies
import Derived.KernelRfl
namespace Go.Proofs.YtlmbbnkdiokabaaDoor
/- THE CELL 'sum', in the pinned program and in every row, IS THE sha256 OF THE DUMP (.gsa) THAT YtlmbbnkdiokabaaDoorProg.lean LOADS. Nothing in Lean hashes anything: it is a label: what it is worth is what the hold of that sum in a sandbox is worth. -/
noncomputable def Tryd.pinned : Pinned := { name := "ytlmbbnkdiokabaadoor", sum := "8972121b09e27e164d71c1d524ccf96e74cf12d3ee39ad5f3e7bd4805867283b", checked := Tryd.checked }
namespace Rows
def none {H : Type} : Left H := { results := [], args := [] }

/- WHAT THE LISTED PACKAGE-LEVEL VARIABLES READ AS WHEN THE CALL BEGINS. Each datum BY PROGRAM (the guide's laid-datum.mjs) off the statement by which the dump's own 'gosem.cut.vars' lays the variable. In a bare row this is a premise. The card (YtlmbbnkdiokabaaDoorCards.lean) ties it to the program's text. -/
def laid_wagonway_ledger_atFirst {H : Type} : DataW H := .agg [.lit (.int .i64 (-1)), .lit (.int .u32 0)]

/-- 'wagonwaylaw14.LedgerPlays': WHATEVER THE INPUT: true; the input reads as it did. -/
def ledgerPlaysSpec : ChangeSpec := { name := "ledgerPlays", fn := fun _ => fun
  | [d1, d2, d3] => { results := [.lit (.bool true)], args := [d1, d2, d3] }
  | _ => none }
def ledgerPlaysRow : OpenClaim := { program := "ytlmbbnkdiokabaadoor", sum := "8972121b09e27e164d71c1d524ccf96e74cf12d3ee39ad5f3e7bd4805867283b", func := "wagonway/wagonwaylaw14.LedgerPlays", spec := "ledgerPlays", unfollowed := true, recurses := true, named := ["wagonway/ledger.atFirst"], apart := false, laid := [("wagonway/ledger.atFirst", laid_wagonway_ledger_atFirst)] }
def LedgerPlaysSaid : Prop := ledgerPlaysRow.holds Tryd.pinned (OpenSpec.ofChange ledgerPlaysSpec)

/-- ITS FALSE NEIGHBOUR: 'it returns false'. Refute it at one input. -/
def ledgerPlaysWrong : ChangeSpec := { name := "ledgerPlays", fn := fun _ => fun
  | [d1, d2, d3] => { results := [.lit (.bool false)], args := [d1, d2, d3] }
  | _ => none }
def LedgerPlaysWrongFalsely : Prop := ledgerPlaysRow.holds Tryd.pinned (OpenSpec.ofChange ledgerPlaysWrong)

/-- 'wagonwaylaw14.LedgerNames': WHATEVER THE INPUT: true; the input reads as it did. -/
def ledgerNamesSpec : ChangeSpec := { name := "ledgerNames", fn := fun _ => fun
  | [] => { results := [.lit (.bool true)], args := [] }
  | _ => none }
def ledgerNamesRow : OpenClaim := { program := "ytlmbbnkdiokabaadoor", sum := "8972121b09e27e164d71c1d524ccf96e74cf12d3ee39ad5f3e7bd4805867283b", func := "wagonway/wagonwaylaw14.LedgerNames", spec := "ledgerNames", unfollowed := true, recurses := true, named := ["wagonway/ledger.atFirst"], apart := false, laid := [("wagonway/ledger.atFirst", laid_wagonway_ledger_atFirst)] }
def LedgerNamesSaid : Prop := ledgerNamesRow.holds Tryd.pinned (OpenSpec.ofChange ledgerNamesSpec)

/-- ITS FALSE NEIGHBOUR: 'it returns false'. Refute it at one input. -/
def ledgerNamesWrong : ChangeSpec := { name := "ledgerNames", fn := fun _ => fun
  | [] => { results := [.lit (.bool false)], args := [] }
  | _ => none }
def LedgerNamesWrongFalsely : Prop := ledgerNamesRow.holds Tryd.pinned (OpenSpec.ofChange ledgerNamesWrong)

/-- 'wagonwaylaw14.LedgerGens': WHATEVER THE INPUT: true; the input reads as it did. -/
def ledgerGensSpec : ChangeSpec := { name := "ledgerGens", fn := fun _ => fun
  | [d1, d2] => { results := [.lit (.bool true)], args := [d1, d2] }
  | _ => none }
def ledgerGensRow : OpenClaim := { program := "ytlmbbnkdiokabaadoor", sum := "8972121b09e27e164d71c1d524ccf96e74cf12d3ee39ad5f3e7bd4805867283b", func := "wagonway/wagonwaylaw14.LedgerGens", spec := "ledgerGens", unfollowed := true, recurses := true, named := ["wagonway/ledger.atFirst"], apart := false, laid := [("wagonway/ledger.atFirst", laid_wagonway_ledger_atFirst)] }
def LedgerGensSaid : Prop := ledgerGensRow.holds Tryd.pinned (OpenSpec.ofChange ledgerGensSpec)

/-- ITS FALSE NEIGHBOUR: 'it returns false'. Refute it at one input. -/
def ledgerGensWrong : ChangeSpec := { name := "ledgerGens", fn := fun _ => fun
  | [d1, d2] => { results := [.lit (.bool false)], args := [d1, d2] }
  | _ => none }
def LedgerGensWrongFalsely : Prop := ledgerGensRow.holds Tryd.pinned (OpenSpec.ofChange ledgerGensWrong)

/-- 'wagonwaylaw14.LedgerLoads': WHATEVER THE INPUT: true; the input reads as it did. -/
def ledgerLoadsSpec : ChangeSpec := { name := "ledgerLoads", fn := fun _ => fun
  | [d1, d2] => { results := [.lit (.bool true)], args := [d1, d2] }
  | _ => none }
def ledgerLoadsRow : OpenClaim := { program := "ytlmbbnkdiokabaadoor", sum := "8972121b09e27e164d71c1d524ccf96e74cf12d3ee39ad5f3e7bd4805867283b", func := "wagonway/wagonwaylaw14.LedgerLoads", spec := "ledgerLoads", unfollowed := true, recurses := true, named := ["wagonway/ledger.atFirst"], apart := false, laid := [("wagonway/ledger.atFirst", laid_wagonway_ledger_atFirst)] }
def LedgerLoadsSaid : Prop := ledgerLoadsRow.holds Tryd.pinned (OpenSpec.ofChange ledgerLoadsSpec)

/-- ITS FALSE NEIGHBOUR: 'it returns false'. Refute it at one input. -/
def ledgerLoadsWrong : ChangeSpec := { name := "ledgerLoads", fn := fun _ => fun
  | [d1, d2] => { results := [.lit (.bool false)], args := [d1, d2] }
  | _ => none }
def LedgerLoadsWrongFalsely : Prop := ledgerLoadsRow.holds Tryd.pinned (OpenSpec.ofChange ledgerLoadsWrong)

/-- 'wagonwaylaw14.LedgerOld': WHATEVER THE INPUT: true; the input reads as it did. -/
def ledgerOldSpec : ChangeSpec := { name := "ledgerOld", fn := fun _ => fun
  | [d1, d2, d3, d4, d5] => { results := [.lit (.bool true)], args := [d1, d2, d3, d4, d5] }
  | _ => none }
def ledgerOldRow : OpenClaim := { program := "ytlmbbnkdiokabaadoor", sum := "8972121b09e27e164d71c1d524ccf96e74cf12d3ee39ad5f3e7bd4805867283b", func := "wagonway/wagonwaylaw14.LedgerOld", spec := "ledgerOld", unfollowed := true, recurses := true, named := ["wagonway/ledger.atFirst"], apart := false, laid := [("wagonway/ledger.atFirst", laid_wagonway_ledger_atFirst)] }
def LedgerOldSaid : Prop := ledgerOldRow.holds Tryd.pinned (OpenSpec.ofChange ledgerOldSpec)

/-- ITS FALSE NEIGHBOUR: 'it returns false'. Refute it at one input. -/
def ledgerOldWrong : ChangeSpec := { name := "ledgerOld", fn := fun _ => fun
  | [d1, d2, d3, d4, d5] => { results := [.lit (.bool false)], args := [d1, d2, d3, d4, d5] }
  | _ => none }
def LedgerOldWrongFalsely : Prop := ledgerOldRow.holds Tryd.pinned (OpenSpec.ofChange ledgerOldWrong)

/-- 'wagonwaylaw14.LedgerTurns': WHATEVER THE INPUT: true; the input reads as it did. -/
def ledgerTurnsSpec : ChangeSpec := { name := "ledgerTurns", fn := fun _ => fun
  | [d1, d2] => { results := [.lit (.bool true)], args := [d1, d2] }
  | _ => none }
def ledgerTurnsRow : OpenClaim := { program := "ytlmbbnkdiokabaadoor", sum := "8972121b09e27e164d71c1d524ccf96e74cf12d3ee39ad5f3e7bd4805867283b", func := "wagonway/wagonwaylaw14.LedgerTurns", spec := "ledgerTurns", unfollowed := true, recurses := true, named := ["wagonway/ledger.atFirst"], apart := false, laid := [("wagonway/ledger.atFirst", laid_wagonway_ledger_atFirst)] }
def LedgerTurnsSaid : Prop := ledgerTurnsRow.holds Tryd.pinned (OpenSpec.ofChange ledgerTurnsSpec)

/-- ITS FALSE NEIGHBOUR: 'it returns false'. Refute it at one input. -/
def ledgerTurnsWrong : ChangeSpec := { name := "ledgerTurns", fn := fun _ => fun
  | [d1, d2] => { results := [.lit (.bool false)], args := [d1, d2] }
  | _ => none }
def LedgerTurnsWrongFalsely : Prop := ledgerTurnsRow.holds Tryd.pinned (OpenSpec.ofChange ledgerTurnsWrong)

/- THE SECOND FORM. 'bulk': how many values and letters a reading holds, each counted each time it is reached (what is shared counts as often as it is met; a slice's spare places count too). A statement '..UptoSaid' is the law's where the arguments, and the package variables that the reading takes, are together of bulk at most 1048576: NARROWER than '..Said'. Prove '..Said' where nothing that the law and all that it calls make is longer than what came in: it says more and counts as full. Else prove '..UptoSaid'. A law counts once. -/
mutual
def uptoBulk {H : Type} : DataW H → Nat
  | .lit (.string bytes) => bytes.length + 1
  | .lit _ => 1
  | .nil => 1
  | .ptr d => uptoBulk d + 1
  | .slice elems spare => uptoBulkAll elems + uptoBulkAll spare + 1
  | .agg parts => uptoBulkAll parts + 1
  | .iface _ d => uptoBulk d + 1
  | .map entries => uptoBulkEntries entries + 1
  | .held _ => 1
def uptoBulkAll {H : Type} : List (DataW H) → Nat
  | [] => 0
  | d :: r => uptoBulk d + uptoBulkAll r
def uptoBulkEntries {H : Type} : List (Lit × DataW H) → Nat
  | [] => 0
  | x :: r => uptoBulkEntry x + uptoBulkEntries r
def uptoBulkEntry {H : Type} : Lit × DataW H → Nat
  | (.string bytes, d) => bytes.length + uptoBulk d + 1
  | (_, d) => uptoBulk d + 1
 end
def uptoSmall : (H : Type) → List (DataW H) → Bool := fun _ ds => decide (uptoBulkAll ds ≤ 1048576)
def OpenSpec.upto (s : _root_.Go.ChangeSpec) : _root_.Go.OpenSpec := { _root_.Go.OpenSpec.ofChange s with cond := some uptoSmall }

/-- 'wagonwaylaw14.LedgerPlays', WHERE WHAT IT READS IS OF BULK AT MOST 1048576: true; the input reads as it did. -/
def ledgerPlaysUptoRow : OpenClaim := { program := "ytlmbbnkdiokabaadoor", sum := "8972121b09e27e164d71c1d524ccf96e74cf12d3ee39ad5f3e7bd4805867283b", func := "wagonway/wagonwaylaw14.LedgerPlays", spec := "ledgerPlays", unfollowed := true, recurses := true, named := ["wagonway/ledger.atFirst"], apart := false, laid := [("wagonway/ledger.atFirst", laid_wagonway_ledger_atFirst)], narrowed := true }
def LedgerPlaysUptoSaid : Prop := ledgerPlaysUptoRow.holds Tryd.pinned (OpenSpec.upto ledgerPlaysSpec)

/-- 'wagonwaylaw14.LedgerNames', WHERE WHAT IT READS IS OF BULK AT MOST 1048576: true; the input reads as it did. -/
def ledgerNamesUptoRow : OpenClaim := { program := "ytlmbbnkdiokabaadoor", sum := "8972121b09e27e164d71c1d524ccf96e74cf12d3ee39ad5f3e7bd4805867283b", func := "wagonway/wagonwaylaw14.LedgerNames", spec := "ledgerNames", unfollowed := true, recurses := true, named := ["wagonway/ledger.atFirst"], apart := false, laid := [("wagonway/ledger.atFirst", laid_wagonway_ledger_atFirst)], narrowed := true }
def LedgerNamesUptoSaid : Prop := ledgerNamesUptoRow.holds Tryd.pinned (OpenSpec.upto ledgerNamesSpec)

/-- 'wagonwaylaw14.LedgerGens', WHERE WHAT IT READS IS OF BULK AT MOST 1048576: true; the input reads as it did. -/
def ledgerGensUptoRow : OpenClaim := { program := "ytlmbbnkdiokabaadoor", sum := "8972121b09e27e164d71c1d524ccf96e74cf12d3ee39ad5f3e7bd4805867283b", func := "wagonway/wagonwaylaw14.LedgerGens", spec := "ledgerGens", unfollowed := true, recurses := true, named := ["wagonway/ledger.atFirst"], apart := false, laid := [("wagonway/ledger.atFirst", laid_wagonway_ledger_atFirst)], narrowed := true }
def LedgerGensUptoSaid : Prop := ledgerGensUptoRow.holds Tryd.pinned (OpenSpec.upto ledgerGensSpec)

/-- 'wagonwaylaw14.LedgerLoads', WHERE WHAT IT READS IS OF BULK AT MOST 1048576: true; the input reads as it did. -/
def ledgerLoadsUptoRow : OpenClaim := { program := "ytlmbbnkdiokabaadoor", sum := "8972121b09e27e164d71c1d524ccf96e74cf12d3ee39ad5f3e7bd4805867283b", func := "wagonway/wagonwaylaw14.LedgerLoads", spec := "ledgerLoads", unfollowed := true, recurses := true, named := ["wagonway/ledger.atFirst"], apart := false, laid := [("wagonway/ledger.atFirst", laid_wagonway_ledger_atFirst)], narrowed := true }
def LedgerLoadsUptoSaid : Prop := ledgerLoadsUptoRow.holds Tryd.pinned (OpenSpec.upto ledgerLoadsSpec)

/-- 'wagonwaylaw14.LedgerOld', WHERE WHAT IT READS IS OF BULK AT MOST 1048576: true; the input reads as it did. -/
def ledgerOldUptoRow : OpenClaim := { program := "ytlmbbnkdiokabaadoor", sum := "8972121b09e27e164d71c1d524ccf96e74cf12d3ee39ad5f3e7bd4805867283b", func := "wagonway/wagonwaylaw14.LedgerOld", spec := "ledgerOld", unfollowed := true, recurses := true, named := ["wagonway/ledger.atFirst"], apart := false, laid := [("wagonway/ledger.atFirst", laid_wagonway_ledger_atFirst)], narrowed := true }
def LedgerOldUptoSaid : Prop := ledgerOldUptoRow.holds Tryd.pinned (OpenSpec.upto ledgerOldSpec)

/-- 'wagonwaylaw14.LedgerTurns', WHERE WHAT IT READS IS OF BULK AT MOST 1048576: true; the input reads as it did. -/
def ledgerTurnsUptoRow : OpenClaim := { program := "ytlmbbnkdiokabaadoor", sum := "8972121b09e27e164d71c1d524ccf96e74cf12d3ee39ad5f3e7bd4805867283b", func := "wagonway/wagonwaylaw14.LedgerTurns", spec := "ledgerTurns", unfollowed := true, recurses := true, named := ["wagonway/ledger.atFirst"], apart := false, laid := [("wagonway/ledger.atFirst", laid_wagonway_ledger_atFirst)], narrowed := true }
def LedgerTurnsUptoSaid : Prop := ledgerTurnsUptoRow.holds Tryd.pinned (OpenSpec.upto ledgerTurnsSpec)

end Rows
end Go.Proofs.YtlmbbnkdiokabaaDoor
