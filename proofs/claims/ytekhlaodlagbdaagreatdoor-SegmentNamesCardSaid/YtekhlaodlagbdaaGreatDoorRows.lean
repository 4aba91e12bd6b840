/-
  NARROWER THAN 'FOR EVERY INPUT', by the rows' own cells (each row's printed sentence says how): SegmentTells: laid · SegmentNames: laid · SegmentParts: laid · HierRoutes: laid · HierChecks: laid · HierNames: laid · HierParts: laid · HierBans: laid · HierTurns: laid · HierEdges: laid.
  DERIVED. THE GIVEN ROWS OF THIS SEAT. 10 by the template 'for every input the law returns true; each argument reads behind the call as it read before'; 0 by the template 'total and deterministic' (their statements: YtekhlaodlagbdaaGreatDoorTotals.lean).
  GIVEN WITH THE SEED: the statements are not yours to turn. If you find one false, say at which input.
  Laid BY PROGRAM, IN A SANDBOX (cutbox-rows.mjs): the forced cells as the released guide's own fill.sh prints them over the translation e906715d0763775f… (all of the seat's roots in one cut). By AI agents, Wed Nov 11 2026. No macro, syntax, notation, axiom, sorry.
-/
import Derived.Test.YtekhlaodlagbdaaGreatDoorChecked
import GoSem.Claim
import GoSem.ClaimJoined
import GoSem.ClaimMapViews
import Derived.JoinedTies
import Derived.KernelRfl
namespace Go.Proofs.YtekhlaodlagbdaaGreatDoor
/- THE CELL 'sum', in the pinned program and in every row, IS THE sha256 OF THE DUMP (.gsa) THAT YtekhlaodlagbdaaGreatDoorProg.lean LOADS. Nothing in Lean hashes anything: it is a label: what it is worth is what the hold of that sum in a sandbox is worth. -/
noncomputable def Tryz.pinned : Pinned := { name := "ytekhlaodlagbdaagreatdoor", sum := "e906715d0763775fb403a33330faed647f470a51be841c134949729eabd09112", checked := Tryz.checked }
namespace Rows
def none {H : Type} : Left H := { results := [], args := [] }

/- WHAT THE LISTED PACKAGE-LEVEL VARIABLES READ AS WHEN THE CALL BEGINS. Each datum BY PROGRAM (the guide's laid-datum.mjs) off the statement by which the dump's own 'gosem.cut.vars' lays the variable. In a bare row this is a premise. The card (YtekhlaodlagbdaaGreatDoorCards.lean) ties it to the program's text. -/
def laid_wagonway_grid_ways {H : Type} : DataW H := .agg [.agg [.lit (.int .u8 94), .lit (.int .u8 118), .lit (.int .i64 (-1)), .lit (.int .i64 0)], .agg [.lit (.int .u8 60), .lit (.int .u8 62), .lit (.int .i64 0), .lit (.int .i64 (-1))], .agg [.lit (.int .u8 62), .lit (.int .u8 60), .lit (.int .i64 0), .lit (.int .i64 1)], .agg [.lit (.int .u8 118), .lit (.int .u8 94), .lit (.int .i64 1), .lit (.int .i64 0)]]

/-- 'wagonwaylaw05.SegmentTells': WHATEVER THE INPUT: true; the input reads as it did. -/
def segmentTellsSpec : ChangeSpec := { name := "segmentTells", fn := fun _ => fun
  | [d1, d2, d3] => { results := [.lit (.bool true)], args := [d1, d2, d3] }
  | _ => none }
def segmentTellsRow : OpenClaim := { program := "ytekhlaodlagbdaagreatdoor", sum := "e906715d0763775fb403a33330faed647f470a51be841c134949729eabd09112", func := "wagonway/wagonwaylaw05.SegmentTells", spec := "segmentTells", inPlace := ["internal/bytealg.IndexByteString", "sync/atomic.LoadUint32", "(*internal/sync.Mutex).Lock", "internal/race.Disable", "sync/atomic.CompareAndSwapInt32", "internal/race.Enable", "internal/race.Acquire", "(*internal/sync.Mutex).lockSlow", "internal/sync.runtime_canSpin", "internal/sync.runtime_doSpin", "internal/sync.throw", "internal/sync.runtime_nanotime", "internal/sync.runtime_SemacquireMutex", "sync/atomic.AddInt32", "(*internal/sync.Mutex).Unlock", "internal/race.ReleaseMerge", "(*internal/sync.Mutex).unlockSlow", "internal/sync.fatal", "internal/sync.runtime_Semrelease", "sync/atomic.StoreUint32"], unfollowed := true, recurses := true, named := ["wagonway/grid.ways"], apart := false, laid := [("wagonway/grid.ways", laid_wagonway_grid_ways)] }
def SegmentTellsSaid : Prop := segmentTellsRow.holds Tryz.pinned (OpenSpec.ofChange segmentTellsSpec)

/-- ITS FALSE NEIGHBOUR: 'it returns false'. Refute it at one input. -/
def segmentTellsWrong : ChangeSpec := { name := "segmentTells", fn := fun _ => fun
  | [d1, d2, d3] => { results := [.lit (.bool false)], args := [d1, d2, d3] }
  | _ => none }
def SegmentTellsWrongFalsely : Prop := segmentTellsRow.holds Tryz.pinned (OpenSpec.ofChange segmentTellsWrong)

/-- 'wagonwaylaw05.SegmentNames': WHATEVER THE INPUT: true; the input reads as it did. -/
def segmentNamesSpec : ChangeSpec := { name := "segmentNames", fn := fun _ => fun
  | [] => { results := [.lit (.bool true)], args := [] }
  | _ => none }
def segmentNamesRow : OpenClaim := { program := "ytekhlaodlagbdaagreatdoor", sum := "e906715d0763775fb403a33330faed647f470a51be841c134949729eabd09112", func := "wagonway/wagonwaylaw05.SegmentNames", spec := "segmentNames", inPlace := ["internal/bytealg.IndexByteString", "sync/atomic.LoadUint32", "(*internal/sync.Mutex).Lock", "internal/race.Disable", "sync/atomic.CompareAndSwapInt32", "internal/race.Enable", "internal/race.Acquire", "(*internal/sync.Mutex).lockSlow", "internal/sync.runtime_canSpin", "internal/sync.runtime_doSpin", "internal/sync.throw", "internal/sync.runtime_nanotime", "internal/sync.runtime_SemacquireMutex", "sync/atomic.AddInt32", "(*internal/sync.Mutex).Unlock", "internal/race.ReleaseMerge", "(*internal/sync.Mutex).unlockSlow", "internal/sync.fatal", "internal/sync.runtime_Semrelease", "sync/atomic.StoreUint32"], unfollowed := true, recurses := true, named := ["wagonway/grid.ways"], apart := false, laid := [("wagonway/grid.ways", laid_wagonway_grid_ways)] }
def SegmentNamesSaid : Prop := segmentNamesRow.holds Tryz.pinned (OpenSpec.ofChange segmentNamesSpec)

/-- ITS FALSE NEIGHBOUR: 'it returns false'. Refute it at one input. -/
def segmentNamesWrong : ChangeSpec := { name := "segmentNames", fn := fun _ => fun
  | [] => { results := [.lit (.bool false)], args := [] }
  | _ => none }
def SegmentNamesWrongFalsely : Prop := segmentNamesRow.holds Tryz.pinned (OpenSpec.ofChange segmentNamesWrong)

/-- 'wagonwaylaw05.SegmentParts': WHATEVER THE INPUT: true; the input reads as it did. -/
def segmentPartsSpec : ChangeSpec := { name := "segmentParts", fn := fun _ => fun
  | [d] => { results := [.lit (.bool true)], args := [d] }
  | _ => none }
def segmentPartsRow : OpenClaim := { program := "ytekhlaodlagbdaagreatdoor", sum := "e906715d0763775fb403a33330faed647f470a51be841c134949729eabd09112", func := "wagonway/wagonwaylaw05.SegmentParts", spec := "segmentParts", inPlace := ["internal/bytealg.IndexByteString", "sync/atomic.LoadUint32", "(*internal/sync.Mutex).Lock", "internal/race.Disable", "sync/atomic.CompareAndSwapInt32", "internal/race.Enable", "internal/race.Acquire", "(*internal/sync.Mutex).lockSlow", "internal/sync.runtime_canSpin", "internal/sync.runtime_doSpin", "internal/sync.throw", "internal/sync.runtime_nanotime", "internal/sync.runtime_SemacquireMutex", "sync/atomic.AddInt32", "(*internal/sync.Mutex).Unlock", "internal/race.ReleaseMerge", "(*internal/sync.Mutex).unlockSlow", "internal/sync.fatal", "internal/sync.runtime_Semrelease", "sync/atomic.StoreUint32"], unfollowed := true, recurses := true, named := ["wagonway/grid.ways"], apart := false, laid := [("wagonway/grid.ways", laid_wagonway_grid_ways)] }
def SegmentPartsSaid : Prop := segmentPartsRow.holds Tryz.pinned (OpenSpec.ofChange segmentPartsSpec)

/-- ITS FALSE NEIGHBOUR: 'it returns false'. Refute it at one input. -/
def segmentPartsWrong : ChangeSpec := { name := "segmentParts", fn := fun _ => fun
  | [d] => { results := [.lit (.bool false)], args := [d] }
  | _ => none }
def SegmentPartsWrongFalsely : Prop := segmentPartsRow.holds Tryz.pinned (OpenSpec.ofChange segmentPartsWrong)

/-- 'wagonwaylaw06.HierRoutes': WHATEVER THE INPUT: true; the input reads as it did. -/
def hierRoutesSpec : ChangeSpec := { name := "hierRoutes", fn := fun _ => fun
  | [d1, d2] => { results := [.lit (.bool true)], args := [d1, d2] }
  | _ => none }
def hierRoutesRow : OpenClaim := { program := "ytekhlaodlagbdaagreatdoor", sum := "e906715d0763775fb403a33330faed647f470a51be841c134949729eabd09112", func := "wagonway/wagonwaylaw06.HierRoutes", spec := "hierRoutes", inPlace := ["internal/bytealg.IndexByteString", "sync/atomic.LoadUint32", "(*internal/sync.Mutex).Lock", "internal/race.Disable", "sync/atomic.CompareAndSwapInt32", "internal/race.Enable", "internal/race.Acquire", "(*internal/sync.Mutex).lockSlow", "internal/sync.runtime_canSpin", "internal/sync.runtime_doSpin", "internal/sync.throw", "internal/sync.runtime_nanotime", "internal/sync.runtime_SemacquireMutex", "sync/atomic.AddInt32", "(*internal/sync.Mutex).Unlock", "internal/race.ReleaseMerge", "(*internal/sync.Mutex).unlockSlow", "internal/sync.fatal", "internal/sync.runtime_Semrelease", "sync/atomic.StoreUint32"], unfollowed := true, recurses := true, named := ["wagonway/grid.ways"], apart := false, laid := [("wagonway/grid.ways", laid_wagonway_grid_ways)] }
def HierRoutesSaid : Prop := hierRoutesRow.holds Tryz.pinned (OpenSpec.ofChange hierRoutesSpec)

/-- ITS FALSE NEIGHBOUR: 'it returns false'. Refute it at one input. -/
def hierRoutesWrong : ChangeSpec := { name := "hierRoutes", fn := fun _ => fun
  | [d1, d2] => { results := [.lit (.bool false)], args := [d1, d2] }
  | _ => none }
def HierRoutesWrongFalsely : Prop := hierRoutesRow.holds Tryz.pinned (OpenSpec.ofChange hierRoutesWrong)

/-- 'wagonwaylaw06.HierChecks': WHATEVER THE INPUT: true; the input reads as it did. -/
def hierChecksSpec : ChangeSpec := { name := "hierChecks", fn := fun _ => fun
  | [d1, d2, d3] => { results := [.lit (.bool true)], args := [d1, d2, d3] }
  | _ => none }
def hierChecksRow : OpenClaim := { program := "ytekhlaodlagbdaagreatdoor", sum := "e906715d0763775fb403a33330faed647f470a51be841c134949729eabd09112", func := "wagonway/wagonwaylaw06.HierChecks", spec := "hierChecks", inPlace := ["internal/bytealg.IndexByteString", "sync/atomic.LoadUint32", "(*internal/sync.Mutex).Lock", "internal/race.Disable", "sync/atomic.CompareAndSwapInt32", "internal/race.Enable", "internal/race.Acquire", "(*internal/sync.Mutex).lockSlow", "internal/sync.runtime_canSpin", "internal/sync.runtime_doSpin", "internal/sync.throw", "internal/sync.runtime_nanotime", "internal/sync.runtime_SemacquireMutex", "sync/atomic.AddInt32", "(*internal/sync.Mutex).Unlock", "internal/race.ReleaseMerge", "(*internal/sync.Mutex).unlockSlow", "internal/sync.fatal", "internal/sync.runtime_Semrelease", "sync/atomic.StoreUint32"], unfollowed := true, recurses := true, named := ["wagonway/grid.ways"], apart := false, laid := [("wagonway/grid.ways", laid_wagonway_grid_ways)] }
def HierChecksSaid : Prop := hierChecksRow.holds Tryz.pinned (OpenSpec.ofChange hierChecksSpec)

/-- ITS FALSE NEIGHBOUR: 'it returns false'. Refute it at one input. -/
def hierChecksWrong : ChangeSpec := { name := "hierChecks", fn := fun _ => fun
  | [d1, d2, d3] => { results := [.lit (.bool false)], args := [d1, d2, d3] }
  | _ => none }
def HierChecksWrongFalsely : Prop := hierChecksRow.holds Tryz.pinned (OpenSpec.ofChange hierChecksWrong)

/-- 'wagonwaylaw06.HierNames': WHATEVER THE INPUT: true; the input reads as it did. -/
def hierNamesSpec : ChangeSpec := { name := "hierNames", fn := fun _ => fun
  | [] => { results := [.lit (.bool true)], args := [] }
  | _ => none }
def hierNamesRow : OpenClaim := { program := "ytekhlaodlagbdaagreatdoor", sum := "e906715d0763775fb403a33330faed647f470a51be841c134949729eabd09112", func := "wagonway/wagonwaylaw06.HierNames", spec := "hierNames", inPlace := ["internal/bytealg.IndexByteString", "sync/atomic.LoadUint32", "(*internal/sync.Mutex).Lock", "internal/race.Disable", "sync/atomic.CompareAndSwapInt32", "internal/race.Enable", "internal/race.Acquire", "(*internal/sync.Mutex).lockSlow", "internal/sync.runtime_canSpin", "internal/sync.runtime_doSpin", "internal/sync.throw", "internal/sync.runtime_nanotime", "internal/sync.runtime_SemacquireMutex", "sync/atomic.AddInt32", "(*internal/sync.Mutex).Unlock", "internal/race.ReleaseMerge", "(*internal/sync.Mutex).unlockSlow", "internal/sync.fatal", "internal/sync.runtime_Semrelease", "sync/atomic.StoreUint32"], unfollowed := true, recurses := true, named := ["wagonway/grid.ways"], apart := false, laid := [("wagonway/grid.ways", laid_wagonway_grid_ways)] }
def HierNamesSaid : Prop := hierNamesRow.holds Tryz.pinned (OpenSpec.ofChange hierNamesSpec)

/-- ITS FALSE NEIGHBOUR: 'it returns false'. Refute it at one input. -/
def hierNamesWrong : ChangeSpec := { name := "hierNames", fn := fun _ => fun
  | [] => { results := [.lit (.bool false)], args := [] }
  | _ => none }
def HierNamesWrongFalsely : Prop := hierNamesRow.holds Tryz.pinned (OpenSpec.ofChange hierNamesWrong)

/-- 'wagonwaylaw06.HierParts': WHATEVER THE INPUT: true; the input reads as it did. -/
def hierPartsSpec : ChangeSpec := { name := "hierParts", fn := fun _ => fun
  | [d1, d2, d3] => { results := [.lit (.bool true)], args := [d1, d2, d3] }
  | _ => none }
def hierPartsRow : OpenClaim := { program := "ytekhlaodlagbdaagreatdoor", sum := "e906715d0763775fb403a33330faed647f470a51be841c134949729eabd09112", func := "wagonway/wagonwaylaw06.HierParts", spec := "hierParts", inPlace := ["internal/bytealg.IndexByteString", "sync/atomic.LoadUint32", "(*internal/sync.Mutex).Lock", "internal/race.Disable", "sync/atomic.CompareAndSwapInt32", "internal/race.Enable", "internal/race.Acquire", "(*internal/sync.Mutex).lockSlow", "internal/sync.runtime_canSpin", "internal/sync.runtime_doSpin", "internal/sync.throw", "internal/sync.runtime_nanotime", "internal/sync.runtime_SemacquireMutex", "sync/atomic.AddInt32", "(*internal/sync.Mutex).Unlock", "internal/race.ReleaseMerge", "(*internal/sync.Mutex).unlockSlow", "internal/sync.fatal", "internal/sync.runtime_Semrelease", "sync/atomic.StoreUint32"], unfollowed := true, recurses := true, named := ["wagonway/grid.ways"], apart := false, laid := [("wagonway/grid.ways", laid_wagonway_grid_ways)] }
def HierPartsSaid : Prop := hierPartsRow.holds Tryz.pinned (OpenSpec.ofChange hierPartsSpec)

/-- ITS FALSE NEIGHBOUR: 'it returns false'. Refute it at one input. -/
def hierPartsWrong : ChangeSpec := { name := "hierParts", fn := fun _ => fun
  | [d1, d2, d3] => { results := [.lit (.bool false)], args := [d1, d2, d3] }
  | _ => none }
def HierPartsWrongFalsely : Prop := hierPartsRow.holds Tryz.pinned (OpenSpec.ofChange hierPartsWrong)

/-- 'wagonwaylaw06.HierBans': WHATEVER THE INPUT: true; the input reads as it did. -/
def hierBansSpec : ChangeSpec := { name := "hierBans", fn := fun _ => fun
  | [d1, d2, d3] => { results := [.lit (.bool true)], args := [d1, d2, d3] }
  | _ => none }
def hierBansRow : OpenClaim := { program := "ytekhlaodlagbdaagreatdoor", sum := "e906715d0763775fb403a33330faed647f470a51be841c134949729eabd09112", func := "wagonway/wagonwaylaw06.HierBans", spec := "hierBans", inPlace := ["internal/bytealg.IndexByteString", "sync/atomic.LoadUint32", "(*internal/sync.Mutex).Lock", "internal/race.Disable", "sync/atomic.CompareAndSwapInt32", "internal/race.Enable", "internal/race.Acquire", "(*internal/sync.Mutex).lockSlow", "internal/sync.runtime_canSpin", "internal/sync.runtime_doSpin", "internal/sync.throw", "internal/sync.runtime_nanotime", "internal/sync.runtime_SemacquireMutex", "sync/atomic.AddInt32", "(*internal/sync.Mutex).Unlock", "internal/race.ReleaseMerge", "(*internal/sync.Mutex).unlockSlow", "internal/sync.fatal", "internal/sync.runtime_Semrelease", "sync/atomic.StoreUint32"], unfollowed := true, recurses := true, named := ["wagonway/grid.ways"], apart := false, laid := [("wagonway/grid.ways", laid_wagonway_grid_ways)] }
def HierBansSaid : Prop := hierBansRow.holds Tryz.pinned (OpenSpec.ofChange hierBansSpec)

/-- ITS FALSE NEIGHBOUR: 'it returns false'. Refute it at one input. -/
def hierBansWrong : ChangeSpec := { name := "hierBans", fn := fun _ => fun
  | [d1, d2, d3] => { results := [.lit (.bool false)], args := [d1, d2, d3] }
  | _ => none }
def HierBansWrongFalsely : Prop := hierBansRow.holds Tryz.pinned (OpenSpec.ofChange hierBansWrong)

/-- 'wagonwaylaw06.HierTurns': WHATEVER THE INPUT: true; the input reads as it did. -/
def hierTurnsSpec : ChangeSpec := { name := "hierTurns", fn := fun _ => fun
  | [d1, d2] => { results := [.lit (.bool true)], args := [d1, d2] }
  | _ => none }
def hierTurnsRow : OpenClaim := { program := "ytekhlaodlagbdaagreatdoor", sum := "e906715d0763775fb403a33330faed647f470a51be841c134949729eabd09112", func := "wagonway/wagonwaylaw06.HierTurns", spec := "hierTurns", inPlace := ["internal/bytealg.IndexByteString", "sync/atomic.LoadUint32", "(*internal/sync.Mutex).Lock", "internal/race.Disable", "sync/atomic.CompareAndSwapInt32", "internal/race.Enable", "internal/race.Acquire", "(*internal/sync.Mutex).lockSlow", "internal/sync.runtime_canSpin", "internal/sync.runtime_doSpin", "internal/sync.throw", "internal/sync.runtime_nanotime", "internal/sync.runtime_SemacquireMutex", "sync/atomic.AddInt32", "(*internal/sync.Mutex).Unlock", "internal/race.ReleaseMerge", "(*internal/sync.Mutex).unlockSlow", "internal/sync.fatal", "internal/sync.runtime_Semrelease", "sync/atomic.StoreUint32"], unfollowed := true, recurses := true, named := ["wagonway/grid.ways"], apart := false, laid := [("wagonway/grid.ways", laid_wagonway_grid_ways)] }
def HierTurnsSaid : Prop := hierTurnsRow.holds Tryz.pinned (OpenSpec.ofChange hierTurnsSpec)

/-- ITS FALSE NEIGHBOUR: 'it returns false'. Refute it at one input. -/
def hierTurnsWrong : ChangeSpec := { name := "hierTurns", fn := fun _ => fun
  | [d1, d2] => { results := [.lit (.bool false)], args := [d1, d2] }
  | _ => none }
def HierTurnsWrongFalsely : Prop := hierTurnsRow.holds Tryz.pinned (OpenSpec.ofChange hierTurnsWrong)

/-- 'wagonwaylaw06.HierEdges': WHATEVER THE INPUT: true; the input reads as it did. -/
def hierEdgesSpec : ChangeSpec := { name := "hierEdges", fn := fun _ => fun
  | [d1, d2] => { results := [.lit (.bool true)], args := [d1, d2] }
  | _ => none }
def hierEdgesRow : OpenClaim := { program := "ytekhlaodlagbdaagreatdoor", sum := "e906715d0763775fb403a33330faed647f470a51be841c134949729eabd09112", func := "wagonway/wagonwaylaw06.HierEdges", spec := "hierEdges", inPlace := ["internal/bytealg.IndexByteString", "sync/atomic.LoadUint32", "(*internal/sync.Mutex).Lock", "internal/race.Disable", "sync/atomic.CompareAndSwapInt32", "internal/race.Enable", "internal/race.Acquire", "(*internal/sync.Mutex).lockSlow", "internal/sync.runtime_canSpin", "internal/sync.runtime_doSpin", "internal/sync.throw", "internal/sync.runtime_nanotime", "internal/sync.runtime_SemacquireMutex", "sync/atomic.AddInt32", "(*internal/sync.Mutex).Unlock", "internal/race.ReleaseMerge", "(*internal/sync.Mutex).unlockSlow", "internal/sync.fatal", "internal/sync.runtime_Semrelease", "sync/atomic.StoreUint32"], unfollowed := true, recurses := true, named := ["wagonway/grid.ways"], apart := false, laid := [("wagonway/grid.ways", laid_wagonway_grid_ways)] }
def HierEdgesSaid : Prop := hierEdgesRow.holds Tryz.pinned (OpenSpec.ofChange hierEdgesSpec)

/-- ITS FALSE NEIGHBOUR: 'it returns false'. Refute it at one input. -/
def hierEdgesWrong : ChangeSpec := { name := "hierEdges", fn := fun _ => fun
  | [d1, d2] => { results := [.lit (.bool false)], args := [d1, d2] }
  | _ => none }
def HierEdgesWrongFalsely : Prop := hierEdgesRow.holds Tryz.pinned (OpenSpec.ofChange hierEdgesWrong)

/- THE SECOND FORM. 'bulk': how many values and letters a reading holds, each counted each time it is reached (what is shared counts as often as it is met; a slice's spare places count too). A statement '..UptoSaid' is the law's where the arguments, and the package variables that the reading takes, are together of bulk at most 1048576: NARROWER than '..Said'. Prove '..Said' where nothing that the law and all that it calls make is longer than what came in: it says more and counts as full. Else prove '..UptoSaid'. A law counts once. -/
mutual
def uptoBulk {H : Type} : DataW H → Nat
  | .lit (.string bytes) => bytes.length + 1
  | .lit _ => 1
  | .nil => 1
  | .ptr d => uptoBulk d + 1
  | .slice elems spare => uptoBulkAll elems + uptoBulkAll spare + 1
  | .agg parts => uptoBulkAll parts + 1
  | .iface _ d => uptoBulk d + 1
  | .map entries => uptoBulkEntries entries + 1
  | .held _ => 1
def uptoBulkAll {H : Type} : List (DataW H) → Nat
  | [] => 0
  | d :: r => uptoBulk d + uptoBulkAll r
def uptoBulkEntries {H : Type} : List (Lit × DataW H) → Nat
  | [] => 0
  | x :: r => uptoBulkEntry x + uptoBulkEntries r
def uptoBulkEntry {H : Type} : Lit × DataW H → Nat
  | (.string bytes, d) => bytes.length + uptoBulk d + 1
  | (_, d) => uptoBulk d + 1
 end
def uptoSmall : (H : Type) → List (DataW H) → Bool := fun _ ds => decide (uptoBulkAll ds ≤ 1048576)
def OpenSpec.upto (s : _root_.Go.ChangeSpec) : _root_.Go.OpenSpec := { _root_.Go.OpenSpec.ofChange s with cond := some uptoSmall }

/-- 'wagonwaylaw05.SegmentTells', WHERE WHAT IT READS IS OF BULK AT MOST 1048576: true; the input reads as it did. -/
def segmentTellsUptoRow : OpenClaim := { program := "ytekhlaodlagbdaagreatdoor", sum := "e906715d0763775fb403a33330faed647f470a51be841c134949729eabd09112", func := "wagonway/wagonwaylaw05.SegmentTells", spec := "segmentTells", inPlace := ["internal/bytealg.IndexByteString", "sync/atomic.LoadUint32", "(*internal/sync.Mutex).Lock", "internal/race.Disable", "sync/atomic.CompareAndSwapInt32", "internal/race.Enable", "internal/race.Acquire", "(*internal/sync.Mutex).lockSlow", "internal/sync.runtime_canSpin", "internal/sync.runtime_doSpin", "internal/sync.throw", "internal/sync.runtime_nanotime", "internal/sync.runtime_SemacquireMutex", "sync/atomic.AddInt32", "(*internal/sync.Mutex).Unlock", "internal/race.ReleaseMerge", "(*internal/sync.Mutex).unlockSlow", "internal/sync.fatal", "internal/sync.runtime_Semrelease", "sync/atomic.StoreUint32"], unfollowed := true, recurses := true, named := ["wagonway/grid.ways"], apart := false, laid := [("wagonway/grid.ways", laid_wagonway_grid_ways)], narrowed := true }
def SegmentTellsUptoSaid : Prop := segmentTellsUptoRow.holds Tryz.pinned (OpenSpec.upto segmentTellsSpec)

/-- 'wagonwaylaw05.SegmentNames', WHERE WHAT IT READS IS OF BULK AT MOST 1048576: true; the input reads as it did. -/
def segmentNamesUptoRow : OpenClaim := { program := "ytekhlaodlagbdaagreatdoor", sum := "e906715d0763775fb403a33330faed647f470a51be841c134949729eabd09112", func := "wagonway/wagonwaylaw05.SegmentNames", spec := "segmentNames", inPlace := ["internal/bytealg.IndexByteString", "sync/atomic.LoadUint32", "(*internal/sync.Mutex).Lock", "internal/race.Disable", "sync/atomic.CompareAndSwapInt32", "internal/race.Enable", "internal/race.Acquire", "(*internal/sync.Mutex).lockSlow", "internal/sync.runtime_canSpin", "internal/sync.runtime_doSpin", "internal/sync.throw", "internal/sync.runtime_nanotime", "internal/sync.runtime_SemacquireMutex", "sync/atomic.AddInt32", "(*internal/sync.Mutex).Unlock", "internal/race.ReleaseMerge", "(*internal/sync.Mutex).unlockSlow", "internal/sync.fatal", "internal/sync.runtime_Semrelease", "sync/atomic.StoreUint32"], unfollowed := true, recurses := true, named := ["wagonway/grid.ways"], apart := false, laid := [("wagonway/grid.ways", laid_wagonway_grid_ways)], narrowed := true }
def SegmentNamesUptoSaid : Prop := segmentNamesUptoRow.holds Tryz.pinned (OpenSpec.upto segmentNamesSpec)

/-- 'wagonwaylaw05.SegmentParts', WHERE WHAT IT READS IS OF BULK AT MOST 1048576: true; the input reads as it did. -/
def segmentPartsUptoRow : OpenClaim := { program := "ytekhlaodlagbdaagreatdoor", sum := "e906715d0763775fb403a33330faed647f470a51be841c134949729eabd09112", func := "wagonway/wagonwaylaw05.SegmentParts", spec := "segmentParts", inPlace := ["internal/bytealg.IndexByteString", "sync/atomic.LoadUint32", "(*internal/sync.Mutex).Lock", "internal/race.Disable", "sync/atomic.CompareAndSwapInt32", "internal/race.Enable", "internal/race.Acquire", "(*internal/sync.Mutex).lockSlow", "internal/sync.runtime_canSpin", "internal/sync.runtime_doSpin", "internal/sync.throw", "internal/sync.runtime_nanotime", "internal/sync.runtime_SemacquireMutex", "sync/atomic.AddInt32", "(*internal/sync.Mutex).Unlock", "internal/race.ReleaseMerge", "(*internal/sync.Mutex).unlockSlow", "internal/sync.fatal", "internal/sync.runtime_Semrelease", "sync/atomic.StoreUint32"], unfollowed := true, recurses := true, named := ["wagonway/grid.ways"], apart := false, laid := [("wagonway/grid.ways", laid_wagonway_grid_ways)], narrowed := true }
def SegmentPartsUptoSaid : Prop := segmentPartsUptoRow.holds Tryz.pinned (OpenSpec.upto segmentPartsSpec)

/-- 'wagonwaylaw06.HierRoutes', WHERE WHAT IT READS IS OF BULK AT MOST 1048576: true; the input reads as it did. -/
def hierRoutesUptoRow : OpenClaim := { program := "ytekhlaodlagbdaagreatdoor", sum := "e906715d0763775fb403a33330faed647f470a51be841c134949729eabd09112", func := "wagonway/wagonwaylaw06.HierRoutes", spec := "hierRoutes", inPlace := ["internal/bytealg.IndexByteString", "sync/atomic.LoadUint32", "(*internal/sync.Mutex).Lock", "internal/race.Disable", "sync/atomic.CompareAndSwapInt32", "internal/race.Enable", "internal/race.Acquire", "(*internal/sync.Mutex).lockSlow", "internal/sync.runtime_canSpin", "internal/sync.runtime_doSpin", "internal/sync.throw", "internal/sync.runtime_nanotime", "internal/sync.runtime_SemacquireMutex", "sync/atomic.AddInt32", "(*internal/sync.Mutex).Unlock", "internal/race.ReleaseMerge", "(*internal/sync.Mutex).unlockSlow", "internal/sync.fatal", "internal/sync.runtime_Semrelease", "sync/atomic.StoreUint32"], unfollowed := true, recurses := true, named := ["wagonway/grid.ways"], apart := false, laid := [("wagonway/grid.ways", laid_wagonway_grid_ways)], narrowed := true }
def HierRoutesUptoSaid : Prop := hierRoutesUptoRow.holds Tryz.pinned (OpenSpec.upto hierRoutesSpec)

/-- 'wagonwaylaw06.HierChecks', WHERE WHAT IT READS IS OF BULK AT MOST 1048576: true; the input reads as it did. -/
def hierChecksUptoRow : OpenClaim := { program := "ytekhlaodlagbdaagreatdoor", sum := "e906715d0763775fb403a33330faed647f470a51be841c134949729eabd09112", func := "wagonway/wagonwaylaw06.HierChecks", spec := "hierChecks", inPlace := ["internal/bytealg.IndexByteString", "sync/atomic.LoadUint32", "(*internal/sync.Mutex).Lock", "internal/race.Disable", "sync/atomic.CompareAndSwapInt32", "internal/race.Enable", "internal/race.Acquire", "(*internal/sync.Mutex).lockSlow", "internal/sync.runtime_canSpin", "internal/sync.runtime_doSpin", "internal/sync.throw", "internal/sync.runtime_nanotime", "internal/sync.runtime_SemacquireMutex", "sync/atomic.AddInt32", "(*internal/sync.Mutex).Unlock", "internal/race.ReleaseMerge", "(*internal/sync.Mutex).unlockSlow", "internal/sync.fatal", "internal/sync.runtime_Semrelease", "sync/atomic.StoreUint32"], unfollowed := true, recurses := true, named := ["wagonway/grid.ways"], apart := false, laid := [("wagonway/grid.ways", laid_wagonway_grid_ways)], narrowed := true }
def HierChecksUptoSaid : Prop := hierChecksUptoRow.holds Tryz.pinned (OpenSpec.upto hierChecksSpec)

/-- 'wagonwaylaw06.HierNames', WHERE WHAT IT READS IS OF BULK AT MOST 1048576: true; the input reads as it did. -/
def hierNamesUptoRow : OpenClaim := { program := "ytekhlaodlagbdaagreatdoor", sum := "e906715d0763775fb403a33330faed647f470a51be841c134949729eabd09112", func := "wagonway/wagonwaylaw06.HierNames", spec := "hierNames", inPlace := ["internal/bytealg.IndexByteString", "sync/atomic.LoadUint32", "(*internal/sync.Mutex).Lock", "internal/race.Disable", "sync/atomic.CompareAndSwapInt32", "internal/race.Enable", "internal/race.Acquire", "(*internal/sync.Mutex).lockSlow", "internal/sync.runtime_canSpin", "internal/sync.runtime_doSpin", "internal/sync.throw", "internal/sync.runtime_nanotime", "internal/sync.runtime_SemacquireMutex", "sync/atomic.AddInt32", "(*internal/sync.Mutex).Unlock", "internal/race.ReleaseMerge", "(*internal/sync.Mutex).unlockSlow", "internal/sync.fatal", "internal/sync.runtime_Semrelease", "sync/atomic.StoreUint32"], unfollowed := true, recurses := true, named := ["wagonway/grid.ways"], apart := false, laid := [("wagonway/grid.ways", laid_wagonway_grid_ways)], narrowed := true }
def HierNamesUptoSaid : Prop := hierNamesUptoRow.holds Tryz.pinned (OpenSpec.upto hierNamesSpec)

/-- 'wagonwaylaw06.HierParts', WHERE WHAT IT READS IS OF BULK AT MOST 1048576: true; the input reads as it did. -/
def hierPartsUptoRow : OpenClaim := { program := "ytekhlaodlagbdaagreatdoor", sum := "e906715d0763775fb403a33330faed647f470a51be841c134949729eabd09112", func := "wagonway/wagonwaylaw06.HierParts", spec := "hierParts", inPlace := ["internal/bytealg.IndexByteString", "sync/atomic.LoadUint32", "(*internal/sync.Mutex).Lock", "internal/race.Disable", "sync/atomic.CompareAndSwapInt32", "internal/race.Enable", "internal/race.Acquire", "(*internal/sync.Mutex).lockSlow", "internal/sync.runtime_canSpin", "internal/sync.runtime_doSpin", "internal/sync.throw", "internal/sync.runtime_nanotime", "internal/sync.runtime_SemacquireMutex", "sync/atomic.AddInt32", "(*internal/sync.Mutex).Unlock", "internal/race.ReleaseMerge", "(*internal/sync.Mutex).unlockSlow", "internal/sync.fatal", "internal/sync.runtime_Semrelease", "sync/atomic.StoreUint32"], unfollowed := true, recurses := true, named := ["wagonway/grid.ways"], apart := false, laid := [("wagonway/grid.ways", laid_wagonway_grid_ways)], narrowed := true }
def HierPartsUptoSaid : Prop := hierPartsUptoRow.holds Tryz.pinned (OpenSpec.upto hierPartsSpec)

/-- 'wagonwaylaw06.HierBans', WHERE WHAT IT READS IS OF BULK AT MOST 1048576: true; the input reads as it did. -/
def hierBansUptoRow : OpenClaim := { program := "ytekhlaodlagbdaagreatdoor", sum := "e906715d0763775fb403a33330faed647f470a51be841c134949729eabd09112", func := "wagonway/wagonwaylaw06.HierBans", spec := "hierBans", inPlace := ["internal/bytealg.IndexByteString", "sync/atomic.LoadUint32", "(*internal/sync.Mutex).Lock", "internal/race.Disable", "sync/atomic.CompareAndSwapInt32", "internal/race.Enable", "internal/race.Acquire", "(*internal/sync.Mutex).lockSlow", "internal/sync.runtime_canSpin", "internal/sync.runtime_doSpin", "internal/sync.throw", "internal/sync.runtime_nanotime", "internal/sync.runtime_SemacquireMutex", "sync/atomic.AddInt32", "(*internal/sync.Mutex).Unlock", "internal/race.ReleaseMerge", "(*internal/sync.Mutex).unlockSlow", "internal/sync.fatal", "internal/sync.runtime_Semrelease", "sync/atomic.StoreUint32"], unfollowed := true, recurses := true, named := ["wagonway/grid.ways"], apart := false, laid := [("wagonway/grid.ways", laid_wagonway_grid_ways)], narrowed := true }
def HierBansUptoSaid : Prop := hierBansUptoRow.holds Tryz.pinned (OpenSpec.upto hierBansSpec)

/-- 'wagonwaylaw06.HierTurns', WHERE WHAT IT READS IS OF BULK AT MOST 1048576: true; the input reads as it did. -/
def hierTurnsUptoRow : OpenClaim := { program := "ytekhlaodlagbdaagreatdoor", sum := "e906715d0763775fb403a33330faed647f470a51be841c134949729eabd09112", func := "wagonway/wagonwaylaw06.HierTurns", spec := "hierTurns", inPlace := ["internal/bytealg.IndexByteString", "sync/atomic.LoadUint32", "(*internal/sync.Mutex).Lock", "internal/race.Disable", "sync/atomic.CompareAndSwapInt32", "internal/race.Enable", "internal/race.Acquire", "(*internal/sync.Mutex).lockSlow", "internal/sync.runtime_canSpin", "internal/sync.runtime_doSpin", "internal/sync.throw", "internal/sync.runtime_nanotime", "internal/sync.runtime_SemacquireMutex", "sync/atomic.AddInt32", "(*internal/sync.Mutex).Unlock", "internal/race.ReleaseMerge", "(*internal/sync.Mutex).unlockSlow", "internal/sync.fatal", "internal/sync.runtime_Semrelease", "sync/atomic.StoreUint32"], unfollowed := true, recurses := true, named := ["wagonway/grid.ways"], apart := false, laid := [("wagonway/grid.ways", laid_wagonway_grid_ways)], narrowed := true }
def HierTurnsUptoSaid : Prop := hierTurnsUptoRow.holds Tryz.pinned (OpenSpec.upto hierTurnsSpec)

/-- 'wagonwaylaw06.HierEdges', WHERE WHAT IT READS IS OF BULK AT MOST 1048576: true; the input reads as it did. -/
def hierEdgesUptoRow : OpenClaim := { program := "ytekhlaodlagbdaagreatdoor", sum := "e906715d0763775fb403a33330faed647f470a51be841c134949729eabd09112", func := "wagonway/wagonwaylaw06.HierEdges", spec := "hierEdges", inPlace := ["internal/bytealg.IndexByteString", "sync/atomic.LoadUint32", "(*internal/sync.Mutex).Lock", "internal/race.Disable", "sync/atomic.CompareAndSwapInt32", "internal/race.Enable", "internal/race.Acquire", "(*internal/sync.Mutex).lockSlow", "internal/sync.runtime_canSpin", "internal/sync.runtime_doSpin", "internal/sync.throw", "internal/sync.runtime_nanotime", "internal/sync.runtime_SemacquireMutex", "sync/atomic.AddInt32", "(*internal/sync.Mutex).Unlock", "internal/race.ReleaseMerge", "(*internal/sync.Mutex).unlockSlow", "internal/sync.fatal", "internal/sync.runtime_Semrelease", "sync/atomic.StoreUint32"], unfollowed := true, recurses := true, named := ["wagonway/grid.ways"], apart := false, laid := [("wagonway/grid.ways", laid_wagonway_grid_ways)], narrowed := true }
def HierEdgesUptoSaid : Prop := hierEdgesUptoRow.holds Tryz.pinned (OpenSpec.upto hierEdgesSpec)

end Rows
end Go.Proofs.YtekhlaodlagbdaaGreatDoor
