/-
  NARROWER THAN 'FOR EVERY INPUT', by the rows' own cells (each row's printed sentence says how): RouteFinds: laid · RouteAround: laid · RouteNames: laid · RouteShort: laid · RouteRest: laid · RouteTriangle: laid · RouteBans: laid · SegmentInside: laid · SegmentKinds: laid.
  DERIVED. THE GIVEN ROWS OF THIS SEAT. 9 by the template 'for every input the law returns true; each argument reads behind the call as it read before'; 0 by the template 'total and deterministic' (their statements: YtkedjnhidfnlkaaDoorTotals.lean).
  GIVEN WITH THE SEED: the statements are not yours to turn. If you find one false, say at which input.
  Laid BY PROGRAM, IN A SANDBOX (cutbox-rows.mjs): the forced cells as the released guide's own fill.sh prints them over the translation 3cfe8301baeb6089… (all of the seat's roots in one cut). By AI agents, Wed Nov 11 2026. No macro, syntax, notation, axiom, sorry.
-/
import Derived.Test.YtkedjnhidfnlkaaDoorChecked
import GoSem.Claim
import GoSem.ClaimJoined
import GoSem.ClaimMapViews
import Derived.JoinedTies
import Derived.KernelRfl
namespace Go.Proofs.YtkedjnhidfnlkaaDoor
/- THE CELL 'sum', in the pinned program and in every row, IS THE sha256 OF THE DUMP (.gsa) THAT YtkedjnhidfnlkaaDoorProg.lean LOADS. Nothing in Lean hashes anything: it is a label: what it is worth is what the hold of that sum in a sandbox is worth. -/
noncomputable def Tryd.pinned : Pinned := { name := "ytkedjnhidfnlkaadoor", sum := "3cfe8301baeb6089f4b402340458aba9d3faf8b5a31b72fafd8af5a7e22bb13b", checked := Tryd.checked }
namespace Rows
def none {H : Type} : Left H := { results := [], args := [] }

/- WHAT THE LISTED PACKAGE-LEVEL VARIABLES READ AS WHEN THE CALL BEGINS. Each datum BY PROGRAM (the guide's laid-datum.mjs) off the statement by which the dump's own 'gosem.cut.vars' lays the variable. In a bare row this is a premise. The card (YtkedjnhidfnlkaaDoorCards.lean) ties it to the program's text. -/
def laid_wagonway_grid_ways {H : Type} : DataW H := .agg [.agg [.lit (.int .u8 94), .lit (.int .u8 118), .lit (.int .i64 (-1)), .lit (.int .i64 0)], .agg [.lit (.int .u8 60), .lit (.int .u8 62), .lit (.int .i64 0), .lit (.int .i64 (-1))], .agg [.lit (.int .u8 62), .lit (.int .u8 60), .lit (.int .i64 0), .lit (.int .i64 1)], .agg [.lit (.int .u8 118), .lit (.int .u8 94), .lit (.int .i64 1), .lit (.int .i64 0)]]

/-- 'wagonwaylaw04.RouteFinds': WHATEVER THE INPUT: true; the input reads as it did. -/
def routeFindsSpec : ChangeSpec := { name := "routeFinds", fn := fun _ => fun
  | [d1, d2, d3, d4, d5] => { results := [.lit (.bool true)], args := [d1, d2, d3, d4, d5] }
  | _ => none }
def routeFindsRow : OpenClaim := { program := "ytkedjnhidfnlkaadoor", sum := "3cfe8301baeb6089f4b402340458aba9d3faf8b5a31b72fafd8af5a7e22bb13b", func := "wagonway/wagonwaylaw04.RouteFinds", spec := "routeFinds", inPlace := ["internal/bytealg.IndexByteString", "sync/atomic.LoadUint32", "(*internal/sync.Mutex).Lock", "internal/race.Disable", "sync/atomic.CompareAndSwapInt32", "internal/race.Enable", "internal/race.Acquire", "(*internal/sync.Mutex).lockSlow", "internal/sync.runtime_canSpin", "internal/sync.runtime_doSpin", "internal/sync.throw", "internal/sync.runtime_nanotime", "internal/sync.runtime_SemacquireMutex", "sync/atomic.AddInt32", "(*internal/sync.Mutex).Unlock", "internal/race.ReleaseMerge", "(*internal/sync.Mutex).unlockSlow", "internal/sync.fatal", "internal/sync.runtime_Semrelease", "sync/atomic.StoreUint32"], unfollowed := true, recurses := true, named := ["wagonway/grid.ways"], apart := false, laid := [("wagonway/grid.ways", laid_wagonway_grid_ways)] }
def RouteFindsSaid : Prop := routeFindsRow.holds Tryd.pinned (OpenSpec.ofChange routeFindsSpec)

/-- ITS FALSE NEIGHBOUR: 'it returns false'. Refute it at one input. -/
def routeFindsWrong : ChangeSpec := { name := "routeFinds", fn := fun _ => fun
  | [d1, d2, d3, d4, d5] => { results := [.lit (.bool false)], args := [d1, d2, d3, d4, d5] }
  | _ => none }
def RouteFindsWrongFalsely : Prop := routeFindsRow.holds Tryd.pinned (OpenSpec.ofChange routeFindsWrong)

/-- 'wagonwaylaw04.RouteAround': WHATEVER THE INPUT: true; the input reads as it did. -/
def routeAroundSpec : ChangeSpec := { name := "routeAround", fn := fun _ => fun
  | [d1, d2, d3, d4, d5] => { results := [.lit (.bool true)], args := [d1, d2, d3, d4, d5] }
  | _ => none }
def routeAroundRow : OpenClaim := { program := "ytkedjnhidfnlkaadoor", sum := "3cfe8301baeb6089f4b402340458aba9d3faf8b5a31b72fafd8af5a7e22bb13b", func := "wagonway/wagonwaylaw04.RouteAround", spec := "routeAround", inPlace := ["internal/bytealg.IndexByteString", "sync/atomic.LoadUint32", "(*internal/sync.Mutex).Lock", "internal/race.Disable", "sync/atomic.CompareAndSwapInt32", "internal/race.Enable", "internal/race.Acquire", "(*internal/sync.Mutex).lockSlow", "internal/sync.runtime_canSpin", "internal/sync.runtime_doSpin", "internal/sync.throw", "internal/sync.runtime_nanotime", "internal/sync.runtime_SemacquireMutex", "sync/atomic.AddInt32", "(*internal/sync.Mutex).Unlock", "internal/race.ReleaseMerge", "(*internal/sync.Mutex).unlockSlow", "internal/sync.fatal", "internal/sync.runtime_Semrelease", "sync/atomic.StoreUint32"], unfollowed := true, recurses := true, named := ["wagonway/grid.ways"], apart := false, laid := [("wagonway/grid.ways", laid_wagonway_grid_ways)] }
def RouteAroundSaid : Prop := routeAroundRow.holds Tryd.pinned (OpenSpec.ofChange routeAroundSpec)

/-- ITS FALSE NEIGHBOUR: 'it returns false'. Refute it at one input. -/
def routeAroundWrong : ChangeSpec := { name := "routeAround", fn := fun _ => fun
  | [d1, d2, d3, d4, d5] => { results := [.lit (.bool false)], args := [d1, d2, d3, d4, d5] }
  | _ => none }
def RouteAroundWrongFalsely : Prop := routeAroundRow.holds Tryd.pinned (OpenSpec.ofChange routeAroundWrong)

/-- 'wagonwaylaw04.RouteNames': WHATEVER THE INPUT: true; the input reads as it did. -/
def routeNamesSpec : ChangeSpec := { name := "routeNames", fn := fun _ => fun
  | [] => { results := [.lit (.bool true)], args := [] }
  | _ => none }
def routeNamesRow : OpenClaim := { program := "ytkedjnhidfnlkaadoor", sum := "3cfe8301baeb6089f4b402340458aba9d3faf8b5a31b72fafd8af5a7e22bb13b", func := "wagonway/wagonwaylaw04.RouteNames", spec := "routeNames", inPlace := ["internal/bytealg.IndexByteString", "sync/atomic.LoadUint32", "(*internal/sync.Mutex).Lock", "internal/race.Disable", "sync/atomic.CompareAndSwapInt32", "internal/race.Enable", "internal/race.Acquire", "(*internal/sync.Mutex).lockSlow", "internal/sync.runtime_canSpin", "internal/sync.runtime_doSpin", "internal/sync.throw", "internal/sync.runtime_nanotime", "internal/sync.runtime_SemacquireMutex", "sync/atomic.AddInt32", "(*internal/sync.Mutex).Unlock", "internal/race.ReleaseMerge", "(*internal/sync.Mutex).unlockSlow", "internal/sync.fatal", "internal/sync.runtime_Semrelease", "sync/atomic.StoreUint32"], unfollowed := true, recurses := true, named := ["wagonway/grid.ways"], apart := false, laid := [("wagonway/grid.ways", laid_wagonway_grid_ways)] }
def RouteNamesSaid : Prop := routeNamesRow.holds Tryd.pinned (OpenSpec.ofChange routeNamesSpec)

/-- ITS FALSE NEIGHBOUR: 'it returns false'. Refute it at one input. -/
def routeNamesWrong : ChangeSpec := { name := "routeNames", fn := fun _ => fun
  | [] => { results := [.lit (.bool false)], args := [] }
  | _ => none }
def RouteNamesWrongFalsely : Prop := routeNamesRow.holds Tryd.pinned (OpenSpec.ofChange routeNamesWrong)

/-- 'wagonwaylaw04.RouteShort': WHATEVER THE INPUT: true; the input reads as it did. -/
def routeShortSpec : ChangeSpec := { name := "routeShort", fn := fun _ => fun
  | [d1, d2, d3, d4] => { results := [.lit (.bool true)], args := [d1, d2, d3, d4] }
  | _ => none }
def routeShortRow : OpenClaim := { program := "ytkedjnhidfnlkaadoor", sum := "3cfe8301baeb6089f4b402340458aba9d3faf8b5a31b72fafd8af5a7e22bb13b", func := "wagonway/wagonwaylaw04.RouteShort", spec := "routeShort", inPlace := ["internal/bytealg.IndexByteString", "sync/atomic.LoadUint32", "(*internal/sync.Mutex).Lock", "internal/race.Disable", "sync/atomic.CompareAndSwapInt32", "internal/race.Enable", "internal/race.Acquire", "(*internal/sync.Mutex).lockSlow", "internal/sync.runtime_canSpin", "internal/sync.runtime_doSpin", "internal/sync.throw", "internal/sync.runtime_nanotime", "internal/sync.runtime_SemacquireMutex", "sync/atomic.AddInt32", "(*internal/sync.Mutex).Unlock", "internal/race.ReleaseMerge", "(*internal/sync.Mutex).unlockSlow", "internal/sync.fatal", "internal/sync.runtime_Semrelease", "sync/atomic.StoreUint32"], unfollowed := true, recurses := true, named := ["wagonway/grid.ways"], apart := false, laid := [("wagonway/grid.ways", laid_wagonway_grid_ways)] }
def RouteShortSaid : Prop := routeShortRow.holds Tryd.pinned (OpenSpec.ofChange routeShortSpec)

/-- ITS FALSE NEIGHBOUR: 'it returns false'. Refute it at one input. -/
def routeShortWrong : ChangeSpec := { name := "routeShort", fn := fun _ => fun
  | [d1, d2, d3, d4] => { results := [.lit (.bool false)], args := [d1, d2, d3, d4] }
  | _ => none }
def RouteShortWrongFalsely : Prop := routeShortRow.holds Tryd.pinned (OpenSpec.ofChange routeShortWrong)

/-- 'wagonwaylaw04.RouteRest': WHATEVER THE INPUT: true; the input reads as it did. -/
def routeRestSpec : ChangeSpec := { name := "routeRest", fn := fun _ => fun
  | [d1, d2, d3, d4, d5] => { results := [.lit (.bool true)], args := [d1, d2, d3, d4, d5] }
  | _ => none }
def routeRestRow : OpenClaim := { program := "ytkedjnhidfnlkaadoor", sum := "3cfe8301baeb6089f4b402340458aba9d3faf8b5a31b72fafd8af5a7e22bb13b", func := "wagonway/wagonwaylaw04.RouteRest", spec := "routeRest", inPlace := ["internal/bytealg.IndexByteString", "sync/atomic.LoadUint32", "(*internal/sync.Mutex).Lock", "internal/race.Disable", "sync/atomic.CompareAndSwapInt32", "internal/race.Enable", "internal/race.Acquire", "(*internal/sync.Mutex).lockSlow", "internal/sync.runtime_canSpin", "internal/sync.runtime_doSpin", "internal/sync.throw", "internal/sync.runtime_nanotime", "internal/sync.runtime_SemacquireMutex", "sync/atomic.AddInt32", "(*internal/sync.Mutex).Unlock", "internal/race.ReleaseMerge", "(*internal/sync.Mutex).unlockSlow", "internal/sync.fatal", "internal/sync.runtime_Semrelease", "sync/atomic.StoreUint32"], unfollowed := true, recurses := true, named := ["wagonway/grid.ways"], apart := false, laid := [("wagonway/grid.ways", laid_wagonway_grid_ways)] }
def RouteRestSaid : Prop := routeRestRow.holds Tryd.pinned (OpenSpec.ofChange routeRestSpec)

/-- ITS FALSE NEIGHBOUR: 'it returns false'. Refute it at one input. -/
def routeRestWrong : ChangeSpec := { name := "routeRest", fn := fun _ => fun
  | [d1, d2, d3, d4, d5] => { results := [.lit (.bool false)], args := [d1, d2, d3, d4, d5] }
  | _ => none }
def RouteRestWrongFalsely : Prop := routeRestRow.holds Tryd.pinned (OpenSpec.ofChange routeRestWrong)

/-- 'wagonwaylaw04.RouteTriangle': WHATEVER THE INPUT: true; the input reads as it did. -/
def routeTriangleSpec : ChangeSpec := { name := "routeTriangle", fn := fun _ => fun
  | [d1, d2, d3, d4] => { results := [.lit (.bool true)], args := [d1, d2, d3, d4] }
  | _ => none }
def routeTriangleRow : OpenClaim := { program := "ytkedjnhidfnlkaadoor", sum := "3cfe8301baeb6089f4b402340458aba9d3faf8b5a31b72fafd8af5a7e22bb13b", func := "wagonway/wagonwaylaw04.RouteTriangle", spec := "routeTriangle", inPlace := ["internal/bytealg.IndexByteString", "sync/atomic.LoadUint32", "(*internal/sync.Mutex).Lock", "internal/race.Disable", "sync/atomic.CompareAndSwapInt32", "internal/race.Enable", "internal/race.Acquire", "(*internal/sync.Mutex).lockSlow", "internal/sync.runtime_canSpin", "internal/sync.runtime_doSpin", "internal/sync.throw", "internal/sync.runtime_nanotime", "internal/sync.runtime_SemacquireMutex", "sync/atomic.AddInt32", "(*internal/sync.Mutex).Unlock", "internal/race.ReleaseMerge", "(*internal/sync.Mutex).unlockSlow", "internal/sync.fatal", "internal/sync.runtime_Semrelease", "sync/atomic.StoreUint32"], unfollowed := true, recurses := true, named := ["wagonway/grid.ways"], apart := false, laid := [("wagonway/grid.ways", laid_wagonway_grid_ways)] }
def RouteTriangleSaid : Prop := routeTriangleRow.holds Tryd.pinned (OpenSpec.ofChange routeTriangleSpec)

/-- ITS FALSE NEIGHBOUR: 'it returns false'. Refute it at one input. -/
def routeTriangleWrong : ChangeSpec := { name := "routeTriangle", fn := fun _ => fun
  | [d1, d2, d3, d4] => { results := [.lit (.bool false)], args := [d1, d2, d3, d4] }
  | _ => none }
def RouteTriangleWrongFalsely : Prop := routeTriangleRow.holds Tryd.pinned (OpenSpec.ofChange routeTriangleWrong)

/-- 'wagonwaylaw04.RouteBans': WHATEVER THE INPUT: true; the input reads as it did. -/
def routeBansSpec : ChangeSpec := { name := "routeBans", fn := fun _ => fun
  | [d1, d2, d3, d4, d5] => { results := [.lit (.bool true)], args := [d1, d2, d3, d4, d5] }
  | _ => none }
def routeBansRow : OpenClaim := { program := "ytkedjnhidfnlkaadoor", sum := "3cfe8301baeb6089f4b402340458aba9d3faf8b5a31b72fafd8af5a7e22bb13b", func := "wagonway/wagonwaylaw04.RouteBans", spec := "routeBans", inPlace := ["internal/bytealg.IndexByteString", "sync/atomic.LoadUint32", "(*internal/sync.Mutex).Lock", "internal/race.Disable", "sync/atomic.CompareAndSwapInt32", "internal/race.Enable", "internal/race.Acquire", "(*internal/sync.Mutex).lockSlow", "internal/sync.runtime_canSpin", "internal/sync.runtime_doSpin", "internal/sync.throw", "internal/sync.runtime_nanotime", "internal/sync.runtime_SemacquireMutex", "sync/atomic.AddInt32", "(*internal/sync.Mutex).Unlock", "internal/race.ReleaseMerge", "(*internal/sync.Mutex).unlockSlow", "internal/sync.fatal", "internal/sync.runtime_Semrelease", "sync/atomic.StoreUint32"], unfollowed := true, recurses := true, named := ["wagonway/grid.ways"], apart := false, laid := [("wagonway/grid.ways", laid_wagonway_grid_ways)] }
def RouteBansSaid : Prop := routeBansRow.holds Tryd.pinned (OpenSpec.ofChange routeBansSpec)

/-- ITS FALSE NEIGHBOUR: 'it returns false'. Refute it at one input. -/
def routeBansWrong : ChangeSpec := { name := "routeBans", fn := fun _ => fun
  | [d1, d2, d3, d4, d5] => { results := [.lit (.bool false)], args := [d1, d2, d3, d4, d5] }
  | _ => none }
def RouteBansWrongFalsely : Prop := routeBansRow.holds Tryd.pinned (OpenSpec.ofChange routeBansWrong)

/-- 'wagonwaylaw05.SegmentInside': WHATEVER THE INPUT: true; the input reads as it did. -/
def segmentInsideSpec : ChangeSpec := { name := "segmentInside", fn := fun _ => fun
  | [d1, d2, d3] => { results := [.lit (.bool true)], args := [d1, d2, d3] }
  | _ => none }
def segmentInsideRow : OpenClaim := { program := "ytkedjnhidfnlkaadoor", sum := "3cfe8301baeb6089f4b402340458aba9d3faf8b5a31b72fafd8af5a7e22bb13b", func := "wagonway/wagonwaylaw05.SegmentInside", spec := "segmentInside", inPlace := ["internal/bytealg.IndexByteString", "sync/atomic.LoadUint32", "(*internal/sync.Mutex).Lock", "internal/race.Disable", "sync/atomic.CompareAndSwapInt32", "internal/race.Enable", "internal/race.Acquire", "(*internal/sync.Mutex).lockSlow", "internal/sync.runtime_canSpin", "internal/sync.runtime_doSpin", "internal/sync.throw", "internal/sync.runtime_nanotime", "internal/sync.runtime_SemacquireMutex", "sync/atomic.AddInt32", "(*internal/sync.Mutex).Unlock", "internal/race.ReleaseMerge", "(*internal/sync.Mutex).unlockSlow", "internal/sync.fatal", "internal/sync.runtime_Semrelease", "sync/atomic.StoreUint32"], unfollowed := true, recurses := true, named := ["wagonway/grid.ways"], apart := false, laid := [("wagonway/grid.ways", laid_wagonway_grid_ways)] }
def SegmentInsideSaid : Prop := segmentInsideRow.holds Tryd.pinned (OpenSpec.ofChange segmentInsideSpec)

/-- ITS FALSE NEIGHBOUR: 'it returns false'. Refute it at one input. -/
def segmentInsideWrong : ChangeSpec := { name := "segmentInside", fn := fun _ => fun
  | [d1, d2, d3] => { results := [.lit (.bool false)], args := [d1, d2, d3] }
  | _ => none }
def SegmentInsideWrongFalsely : Prop := segmentInsideRow.holds Tryd.pinned (OpenSpec.ofChange segmentInsideWrong)

/-- 'wagonwaylaw05.SegmentKinds': WHATEVER THE INPUT: true; the input reads as it did. -/
def segmentKindsSpec : ChangeSpec := { name := "segmentKinds", fn := fun _ => fun
  | [d] => { results := [.lit (.bool true)], args := [d] }
  | _ => none }
def segmentKindsRow : OpenClaim := { program := "ytkedjnhidfnlkaadoor", sum := "3cfe8301baeb6089f4b402340458aba9d3faf8b5a31b72fafd8af5a7e22bb13b", func := "wagonway/wagonwaylaw05.SegmentKinds", spec := "segmentKinds", inPlace := ["internal/bytealg.IndexByteString", "sync/atomic.LoadUint32", "(*internal/sync.Mutex).Lock", "internal/race.Disable", "sync/atomic.CompareAndSwapInt32", "internal/race.Enable", "internal/race.Acquire", "(*internal/sync.Mutex).lockSlow", "internal/sync.runtime_canSpin", "internal/sync.runtime_doSpin", "internal/sync.throw", "internal/sync.runtime_nanotime", "internal/sync.runtime_SemacquireMutex", "sync/atomic.AddInt32", "(*internal/sync.Mutex).Unlock", "internal/race.ReleaseMerge", "(*internal/sync.Mutex).unlockSlow", "internal/sync.fatal", "internal/sync.runtime_Semrelease", "sync/atomic.StoreUint32"], unfollowed := true, recurses := true, named := ["wagonway/grid.ways"], apart := false, laid := [("wagonway/grid.ways", laid_wagonway_grid_ways)] }
def SegmentKindsSaid : Prop := segmentKindsRow.holds Tryd.pinned (OpenSpec.ofChange segmentKindsSpec)

/-- ITS FALSE NEIGHBOUR: 'it returns false'. Refute it at one input. -/
def segmentKindsWrong : ChangeSpec := { name := "segmentKinds", fn := fun _ => fun
  | [d] => { results := [.lit (.bool false)], args := [d] }
  | _ => none }
def SegmentKindsWrongFalsely : Prop := segmentKindsRow.holds Tryd.pinned (OpenSpec.ofChange segmentKindsWrong)

/- THE SECOND FORM. 'bulk': how many values and letters a reading holds, each counted each time it is reached (what is shared counts as often as it is met; a slice's spare places count too). A statement '..UptoSaid' is the law's where the arguments, and the package variables that the reading takes, are together of bulk at most 1048576: NARROWER than '..Said'. Prove '..Said' where nothing that the law and all that it calls make is longer than what came in: it says more and counts as full. Else prove '..UptoSaid'. A law counts once. -/
mutual
def uptoBulk {H : Type} : DataW H → Nat
  | .lit (.string bytes) => bytes.length + 1
  | .lit _ => 1
  | .nil => 1
  | .ptr d => uptoBulk d + 1
  | .slice elems spare => uptoBulkAll elems + uptoBulkAll spare + 1
  | .agg parts => uptoBulkAll parts + 1
  | .iface _ d => uptoBulk d + 1
  | .map entries => uptoBulkEntries entries + 1
  | .held _ => 1
def uptoBulkAll {H : Type} : List (DataW H) → Nat
  | [] => 0
  | d :: r => uptoBulk d + uptoBulkAll r
def uptoBulkEntries {H : Type} : List (Lit × DataW H) → Nat
  | [] => 0
  | x :: r => uptoBulkEntry x + uptoBulkEntries r
def uptoBulkEntry {H : Type} : Lit × DataW H → Nat
  | (.string bytes, d) => bytes.length + uptoBulk d + 1
  | (_, d) => uptoBulk d + 1
 end
def uptoSmall : (H : Type) → List (DataW H) → Bool := fun _ ds => decide (uptoBulkAll ds ≤ 1048576)
def OpenSpec.upto (s : _root_.Go.ChangeSpec) : _root_.Go.OpenSpec := { _root_.Go.OpenSpec.ofChange s with cond := some uptoSmall }

/-- 'wagonwaylaw04.RouteFinds', WHERE WHAT IT READS IS OF BULK AT MOST 1048576: true; the input reads as it did. -/
def routeFindsUptoRow : OpenClaim := { program := "ytkedjnhidfnlkaadoor", sum := "3cfe8301baeb6089f4b402340458aba9d3faf8b5a31b72fafd8af5a7e22bb13b", func := "wagonway/wagonwaylaw04.RouteFinds", spec := "routeFinds", inPlace := ["internal/bytealg.IndexByteString", "sync/atomic.LoadUint32", "(*internal/sync.Mutex).Lock", "internal/race.Disable", "sync/atomic.CompareAndSwapInt32", "internal/race.Enable", "internal/race.Acquire", "(*internal/sync.Mutex).lockSlow", "internal/sync.runtime_canSpin", "internal/sync.runtime_doSpin", "internal/sync.throw", "internal/sync.runtime_nanotime", "internal/sync.runtime_SemacquireMutex", "sync/atomic.AddInt32", "(*internal/sync.Mutex).Unlock", "internal/race.ReleaseMerge", "(*internal/sync.Mutex).unlockSlow", "internal/sync.fatal", "internal/sync.runtime_Semrelease", "sync/atomic.StoreUint32"], unfollowed := true, recurses := true, named := ["wagonway/grid.ways"], apart := false, laid := [("wagonway/grid.ways", laid_wagonway_grid_ways)], narrowed := true }
def RouteFindsUptoSaid : Prop := routeFindsUptoRow.holds Tryd.pinned (OpenSpec.upto routeFindsSpec)

/-- 'wagonwaylaw04.RouteAround', WHERE WHAT IT READS IS OF BULK AT MOST 1048576: true; the input reads as it did. -/
def routeAroundUptoRow : OpenClaim := { program := "ytkedjnhidfnlkaadoor", sum := "3cfe8301baeb6089f4b402340458aba9d3faf8b5a31b72fafd8af5a7e22bb13b", func := "wagonway/wagonwaylaw04.RouteAround", spec := "routeAround", inPlace := ["internal/bytealg.IndexByteString", "sync/atomic.LoadUint32", "(*internal/sync.Mutex).Lock", "internal/race.Disable", "sync/atomic.CompareAndSwapInt32", "internal/race.Enable", "internal/race.Acquire", "(*internal/sync.Mutex).lockSlow", "internal/sync.runtime_canSpin", "internal/sync.runtime_doSpin", "internal/sync.throw", "internal/sync.runtime_nanotime", "internal/sync.runtime_SemacquireMutex", "sync/atomic.AddInt32", "(*internal/sync.Mutex).Unlock", "internal/race.ReleaseMerge", "(*internal/sync.Mutex).unlockSlow", "internal/sync.fatal", "internal/sync.runtime_Semrelease", "sync/atomic.StoreUint32"], unfollowed := true, recurses := true, named := ["wagonway/grid.ways"], apart := false, laid := [("wagonway/grid.ways", laid_wagonway_grid_ways)], narrowed := true }
def RouteAroundUptoSaid : Prop := routeAroundUptoRow.holds Tryd.pinned (OpenSpec.upto routeAroundSpec)

/-- 'wagonwaylaw04.RouteNames', WHERE WHAT IT READS IS OF BULK AT MOST 1048576: true; the input reads as it did. -/
def routeNamesUptoRow : OpenClaim := { program := "ytkedjnhidfnlkaadoor", sum := "3cfe8301baeb6089f4b402340458aba9d3faf8b5a31b72fafd8af5a7e22bb13b", func := "wagonway/wagonwaylaw04.RouteNames", spec := "routeNames", inPlace := ["internal/bytealg.IndexByteString", "sync/atomic.LoadUint32", "(*internal/sync.Mutex).Lock", "internal/race.Disable", "sync/atomic.CompareAndSwapInt32", "internal/race.Enable", "internal/race.Acquire", "(*internal/sync.Mutex).lockSlow", "internal/sync.runtime_canSpin", "internal/sync.runtime_doSpin", "internal/sync.throw", "internal/sync.runtime_nanotime", "internal/sync.runtime_SemacquireMutex", "sync/atomic.AddInt32", "(*internal/sync.Mutex).Unlock", "internal/race.ReleaseMerge", "(*internal/sync.Mutex).unlockSlow", "internal/sync.fatal", "internal/sync.runtime_Semrelease", "sync/atomic.StoreUint32"], unfollowed := true, recurses := true, named := ["wagonway/grid.ways"], apart := false, laid := [("wagonway/grid.ways", laid_wagonway_grid_ways)], narrowed := true }
def RouteNamesUptoSaid : Prop := routeNamesUptoRow.holds Tryd.pinned (OpenSpec.upto routeNamesSpec)

/-- 'wagonwaylaw04.RouteShort', WHERE WHAT IT READS IS OF BULK AT MOST 1048576: true; the input reads as it did. -/
def routeShortUptoRow : OpenClaim := { program := "ytkedjnhidfnlkaadoor", sum := "3cfe8301baeb6089f4b402340458aba9d3faf8b5a31b72fafd8af5a7e22bb13b", func := "wagonway/wagonwaylaw04.RouteShort", spec := "routeShort", inPlace := ["internal/bytealg.IndexByteString", "sync/atomic.LoadUint32", "(*internal/sync.Mutex).Lock", "internal/race.Disable", "sync/atomic.CompareAndSwapInt32", "internal/race.Enable", "internal/race.Acquire", "(*internal/sync.Mutex).lockSlow", "internal/sync.runtime_canSpin", "internal/sync.runtime_doSpin", "internal/sync.throw", "internal/sync.runtime_nanotime", "internal/sync.runtime_SemacquireMutex", "sync/atomic.AddInt32", "(*internal/sync.Mutex).Unlock", "internal/race.ReleaseMerge", "(*internal/sync.Mutex).unlockSlow", "internal/sync.fatal", "internal/sync.runtime_Semrelease", "sync/atomic.StoreUint32"], unfollowed := true, recurses := true, named := ["wagonway/grid.ways"], apart := false, laid := [("wagonway/grid.ways", laid_wagonway_grid_ways)], narrowed := true }
def RouteShortUptoSaid : Prop := routeShortUptoRow.holds Tryd.pinned (OpenSpec.upto routeShortSpec)

/-- 'wagonwaylaw04.RouteRest', WHERE WHAT IT READS IS OF BULK AT MOST 1048576: true; the input reads as it did. -/
def routeRestUptoRow : OpenClaim := { program := "ytkedjnhidfnlkaadoor", sum := "3cfe8301baeb6089f4b402340458aba9d3faf8b5a31b72fafd8af5a7e22bb13b", func := "wagonway/wagonwaylaw04.RouteRest", spec := "routeRest", inPlace := ["internal/bytealg.IndexByteString", "sync/atomic.LoadUint32", "(*internal/sync.Mutex).Lock", "internal/race.Disable", "sync/atomic.CompareAndSwapInt32", "internal/race.Enable", "internal/race.Acquire", "(*internal/sync.Mutex).lockSlow", "internal/sync.runtime_canSpin", "internal/sync.runtime_doSpin", "internal/sync.throw", "internal/sync.runtime_nanotime", "internal/sync.runtime_SemacquireMutex", "sync/atomic.AddInt32", "(*internal/sync.Mutex).Unlock", "internal/race.ReleaseMerge", "(*internal/sync.Mutex).unlockSlow", "internal/sync.fatal", "internal/sync.runtime_Semrelease", "sync/atomic.StoreUint32"], unfollowed := true, recurses := true, named := ["wagonway/grid.ways"], apart := false, laid := [("wagonway/grid.ways", laid_wagonway_grid_ways)], narrowed := true }
def RouteRestUptoSaid : Prop := routeRestUptoRow.holds Tryd.pinned (OpenSpec.upto routeRestSpec)

/-- 'wagonwaylaw04.RouteTriangle', WHERE WHAT IT READS IS OF BULK AT MOST 1048576: true; the input reads as it did. -/
def routeTriangleUptoRow : OpenClaim := { program := "ytkedjnhidfnlkaadoor", sum := "3cfe8301baeb6089f4b402340458aba9d3faf8b5a31b72fafd8af5a7e22bb13b", func := "wagonway/wagonwaylaw04.RouteTriangle", spec := "routeTriangle", inPlace := ["internal/bytealg.IndexByteString", "sync/atomic.LoadUint32", "(*internal/sync.Mutex).Lock", "internal/race.Disable", "sync/atomic.CompareAndSwapInt32", "internal/race.Enable", "internal/race.Acquire", "(*internal/sync.Mutex).lockSlow", "internal/sync.runtime_canSpin", "internal/sync.runtime_doSpin", "internal/sync.throw", "internal/sync.runtime_nanotime", "internal/sync.runtime_SemacquireMutex", "sync/atomic.AddInt32", "(*internal/sync.Mutex).Unlock", "internal/race.ReleaseMerge", "(*internal/sync.Mutex).unlockSlow", "internal/sync.fatal", "internal/sync.runtime_Semrelease", "sync/atomic.StoreUint32"], unfollowed := true, recurses := true, named := ["wagonway/grid.ways"], apart := false, laid := [("wagonway/grid.ways", laid_wagonway_grid_ways)], narrowed := true }
def RouteTriangleUptoSaid : Prop := routeTriangleUptoRow.holds Tryd.pinned (OpenSpec.upto routeTriangleSpec)

/-- 'wagonwaylaw04.RouteBans', WHERE WHAT IT READS IS OF BULK AT MOST 1048576: true; the input reads as it did. -/
def routeBansUptoRow : OpenClaim := { program := "ytkedjnhidfnlkaadoor", sum := "3cfe8301baeb6089f4b402340458aba9d3faf8b5a31b72fafd8af5a7e22bb13b", func := "wagonway/wagonwaylaw04.RouteBans", spec := "routeBans", inPlace := ["internal/bytealg.IndexByteString", "sync/atomic.LoadUint32", "(*internal/sync.Mutex).Lock", "internal/race.Disable", "sync/atomic.CompareAndSwapInt32", "internal/race.Enable", "internal/race.Acquire", "(*internal/sync.Mutex).lockSlow", "internal/sync.runtime_canSpin", "internal/sync.runtime_doSpin", "internal/sync.throw", "internal/sync.runtime_nanotime", "internal/sync.runtime_SemacquireMutex", "sync/atomic.AddInt32", "(*internal/sync.Mutex).Unlock", "internal/race.ReleaseMerge", "(*internal/sync.Mutex).unlockSlow", "internal/sync.fatal", "internal/sync.runtime_Semrelease", "sync/atomic.StoreUint32"], unfollowed := true, recurses := true, named := ["wagonway/grid.ways"], apart := false, laid := [("wagonway/grid.ways", laid_wagonway_grid_ways)], narrowed := true }
def RouteBansUptoSaid : Prop := routeBansUptoRow.holds Tryd.pinned (OpenSpec.upto routeBansSpec)

/-- 'wagonwaylaw05.SegmentInside', WHERE WHAT IT READS IS OF BULK AT MOST 1048576: true; the input reads as it did. -/
def segmentInsideUptoRow : OpenClaim := { program := "ytkedjnhidfnlkaadoor", sum := "3cfe8301baeb6089f4b402340458aba9d3faf8b5a31b72fafd8af5a7e22bb13b", func := "wagonway/wagonwaylaw05.SegmentInside", spec := "segmentInside", inPlace := ["internal/bytealg.IndexByteString", "sync/atomic.LoadUint32", "(*internal/sync.Mutex).Lock", "internal/race.Disable", "sync/atomic.CompareAndSwapInt32", "internal/race.Enable", "internal/race.Acquire", "(*internal/sync.Mutex).lockSlow", "internal/sync.runtime_canSpin", "internal/sync.runtime_doSpin", "internal/sync.throw", "internal/sync.runtime_nanotime", "internal/sync.runtime_SemacquireMutex", "sync/atomic.AddInt32", "(*internal/sync.Mutex).Unlock", "internal/race.ReleaseMerge", "(*internal/sync.Mutex).unlockSlow", "internal/sync.fatal", "internal/sync.runtime_Semrelease", "sync/atomic.StoreUint32"], unfollowed := true, recurses := true, named := ["wagonway/grid.ways"], apart := false, laid := [("wagonway/grid.ways", laid_wagonway_grid_ways)], narrowed := true }
def SegmentInsideUptoSaid : Prop := segmentInsideUptoRow.holds Tryd.pinned (OpenSpec.upto segmentInsideSpec)

/-- 'wagonwaylaw05.SegmentKinds', WHERE WHAT IT READS IS OF BULK AT MOST 1048576: true; the input reads as it did. -/
def segmentKindsUptoRow : OpenClaim := { program := "ytkedjnhidfnlkaadoor", sum := "3cfe8301baeb6089f4b402340458aba9d3faf8b5a31b72fafd8af5a7e22bb13b", func := "wagonway/wagonwaylaw05.SegmentKinds", spec := "segmentKinds", inPlace := ["internal/bytealg.IndexByteString", "sync/atomic.LoadUint32", "(*internal/sync.Mutex).Lock", "internal/race.Disable", "sync/atomic.CompareAndSwapInt32", "internal/race.Enable", "internal/race.Acquire", "(*internal/sync.Mutex).lockSlow", "internal/sync.runtime_canSpin", "internal/sync.runtime_doSpin", "internal/sync.throw", "internal/sync.runtime_nanotime", "internal/sync.runtime_SemacquireMutex", "sync/atomic.AddInt32", "(*internal/sync.Mutex).Unlock", "internal/race.ReleaseMerge", "(*internal/sync.Mutex).unlockSlow", "internal/sync.fatal", "internal/sync.runtime_Semrelease", "sync/atomic.StoreUint32"], unfollowed := true, recurses := true, named := ["wagonway/grid.ways"], apart := false, laid := [("wagonway/grid.ways", laid_wagonway_grid_ways)], narrowed := true }
def SegmentKindsUptoSaid : Prop := segmentKindsUptoRow.holds Tryd.pinned (OpenSpec.upto segmentKindsSpec)

end Rows
end Go.Proofs.YtkedjnhidfnlkaaDoor
