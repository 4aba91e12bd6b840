/-
  DERIVED. GIVEN WITH THE SEED: THE CARDS: each row of YtkedjnhidfnlkaaDoorRows.lean that lists a variable, with what it lists TIED to the program's text (the seventh form; the later family's looks); each row that meets fmt, with fmt's text TOLD by the authors' own Lean function (tested against real Go, not proved from fmt's source: count such statements apart). THE CARD IS WHAT COUNTS. Prove the row's statement (the work); the ties are given (YtkedjnhidfnlkaaDoorTie.lean); close each card by the builder's one call (the guide's Derived/Test/ToyasCard.lean, 'card_holds'). Laid BY PROGRAM, IN A SANDBOX (cutbox-door.mjs). By AI agents, Wed Nov 11 2026. No macro, syntax, notation, axiom, sorry.
-/
import Derived.Test.YtkedjnhidfnlkaaDoorRows
import GoSem.ClaimSeven
namespace Go.Proofs.YtkedjnhidfnlkaaDoor
namespace Rows

/-- THE TIED CARD OF 'wagonwaylaw04.RouteFinds'. -/
def routeFindsCard : Claim7 := { stood := { row := routeFindsRow, standIns := [], harness := (true, "f12ab6ddbe7f280c257f612851c701e75decc685c9fe2724ede72457bd1ba224"), looks := false }, kinds := [], alts := [], laidByText := true, laidKinds := [.data], laidTests := true, laidLooks := .later }
def RouteFindsCardSaid : Prop := Claim7.holds Tryd.pinned (.plain (OpenSpec.ofChange routeFindsSpec)) routeFindsCard

/-- THE TIED CARD OF 'wagonwaylaw04.RouteAround'. -/
def routeAroundCard : Claim7 := { stood := { row := routeAroundRow, standIns := [], harness := (true, "f12ab6ddbe7f280c257f612851c701e75decc685c9fe2724ede72457bd1ba224"), looks := false }, kinds := [], alts := [], laidByText := true, laidKinds := [.data], laidTests := true, laidLooks := .later }
def RouteAroundCardSaid : Prop := Claim7.holds Tryd.pinned (.plain (OpenSpec.ofChange routeAroundSpec)) routeAroundCard

/-- THE TIED CARD OF 'wagonwaylaw04.RouteNames'. -/
def routeNamesCard : Claim7 := { stood := { row := routeNamesRow, standIns := [], harness := (true, "f12ab6ddbe7f280c257f612851c701e75decc685c9fe2724ede72457bd1ba224"), looks := false }, kinds := [], alts := [], laidByText := true, laidKinds := [.data], laidTests := true, laidLooks := .later }
def RouteNamesCardSaid : Prop := Claim7.holds Tryd.pinned (.plain (OpenSpec.ofChange routeNamesSpec)) routeNamesCard

/-- THE TIED CARD OF 'wagonwaylaw04.RouteShort'. -/
def routeShortCard : Claim7 := { stood := { row := routeShortRow, standIns := [], harness := (true, "f12ab6ddbe7f280c257f612851c701e75decc685c9fe2724ede72457bd1ba224"), looks := false }, kinds := [], alts := [], laidByText := true, laidKinds := [.data], laidTests := true, laidLooks := .later }
def RouteShortCardSaid : Prop := Claim7.holds Tryd.pinned (.plain (OpenSpec.ofChange routeShortSpec)) routeShortCard

/-- THE TIED CARD OF 'wagonwaylaw04.RouteRest'. -/
def routeRestCard : Claim7 := { stood := { row := routeRestRow, standIns := [], harness := (true, "f12ab6ddbe7f280c257f612851c701e75decc685c9fe2724ede72457bd1ba224"), looks := false }, kinds := [], alts := [], laidByText := true, laidKinds := [.data], laidTests := true, laidLooks := .later }
def RouteRestCardSaid : Prop := Claim7.holds Tryd.pinned (.plain (OpenSpec.ofChange routeRestSpec)) routeRestCard

/-- THE TIED CARD OF 'wagonwaylaw04.RouteTriangle'. -/
def routeTriangleCard : Claim7 := { stood := { row := routeTriangleRow, standIns := [], harness := (true, "f12ab6ddbe7f280c257f612851c701e75decc685c9fe2724ede72457bd1ba224"), looks := false }, kinds := [], alts := [], laidByText := true, laidKinds := [.data], laidTests := true, laidLooks := .later }
def RouteTriangleCardSaid : Prop := Claim7.holds Tryd.pinned (.plain (OpenSpec.ofChange routeTriangleSpec)) routeTriangleCard

/-- THE TIED CARD OF 'wagonwaylaw04.RouteBans'. -/
def routeBansCard : Claim7 := { stood := { row := routeBansRow, standIns := [], harness := (true, "f12ab6ddbe7f280c257f612851c701e75decc685c9fe2724ede72457bd1ba224"), looks := false }, kinds := [], alts := [], laidByText := true, laidKinds := [.data], laidTests := true, laidLooks := .later }
def RouteBansCardSaid : Prop := Claim7.holds Tryd.pinned (.plain (OpenSpec.ofChange routeBansSpec)) routeBansCard

/-- THE TIED CARD OF 'wagonwaylaw05.SegmentInside'. -/
def segmentInsideCard : Claim7 := { stood := { row := segmentInsideRow, standIns := [], harness := (true, "f12ab6ddbe7f280c257f612851c701e75decc685c9fe2724ede72457bd1ba224"), looks := false }, kinds := [], alts := [], laidByText := true, laidKinds := [.data], laidTests := true, laidLooks := .later }
def SegmentInsideCardSaid : Prop := Claim7.holds Tryd.pinned (.plain (OpenSpec.ofChange segmentInsideSpec)) segmentInsideCard

/-- THE TIED CARD OF 'wagonwaylaw05.SegmentKinds'. -/
def segmentKindsCard : Claim7 := { stood := { row := segmentKindsRow, standIns := [], harness := (true, "f12ab6ddbe7f280c257f612851c701e75decc685c9fe2724ede72457bd1ba224"), looks := false }, kinds := [], alts := [], laidByText := true, laidKinds := [.data], laidTests := true, laidLooks := .later }
def SegmentKindsCardSaid : Prop := Claim7.holds Tryd.pinned (.plain (OpenSpec.ofChange segmentKindsSpec)) segmentKindsCard

/-- THE SECOND FORM's CARD OF 'wagonwaylaw04.RouteFinds'. -/
def routeFindsUptoCard : Claim7 := { stood := { row := routeFindsUptoRow, standIns := [], harness := (true, "f12ab6ddbe7f280c257f612851c701e75decc685c9fe2724ede72457bd1ba224"), looks := false }, kinds := [], alts := [], laidByText := true, laidKinds := [.data], laidTests := true, laidLooks := .later }
def RouteFindsUptoCardSaid : Prop := Claim7.holds Tryd.pinned (.plain (OpenSpec.upto routeFindsSpec)) routeFindsUptoCard

/-- THE SECOND FORM's CARD OF 'wagonwaylaw04.RouteAround'. -/
def routeAroundUptoCard : Claim7 := { stood := { row := routeAroundUptoRow, standIns := [], harness := (true, "f12ab6ddbe7f280c257f612851c701e75decc685c9fe2724ede72457bd1ba224"), looks := false }, kinds := [], alts := [], laidByText := true, laidKinds := [.data], laidTests := true, laidLooks := .later }
def RouteAroundUptoCardSaid : Prop := Claim7.holds Tryd.pinned (.plain (OpenSpec.upto routeAroundSpec)) routeAroundUptoCard

/-- THE SECOND FORM's CARD OF 'wagonwaylaw04.RouteNames'. -/
def routeNamesUptoCard : Claim7 := { stood := { row := routeNamesUptoRow, standIns := [], harness := (true, "f12ab6ddbe7f280c257f612851c701e75decc685c9fe2724ede72457bd1ba224"), looks := false }, kinds := [], alts := [], laidByText := true, laidKinds := [.data], laidTests := true, laidLooks := .later }
def RouteNamesUptoCardSaid : Prop := Claim7.holds Tryd.pinned (.plain (OpenSpec.upto routeNamesSpec)) routeNamesUptoCard

/-- THE SECOND FORM's CARD OF 'wagonwaylaw04.RouteShort'. -/
def routeShortUptoCard : Claim7 := { stood := { row := routeShortUptoRow, standIns := [], harness := (true, "f12ab6ddbe7f280c257f612851c701e75decc685c9fe2724ede72457bd1ba224"), looks := false }, kinds := [], alts := [], laidByText := true, laidKinds := [.data], laidTests := true, laidLooks := .later }
def RouteShortUptoCardSaid : Prop := Claim7.holds Tryd.pinned (.plain (OpenSpec.upto routeShortSpec)) routeShortUptoCard

/-- THE SECOND FORM's CARD OF 'wagonwaylaw04.RouteRest'. -/
def routeRestUptoCard : Claim7 := { stood := { row := routeRestUptoRow, standIns := [], harness := (true, "f12ab6ddbe7f280c257f612851c701e75decc685c9fe2724ede72457bd1ba224"), looks := false }, kinds := [], alts := [], laidByText := true, laidKinds := [.data], laidTests := true, laidLooks := .later }
def RouteRestUptoCardSaid : Prop := Claim7.holds Tryd.pinned (.plain (OpenSpec.upto routeRestSpec)) routeRestUptoCard

/-- THE SECOND FORM's CARD OF 'wagonwaylaw04.RouteTriangle'. -/
def routeTriangleUptoCard : Claim7 := { stood := { row := routeTriangleUptoRow, standIns := [], harness := (true, "f12ab6ddbe7f280c257f612851c701e75decc685c9fe2724ede72457bd1ba224"), looks := false }, kinds := [], alts := [], laidByText := true, laidKinds := [.data], laidTests := true, laidLooks := .later }
def RouteTriangleUptoCardSaid : Prop := Claim7.holds Tryd.pinned (.plain (OpenSpec.upto routeTriangleSpec)) routeTriangleUptoCard

/-- THE SECOND FORM's CARD OF 'wagonwaylaw04.RouteBans'. -/
def routeBansUptoCard : Claim7 := { stood := { row := routeBansUptoRow, standIns := [], harness := (true, "f12ab6ddbe7f280c257f612851c701e75decc685c9fe2724ede72457bd1ba224"), looks := false }, kinds := [], alts := [], laidByText := true, laidKinds := [.data], laidTests := true, laidLooks := .later }
def RouteBansUptoCardSaid : Prop := Claim7.holds Tryd.pinned (.plain (OpenSpec.upto routeBansSpec)) routeBansUptoCard

/-- THE SECOND FORM's CARD OF 'wagonwaylaw05.SegmentInside'. -/
def segmentInsideUptoCard : Claim7 := { stood := { row := segmentInsideUptoRow, standIns := [], harness := (true, "f12ab6ddbe7f280c257f612851c701e75decc685c9fe2724ede72457bd1ba224"), looks := false }, kinds := [], alts := [], laidByText := true, laidKinds := [.data], laidTests := true, laidLooks := .later }
def SegmentInsideUptoCardSaid : Prop := Claim7.holds Tryd.pinned (.plain (OpenSpec.upto segmentInsideSpec)) segmentInsideUptoCard

/-- THE SECOND FORM's CARD OF 'wagonwaylaw05.SegmentKinds'. -/
def segmentKindsUptoCard : Claim7 := { stood := { row := segmentKindsUptoRow, standIns := [], harness := (true, "f12ab6ddbe7f280c257f612851c701e75decc685c9fe2724ede72457bd1ba224"), looks := false }, kinds := [], alts := [], laidByText := true, laidKinds := [.data], laidTests := true, laidLooks := .later }
def SegmentKindsUptoCardSaid : Prop := Claim7.holds Tryd.pinned (.plain (OpenSpec.upto segmentKindsSpec)) segmentKindsUptoCard
end Rows
end Go.Proofs.YtkedjnhidfnlkaaDoor
