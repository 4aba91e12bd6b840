/-
  DERIVED. GIVEN WITH THE SEED: THE CARDS: each row of YtekhlaodlagbdaaGreatDoorRows.lean that lists a variable, with what it lists TIED to the program's text (the seventh form; the later family's looks); each row that meets fmt, with fmt's text TOLD by the authors' own Lean function (tested against real Go, not proved from fmt's source: count such statements apart). THE CARD IS WHAT COUNTS. Prove the row's statement (the work); the ties are given (YtekhlaodlagbdaaGreatDoorTie.lean); close each card by the builder's one call (the guide's Derived/Test/ToyasCard.lean, 'card_holds'). Laid BY PROGRAM, IN A SANDBOX (cutbox-door.mjs). By AI agents, Wed Nov 11 2026. No macro, syntax, notation, axiom, sorry.
-/
import Derived.Test.YtekhlaodlagbdaaGreatDoorRows
import GoSem.ClaimSeven
namespace Go.Proofs.YtekhlaodlagbdaaGreatDoor
namespace Rows

/-- THE TIED CARD OF 'wagonwaylaw05.SegmentTells'. -/
def segmentTellsCard : Claim7 := { stood := { row := segmentTellsRow, standIns := [], harness := (true, "bb96d247dd1be73b7c665b9fc94d622212445164f4cfdcb2c4fbad085bc631c4"), looks := false }, kinds := [], alts := [], laidByText := true, laidKinds := [.data], laidTests := true, laidLooks := .later }
def SegmentTellsCardSaid : Prop := Claim7.holds Tryz.pinned (.plain (OpenSpec.ofChange segmentTellsSpec)) segmentTellsCard

/-- THE TIED CARD OF 'wagonwaylaw05.SegmentNames'. -/
def segmentNamesCard : Claim7 := { stood := { row := segmentNamesRow, standIns := [], harness := (true, "bb96d247dd1be73b7c665b9fc94d622212445164f4cfdcb2c4fbad085bc631c4"), looks := false }, kinds := [], alts := [], laidByText := true, laidKinds := [.data], laidTests := true, laidLooks := .later }
def SegmentNamesCardSaid : Prop := Claim7.holds Tryz.pinned (.plain (OpenSpec.ofChange segmentNamesSpec)) segmentNamesCard

/-- THE TIED CARD OF 'wagonwaylaw05.SegmentParts'. -/
def segmentPartsCard : Claim7 := { stood := { row := segmentPartsRow, standIns := [], harness := (true, "bb96d247dd1be73b7c665b9fc94d622212445164f4cfdcb2c4fbad085bc631c4"), looks := false }, kinds := [], alts := [], laidByText := true, laidKinds := [.data], laidTests := true, laidLooks := .later }
def SegmentPartsCardSaid : Prop := Claim7.holds Tryz.pinned (.plain (OpenSpec.ofChange segmentPartsSpec)) segmentPartsCard

/-- THE TIED CARD OF 'wagonwaylaw06.HierRoutes'. -/
def hierRoutesCard : Claim7 := { stood := { row := hierRoutesRow, standIns := [], harness := (true, "bb96d247dd1be73b7c665b9fc94d622212445164f4cfdcb2c4fbad085bc631c4"), looks := false }, kinds := [], alts := [], laidByText := true, laidKinds := [.data], laidTests := true, laidLooks := .later }
def HierRoutesCardSaid : Prop := Claim7.holds Tryz.pinned (.plain (OpenSpec.ofChange hierRoutesSpec)) hierRoutesCard

/-- THE TIED CARD OF 'wagonwaylaw06.HierChecks'. -/
def hierChecksCard : Claim7 := { stood := { row := hierChecksRow, standIns := [], harness := (true, "bb96d247dd1be73b7c665b9fc94d622212445164f4cfdcb2c4fbad085bc631c4"), looks := false }, kinds := [], alts := [], laidByText := true, laidKinds := [.data], laidTests := true, laidLooks := .later }
def HierChecksCardSaid : Prop := Claim7.holds Tryz.pinned (.plain (OpenSpec.ofChange hierChecksSpec)) hierChecksCard

/-- THE TIED CARD OF 'wagonwaylaw06.HierNames'. -/
def hierNamesCard : Claim7 := { stood := { row := hierNamesRow, standIns := [], harness := (true, "bb96d247dd1be73b7c665b9fc94d622212445164f4cfdcb2c4fbad085bc631c4"), looks := false }, kinds := [], alts := [], laidByText := true, laidKinds := [.data], laidTests := true, laidLooks := .later }
def HierNamesCardSaid : Prop := Claim7.holds Tryz.pinned (.plain (OpenSpec.ofChange hierNamesSpec)) hierNamesCard

/-- THE TIED CARD OF 'wagonwaylaw06.HierParts'. -/
def hierPartsCard : Claim7 := { stood := { row := hierPartsRow, standIns := [], harness := (true, "bb96d247dd1be73b7c665b9fc94d622212445164f4cfdcb2c4fbad085bc631c4"), looks := false }, kinds := [], alts := [], laidByText := true, laidKinds := [.data], laidTests := true, laidLooks := .later }
def HierPartsCardSaid : Prop := Claim7.holds Tryz.pinned (.plain (OpenSpec.ofChange hierPartsSpec)) hierPartsCard

/-- THE TIED CARD OF 'wagonwaylaw06.HierBans'. -/
def hierBansCard : Claim7 := { stood := { row := hierBansRow, standIns := [], harness := (true, "bb96d247dd1be73b7c665b9fc94d622212445164f4cfdcb2c4fbad085bc631c4"), looks := false }, kinds := [], alts := [], laidByText := true, laidKinds := [.data], laidTests := true, laidLooks := .later }
def HierBansCardSaid : Prop := Claim7.holds Tryz.pinned (.plain (OpenSpec.ofChange hierBansSpec)) hierBansCard

/-- THE TIED CARD OF 'wagonwaylaw06.HierTurns'. -/
def hierTurnsCard : Claim7 := { stood := { row := hierTurnsRow, standIns := [], harness := (true, "bb96d247dd1be73b7c665b9fc94d622212445164f4cfdcb2c4fbad085bc631c4"), looks := false }, kinds := [], alts := [], laidByText := true, laidKinds := [.data], laidTests := true, laidLooks := .later }
def HierTurnsCardSaid : Prop := Claim7.holds Tryz.pinned (.plain (OpenSpec.ofChange hierTurnsSpec)) hierTurnsCard

/-- THE TIED CARD OF 'wagonwaylaw06.HierEdges'. -/
def hierEdgesCard : Claim7 := { stood := { row := hierEdgesRow, standIns := [], harness := (true, "bb96d247dd1be73b7c665b9fc94d622212445164f4cfdcb2c4fbad085bc631c4"), looks := false }, kinds := [], alts := [], laidByText := true, laidKinds := [.data], laidTests := true, laidLooks := .later }
def HierEdgesCardSaid : Prop := Claim7.holds Tryz.pinned (.plain (OpenSpec.ofChange hierEdgesSpec)) hierEdgesCard

/-- THE SECOND FORM's CARD OF 'wagonwaylaw05.SegmentTells'. -/
def segmentTellsUptoCard : Claim7 := { stood := { row := segmentTellsUptoRow, standIns := [], harness := (true, "bb96d247dd1be73b7c665b9fc94d622212445164f4cfdcb2c4fbad085bc631c4"), looks := false }, kinds := [], alts := [], laidByText := true, laidKinds := [.data], laidTests := true, laidLooks := .later }
def SegmentTellsUptoCardSaid : Prop := Claim7.holds Tryz.pinned (.plain (OpenSpec.upto segmentTellsSpec)) segmentTellsUptoCard

/-- THE SECOND FORM's CARD OF 'wagonwaylaw05.SegmentNames'. -/
def segmentNamesUptoCard : Claim7 := { stood := { row := segmentNamesUptoRow, standIns := [], harness := (true, "bb96d247dd1be73b7c665b9fc94d622212445164f4cfdcb2c4fbad085bc631c4"), looks := false }, kinds := [], alts := [], laidByText := true, laidKinds := [.data], laidTests := true, laidLooks := .later }
def SegmentNamesUptoCardSaid : Prop := Claim7.holds Tryz.pinned (.plain (OpenSpec.upto segmentNamesSpec)) segmentNamesUptoCard

/-- THE SECOND FORM's CARD OF 'wagonwaylaw05.SegmentParts'. -/
def segmentPartsUptoCard : Claim7 := { stood := { row := segmentPartsUptoRow, standIns := [], harness := (true, "bb96d247dd1be73b7c665b9fc94d622212445164f4cfdcb2c4fbad085bc631c4"), looks := false }, kinds := [], alts := [], laidByText := true, laidKinds := [.data], laidTests := true, laidLooks := .later }
def SegmentPartsUptoCardSaid : Prop := Claim7.holds Tryz.pinned (.plain (OpenSpec.upto segmentPartsSpec)) segmentPartsUptoCard

/-- THE SECOND FORM's CARD OF 'wagonwaylaw06.HierRoutes'. -/
def hierRoutesUptoCard : Claim7 := { stood := { row := hierRoutesUptoRow, standIns := [], harness := (true, "bb96d247dd1be73b7c665b9fc94d622212445164f4cfdcb2c4fbad085bc631c4"), looks := false }, kinds := [], alts := [], laidByText := true, laidKinds := [.data], laidTests := true, laidLooks := .later }
def HierRoutesUptoCardSaid : Prop := Claim7.holds Tryz.pinned (.plain (OpenSpec.upto hierRoutesSpec)) hierRoutesUptoCard

/-- THE SECOND FORM's CARD OF 'wagonwaylaw06.HierChecks'. -/
def hierChecksUptoCard : Claim7 := { stood := { row := hierChecksUptoRow, standIns := [], harness := (true, "bb96d247dd1be73b7c665b9fc94d622212445164f4cfdcb2c4fbad085bc631c4"), looks := false }, kinds := [], alts := [], laidByText := true, laidKinds := [.data], laidTests := true, laidLooks := .later }
def HierChecksUptoCardSaid : Prop := Claim7.holds Tryz.pinned (.plain (OpenSpec.upto hierChecksSpec)) hierChecksUptoCard

/-- THE SECOND FORM's CARD OF 'wagonwaylaw06.HierNames'. -/
def hierNamesUptoCard : Claim7 := { stood := { row := hierNamesUptoRow, standIns := [], harness := (true, "bb96d247dd1be73b7c665b9fc94d622212445164f4cfdcb2c4fbad085bc631c4"), looks := false }, kinds := [], alts := [], laidByText := true, laidKinds := [.data], laidTests := true, laidLooks := .later }
def HierNamesUptoCardSaid : Prop := Claim7.holds Tryz.pinned (.plain (OpenSpec.upto hierNamesSpec)) hierNamesUptoCard

/-- THE SECOND FORM's CARD OF 'wagonwaylaw06.HierParts'. -/
def hierPartsUptoCard : Claim7 := { stood := { row := hierPartsUptoRow, standIns := [], harness := (true, "bb96d247dd1be73b7c665b9fc94d622212445164f4cfdcb2c4fbad085bc631c4"), looks := false }, kinds := [], alts := [], laidByText := true, laidKinds := [.data], laidTests := true, laidLooks := .later }
def HierPartsUptoCardSaid : Prop := Claim7.holds Tryz.pinned (.plain (OpenSpec.upto hierPartsSpec)) hierPartsUptoCard

/-- THE SECOND FORM's CARD OF 'wagonwaylaw06.HierBans'. -/
def hierBansUptoCard : Claim7 := { stood := { row := hierBansUptoRow, standIns := [], harness := (true, "bb96d247dd1be73b7c665b9fc94d622212445164f4cfdcb2c4fbad085bc631c4"), looks := false }, kinds := [], alts := [], laidByText := true, laidKinds := [.data], laidTests := true, laidLooks := .later }
def HierBansUptoCardSaid : Prop := Claim7.holds Tryz.pinned (.plain (OpenSpec.upto hierBansSpec)) hierBansUptoCard

/-- THE SECOND FORM's CARD OF 'wagonwaylaw06.HierTurns'. -/
def hierTurnsUptoCard : Claim7 := { stood := { row := hierTurnsUptoRow, standIns := [], harness := (true, "bb96d247dd1be73b7c665b9fc94d622212445164f4cfdcb2c4fbad085bc631c4"), looks := false }, kinds := [], alts := [], laidByText := true, laidKinds := [.data], laidTests := true, laidLooks := .later }
def HierTurnsUptoCardSaid : Prop := Claim7.holds Tryz.pinned (.plain (OpenSpec.upto hierTurnsSpec)) hierTurnsUptoCard

/-- THE SECOND FORM's CARD OF 'wagonwaylaw06.HierEdges'. -/
def hierEdgesUptoCard : Claim7 := { stood := { row := hierEdgesUptoRow, standIns := [], harness := (true, "bb96d247dd1be73b7c665b9fc94d622212445164f4cfdcb2c4fbad085bc631c4"), looks := false }, kinds := [], alts := [], laidByText := true, laidKinds := [.data], laidTests := true, laidLooks := .later }
def HierEdgesUptoCardSaid : Prop := Claim7.holds Tryz.pinned (.plain (OpenSpec.upto hierEdgesSpec)) hierEdgesUptoCard
end Rows
end Go.Proofs.YtekhlaodlagbdaaGreatDoor
