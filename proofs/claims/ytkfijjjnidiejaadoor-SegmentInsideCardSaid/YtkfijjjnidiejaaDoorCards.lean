/-
  DERIVED. GIVEN WITH THE SEED: THE CARDS: each row of YtkfijjjnidiejaaDoorRows.lean that lists a variable, with what it lists TIED to the program's text (the seventh form; the later family's looks); each row that meets fmt, with fmt's text TOLD by the authors' own Lean function (tested against real Go, not proved from fmt's source: count such statements apart). THE CARD IS WHAT COUNTS. Prove the row's statement (the work); the ties are given (YtkfijjjnidiejaaDoorTie.lean); close each card by the builder's one call (the guide's Derived/Test/ToyasCard.lean, 'card_holds'). Laid BY PROGRAM, IN A SANDBOX (cutbox-door.mjs). By AI agents, Wed Nov 11 2026. No macro, syntax, notation, axiom, sorry.
-/
import Derived.Test.YtkfijjjnidiejaaDoorRows
import GoSem.ClaimSeven
namespace Go.Proofs.YtkfijjjnidiejaaDoor
namespace Rows

/-- THE TIED CARD OF 'wagonwaylaw04.RouteBans'. -/
def routeBansCard : Claim7 := { stood := { row := routeBansRow, standIns := [], harness := (true, "97eb9cea69638e0901a019e52f4018637ded50ea3e088ed114c96a2154be804a"), looks := false }, kinds := [], alts := [], laidByText := true, laidKinds := [.data], laidTests := true, laidLooks := .later }
def RouteBansCardSaid : Prop := Claim7.holds Tryd.pinned (.plain (OpenSpec.ofChange routeBansSpec)) routeBansCard

/-- THE TIED CARD OF 'wagonwaylaw05.SegmentInside'. -/
def segmentInsideCard : Claim7 := { stood := { row := segmentInsideRow, standIns := [], harness := (true, "97eb9cea69638e0901a019e52f4018637ded50ea3e088ed114c96a2154be804a"), looks := false }, kinds := [], alts := [], laidByText := true, laidKinds := [.data], laidTests := true, laidLooks := .later }
def SegmentInsideCardSaid : Prop := Claim7.holds Tryd.pinned (.plain (OpenSpec.ofChange segmentInsideSpec)) segmentInsideCard

/-- THE TIED CARD OF 'wagonwaylaw05.SegmentKinds'. -/
def segmentKindsCard : Claim7 := { stood := { row := segmentKindsRow, standIns := [], harness := (true, "97eb9cea69638e0901a019e52f4018637ded50ea3e088ed114c96a2154be804a"), looks := false }, kinds := [], alts := [], laidByText := true, laidKinds := [.data], laidTests := true, laidLooks := .later }
def SegmentKindsCardSaid : Prop := Claim7.holds Tryd.pinned (.plain (OpenSpec.ofChange segmentKindsSpec)) segmentKindsCard

/-- THE SECOND FORM's CARD OF 'wagonwaylaw04.RouteBans'. -/
def routeBansUptoCard : Claim7 := { stood := { row := routeBansUptoRow, standIns := [], harness := (true, "97eb9cea69638e0901a019e52f4018637ded50ea3e088ed114c96a2154be804a"), looks := false }, kinds := [], alts := [], laidByText := true, laidKinds := [.data], laidTests := true, laidLooks := .later }
def RouteBansUptoCardSaid : Prop := Claim7.holds Tryd.pinned (.plain (OpenSpec.upto routeBansSpec)) routeBansUptoCard

/-- THE SECOND FORM's CARD OF 'wagonwaylaw05.SegmentInside'. -/
def segmentInsideUptoCard : Claim7 := { stood := { row := segmentInsideUptoRow, standIns := [], harness := (true, "97eb9cea69638e0901a019e52f4018637ded50ea3e088ed114c96a2154be804a"), looks := false }, kinds := [], alts := [], laidByText := true, laidKinds := [.data], laidTests := true, laidLooks := .later }
def SegmentInsideUptoCardSaid : Prop := Claim7.holds Tryd.pinned (.plain (OpenSpec.upto segmentInsideSpec)) segmentInsideUptoCard

/-- THE SECOND FORM's CARD OF 'wagonwaylaw05.SegmentKinds'. -/
def segmentKindsUptoCard : Claim7 := { stood := { row := segmentKindsUptoRow, standIns := [], harness := (true, "97eb9cea69638e0901a019e52f4018637ded50ea3e088ed114c96a2154be804a"), looks := false }, kinds := [], alts := [], laidByText := true, laidKinds := [.data], laidTests := true, laidLooks := .later }
def SegmentKindsUptoCardSaid : Prop := Claim7.holds Tryd.pinned (.plain (OpenSpec.upto segmentKindsSpec)) segmentKindsUptoCard
end Rows
end Go.Proofs.YtkfijjjnidiejaaDoor
