/-
  DERIVED. GIVEN WITH THE SEED: THE CARDS: each row of YtfgajjfcjlejmaaDoorRows.lean that lists a variable, with what it lists TIED to the program's text (the seventh form; the later family's looks); each row that meets fmt, with fmt's text TOLD by the authors' own Lean function (tested against real Go, not proved from fmt's source: count such statements apart). THE CARD IS WHAT COUNTS. Prove the row's statement (the work); the ties are given (YtfgajjfcjlejmaaDoorTie.lean); close each card by the builder's one call (the guide's Derived/Test/ToyasCard.lean, 'card_holds'). Laid BY PROGRAM, IN A SANDBOX (cutbox-door.mjs). By AI agents, Wed Nov 11 2026. No macro, syntax, notation, axiom, sorry.
-/
import Derived.Test.YtfgajjfcjlejmaaDoorRows
import GoSem.ClaimSeven
namespace Go.Proofs.YtfgajjfcjlejmaaDoor
namespace Rows

/-- THE TIED CARD OF 'wagonwaylaw11.LinkPlays'. -/
def linkPlaysCard : Claim7 := { stood := { row := linkPlaysRow, standIns := [], harness := (true, "78040d618cb40da245620bb6a6e72a07a6a76d7fd40a25e57dcd7a35f4e8d5c0"), looks := false }, kinds := [], alts := [], laidByText := true, laidKinds := [.data, .data, .data], laidTests := true, laidLooks := .later }
def LinkPlaysCardSaid : Prop := Claim7.holds Tryd.pinned (.plain (OpenSpec.ofChange linkPlaysSpec)) linkPlaysCard

/-- THE TIED CARD OF 'wagonwaylaw11.LinkNames'. -/
def linkNamesCard : Claim7 := { stood := { row := linkNamesRow, standIns := [], harness := (true, "78040d618cb40da245620bb6a6e72a07a6a76d7fd40a25e57dcd7a35f4e8d5c0"), looks := false }, kinds := [], alts := [], laidByText := true, laidKinds := [.data, .data, .data], laidTests := true, laidLooks := .later }
def LinkNamesCardSaid : Prop := Claim7.holds Tryd.pinned (.plain (OpenSpec.ofChange linkNamesSpec)) linkNamesCard

/-- THE TIED CARD OF 'wagonwaylaw11.LinkOrder'. -/
def linkOrderCard : Claim7 := { stood := { row := linkOrderRow, standIns := [], harness := (true, "78040d618cb40da245620bb6a6e72a07a6a76d7fd40a25e57dcd7a35f4e8d5c0"), looks := false }, kinds := [], alts := [], laidByText := true, laidKinds := [.data, .data, .data], laidTests := true, laidLooks := .later }
def LinkOrderCardSaid : Prop := Claim7.holds Tryd.pinned (.plain (OpenSpec.ofChange linkOrderSpec)) linkOrderCard

/-- THE TIED CARD OF 'wagonwaylaw11.LinkComes'. -/
def linkComesCard : Claim7 := { stood := { row := linkComesRow, standIns := [], harness := (true, "78040d618cb40da245620bb6a6e72a07a6a76d7fd40a25e57dcd7a35f4e8d5c0"), looks := false }, kinds := [], alts := [], laidByText := true, laidKinds := [.data, .data, .data], laidTests := true, laidLooks := .later }
def LinkComesCardSaid : Prop := Claim7.holds Tryd.pinned (.plain (OpenSpec.ofChange linkComesSpec)) linkComesCard

/-- THE TIED CARD OF 'wagonwaylaw11.LinkQuiet'. -/
def linkQuietCard : Claim7 := { stood := { row := linkQuietRow, standIns := [], harness := (true, "78040d618cb40da245620bb6a6e72a07a6a76d7fd40a25e57dcd7a35f4e8d5c0"), looks := false }, kinds := [], alts := [], laidByText := true, laidKinds := [.data, .data, .data], laidTests := true, laidLooks := .later }
def LinkQuietCardSaid : Prop := Claim7.holds Tryd.pinned (.plain (OpenSpec.ofChange linkQuietSpec)) linkQuietCard

/-- THE SECOND FORM's CARD OF 'wagonwaylaw11.LinkPlays'. -/
def linkPlaysUptoCard : Claim7 := { stood := { row := linkPlaysUptoRow, standIns := [], harness := (true, "78040d618cb40da245620bb6a6e72a07a6a76d7fd40a25e57dcd7a35f4e8d5c0"), looks := false }, kinds := [], alts := [], laidByText := true, laidKinds := [.data, .data, .data], laidTests := true, laidLooks := .later }
def LinkPlaysUptoCardSaid : Prop := Claim7.holds Tryd.pinned (.plain (OpenSpec.upto linkPlaysSpec)) linkPlaysUptoCard

/-- THE SECOND FORM's CARD OF 'wagonwaylaw11.LinkNames'. -/
def linkNamesUptoCard : Claim7 := { stood := { row := linkNamesUptoRow, standIns := [], harness := (true, "78040d618cb40da245620bb6a6e72a07a6a76d7fd40a25e57dcd7a35f4e8d5c0"), looks := false }, kinds := [], alts := [], laidByText := true, laidKinds := [.data, .data, .data], laidTests := true, laidLooks := .later }
def LinkNamesUptoCardSaid : Prop := Claim7.holds Tryd.pinned (.plain (OpenSpec.upto linkNamesSpec)) linkNamesUptoCard

/-- THE SECOND FORM's CARD OF 'wagonwaylaw11.LinkOrder'. -/
def linkOrderUptoCard : Claim7 := { stood := { row := linkOrderUptoRow, standIns := [], harness := (true, "78040d618cb40da245620bb6a6e72a07a6a76d7fd40a25e57dcd7a35f4e8d5c0"), looks := false }, kinds := [], alts := [], laidByText := true, laidKinds := [.data, .data, .data], laidTests := true, laidLooks := .later }
def LinkOrderUptoCardSaid : Prop := Claim7.holds Tryd.pinned (.plain (OpenSpec.upto linkOrderSpec)) linkOrderUptoCard

/-- THE SECOND FORM's CARD OF 'wagonwaylaw11.LinkComes'. -/
def linkComesUptoCard : Claim7 := { stood := { row := linkComesUptoRow, standIns := [], harness := (true, "78040d618cb40da245620bb6a6e72a07a6a76d7fd40a25e57dcd7a35f4e8d5c0"), looks := false }, kinds := [], alts := [], laidByText := true, laidKinds := [.data, .data, .data], laidTests := true, laidLooks := .later }
def LinkComesUptoCardSaid : Prop := Claim7.holds Tryd.pinned (.plain (OpenSpec.upto linkComesSpec)) linkComesUptoCard

/-- THE SECOND FORM's CARD OF 'wagonwaylaw11.LinkQuiet'. -/
def linkQuietUptoCard : Claim7 := { stood := { row := linkQuietUptoRow, standIns := [], harness := (true, "78040d618cb40da245620bb6a6e72a07a6a76d7fd40a25e57dcd7a35f4e8d5c0"), looks := false }, kinds := [], alts := [], laidByText := true, laidKinds := [.data, .data, .data], laidTests := true, laidLooks := .later }
def LinkQuietUptoCardSaid : Prop := Claim7.holds Tryd.pinned (.plain (OpenSpec.upto linkQuietSpec)) linkQuietUptoCard
end Rows
end Go.Proofs.YtfgajjfcjlejmaaDoor
