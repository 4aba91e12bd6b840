/-
  DERIVED. GIVEN WITH THE SEED: THE CARDS: each row of YtlmbbnkdiokabaaDoorRows.lean that lists a variable, with what it lists TIED to the program's text (the seventh form; the later family's looks); each row that meets fmt, with fmt's text TOLD by the authors' own Lean function (tested against real Go, not proved from fmt's source: count such statements apart). THE CARD IS WHAT COUNTS. Prove the row's statement (the work); the ties are given (YtlmbbnkdiokabaaDoorTie.lean); close each card by the builder's one call (the guide's Derived/Test/ToyasCard.lean, 'card_holds'). Laid BY PROGRAM, IN A SANDBOX (cutbox-door.mjs). By AI agents, Wed Nov 11 2026. No macro, syntax, notation, axiom, sorry.
-/
import Derived.Test.YtlmbbnkdiokabaaDoorRows
import GoSem.ClaimSeven
namespace Go.Proofs.YtlmbbnkdiokabaaDoor
namespace Rows

/-- THE TIED CARD OF 'wagonwaylaw14.LedgerPlays'. -/
def ledgerPlaysCard : Claim7 := { stood := { row := ledgerPlaysRow, standIns := [], harness := (true, "3457e637bcd6ed75c83cee3f2ecb5d1b67160cfd4e8aba5501fd91cee069fa98"), looks := false }, kinds := [], alts := [], laidByText := true, laidKinds := [.data], laidTests := true, laidLooks := .later }
def LedgerPlaysCardSaid : Prop := Claim7.holds Tryd.pinned (.plain (OpenSpec.ofChange ledgerPlaysSpec)) ledgerPlaysCard

/-- THE TIED CARD OF 'wagonwaylaw14.LedgerNames'. -/
def ledgerNamesCard : Claim7 := { stood := { row := ledgerNamesRow, standIns := [], harness := (true, "3457e637bcd6ed75c83cee3f2ecb5d1b67160cfd4e8aba5501fd91cee069fa98"), looks := false }, kinds := [], alts := [], laidByText := true, laidKinds := [.data], laidTests := true, laidLooks := .later }
def LedgerNamesCardSaid : Prop := Claim7.holds Tryd.pinned (.plain (OpenSpec.ofChange ledgerNamesSpec)) ledgerNamesCard

/-- THE TIED CARD OF 'wagonwaylaw14.LedgerGens'. -/
def ledgerGensCard : Claim7 := { stood := { row := ledgerGensRow, standIns := [], harness := (true, "3457e637bcd6ed75c83cee3f2ecb5d1b67160cfd4e8aba5501fd91cee069fa98"), looks := false }, kinds := [], alts := [], laidByText := true, laidKinds := [.data], laidTests := true, laidLooks := .later }
def LedgerGensCardSaid : Prop := Claim7.holds Tryd.pinned (.plain (OpenSpec.ofChange ledgerGensSpec)) ledgerGensCard

/-- THE TIED CARD OF 'wagonwaylaw14.LedgerLoads'. -/
def ledgerLoadsCard : Claim7 := { stood := { row := ledgerLoadsRow, standIns := [], harness := (true, "3457e637bcd6ed75c83cee3f2ecb5d1b67160cfd4e8aba5501fd91cee069fa98"), looks := false }, kinds := [], alts := [], laidByText := true, laidKinds := [.data], laidTests := true, laidLooks := .later }
def LedgerLoadsCardSaid : Prop := Claim7.holds Tryd.pinned (.plain (OpenSpec.ofChange ledgerLoadsSpec)) ledgerLoadsCard

/-- THE TIED CARD OF 'wagonwaylaw14.LedgerOld'. -/
def ledgerOldCard : Claim7 := { stood := { row := ledgerOldRow, standIns := [], harness := (true, "3457e637bcd6ed75c83cee3f2ecb5d1b67160cfd4e8aba5501fd91cee069fa98"), looks := false }, kinds := [], alts := [], laidByText := true, laidKinds := [.data], laidTests := true, laidLooks := .later }
def LedgerOldCardSaid : Prop := Claim7.holds Tryd.pinned (.plain (OpenSpec.ofChange ledgerOldSpec)) ledgerOldCard

/-- THE TIED CARD OF 'wagonwaylaw14.LedgerTurns'. -/
def ledgerTurnsCard : Claim7 := { stood := { row := ledgerTurnsRow, standIns := [], harness := (true, "3457e637bcd6ed75c83cee3f2ecb5d1b67160cfd4e8aba5501fd91cee069fa98"), looks := false }, kinds := [], alts := [], laidByText := true, laidKinds := [.data], laidTests := true, laidLooks := .later }
def LedgerTurnsCardSaid : Prop := Claim7.holds Tryd.pinned (.plain (OpenSpec.ofChange ledgerTurnsSpec)) ledgerTurnsCard

/-- THE SECOND FORM's CARD OF 'wagonwaylaw14.LedgerPlays'. -/
def ledgerPlaysUptoCard : Claim7 := { stood := { row := ledgerPlaysUptoRow, standIns := [], harness := (true, "3457e637bcd6ed75c83cee3f2ecb5d1b67160cfd4e8aba5501fd91cee069fa98"), looks := false }, kinds := [], alts := [], laidByText := true, laidKinds := [.data], laidTests := true, laidLooks := .later }
def LedgerPlaysUptoCardSaid : Prop := Claim7.holds Tryd.pinned (.plain (OpenSpec.upto ledgerPlaysSpec)) ledgerPlaysUptoCard

/-- THE SECOND FORM's CARD OF 'wagonwaylaw14.LedgerNames'. -/
def ledgerNamesUptoCard : Claim7 := { stood := { row := ledgerNamesUptoRow, standIns := [], harness := (true, "3457e637bcd6ed75c83cee3f2ecb5d1b67160cfd4e8aba5501fd91cee069fa98"), looks := false }, kinds := [], alts := [], laidByText := true, laidKinds := [.data], laidTests := true, laidLooks := .later }
def LedgerNamesUptoCardSaid : Prop := Claim7.holds Tryd.pinned (.plain (OpenSpec.upto ledgerNamesSpec)) ledgerNamesUptoCard

/-- THE SECOND FORM's CARD OF 'wagonwaylaw14.LedgerGens'. -/
def ledgerGensUptoCard : Claim7 := { stood := { row := ledgerGensUptoRow, standIns := [], harness := (true, "3457e637bcd6ed75c83cee3f2ecb5d1b67160cfd4e8aba5501fd91cee069fa98"), looks := false }, kinds := [], alts := [], laidByText := true, laidKinds := [.data], laidTests := true, laidLooks := .later }
def LedgerGensUptoCardSaid : Prop := Claim7.holds Tryd.pinned (.plain (OpenSpec.upto ledgerGensSpec)) ledgerGensUptoCard

/-- THE SECOND FORM's CARD OF 'wagonwaylaw14.LedgerLoads'. -/
def ledgerLoadsUptoCard : Claim7 := { stood := { row := ledgerLoadsUptoRow, standIns := [], harness := (true, "3457e637bcd6ed75c83cee3f2ecb5d1b67160cfd4e8aba5501fd91cee069fa98"), looks := false }, kinds := [], alts := [], laidByText := true, laidKinds := [.data], laidTests := true, laidLooks := .later }
def LedgerLoadsUptoCardSaid : Prop := Claim7.holds Tryd.pinned (.plain (OpenSpec.upto ledgerLoadsSpec)) ledgerLoadsUptoCard

/-- THE SECOND FORM's CARD OF 'wagonwaylaw14.LedgerOld'. -/
def ledgerOldUptoCard : Claim7 := { stood := { row := ledgerOldUptoRow, standIns := [], harness := (true, "3457e637bcd6ed75c83cee3f2ecb5d1b67160cfd4e8aba5501fd91cee069fa98"), looks := false }, kinds := [], alts := [], laidByText := true, laidKinds := [.data], laidTests := true, laidLooks := .later }
def LedgerOldUptoCardSaid : Prop := Claim7.holds Tryd.pinned (.plain (OpenSpec.upto ledgerOldSpec)) ledgerOldUptoCard

/-- THE SECOND FORM's CARD OF 'wagonwaylaw14.LedgerTurns'. -/
def ledgerTurnsUptoCard : Claim7 := { stood := { row := ledgerTurnsUptoRow, standIns := [], harness := (true, "3457e637bcd6ed75c83cee3f2ecb5d1b67160cfd4e8aba5501fd91cee069fa98"), looks := false }, kinds := [], alts := [], laidByText := true, laidKinds := [.data], laidTests := true, laidLooks := .later }
def LedgerTurnsUptoCardSaid : Prop := Claim7.holds Tryd.pinned (.plain (OpenSpec.upto ledgerTurnsSpec)) ledgerTurnsUptoCard
end Rows
end Go.Proofs.YtlmbbnkdiokabaaDoor
