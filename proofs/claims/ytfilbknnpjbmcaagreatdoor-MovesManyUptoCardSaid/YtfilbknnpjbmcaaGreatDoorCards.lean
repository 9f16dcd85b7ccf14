/-
  DERIVED. GIVEN WITH THE SEED: THE CARDS: each row of YtfilbknnpjbmcaaGreatDoorRows.lean that lists a variable, with what it lists TIED to the program's text (the seventh form; the later family's looks); each row that meets fmt, with fmt's text TOLD by the authors' own Lean function (tested against real Go, not proved from fmt's source: count such statements apart). THE CARD IS WHAT COUNTS. Prove the row's statement (the work); the ties are given (YtfilbknnpjbmcaaGreatDoorTie.lean); close each card by the builder's one call (the guide's Derived/Test/ToyasCard.lean, 'card_holds'). Laid BY PROGRAM, IN A SANDBOX (cutbox-door.mjs). By AI agents, Wed Nov 11 2026. No macro, syntax, notation, axiom, sorry.
-/
import Derived.Test.YtfilbknnpjbmcaaGreatDoorRows
import GoSem.ClaimSeven
namespace Go.Proofs.YtfilbknnpjbmcaaGreatDoor
namespace Rows

/-- THE TIED CARD OF 'touchstonelaw13.MovesOne'. -/
def movesOneCard : Claim7 := { stood := { row := movesOneRow, standIns := [], harness := (true, "a02f8597cb40edd27fa18978023eaf6a690ed614e2b1bb67cdcc84072f477aa2"), looks := true }, kinds := [], alts := [], laidByText := true, laidKinds := [.data, .pinned], laidTests := true, laidLooks := .later }
def MovesOneCardSaid : Prop := Claim7.holds Tryz.pinned (.plain (OpenSpec.ofChange movesOneSpec)) movesOneCard

/-- THE TIED CARD OF 'touchstonelaw13.MovesMany'. -/
def movesManyCard : Claim7 := { stood := { row := movesManyRow, standIns := [], harness := (true, "a02f8597cb40edd27fa18978023eaf6a690ed614e2b1bb67cdcc84072f477aa2"), looks := true }, kinds := [], alts := [], laidByText := true, laidKinds := [.data, .pinned], laidTests := true, laidLooks := .later }
def MovesManyCardSaid : Prop := Claim7.holds Tryz.pinned (.plain (OpenSpec.ofChange movesManySpec)) movesManyCard

/-- THE SECOND FORM's CARD OF 'touchstonelaw13.MovesOne'. -/
def movesOneUptoCard : Claim7 := { stood := { row := movesOneUptoRow, standIns := [], harness := (true, "a02f8597cb40edd27fa18978023eaf6a690ed614e2b1bb67cdcc84072f477aa2"), looks := true }, kinds := [], alts := [], laidByText := true, laidKinds := [.data, .pinned], laidTests := true, laidLooks := .later }
def MovesOneUptoCardSaid : Prop := Claim7.holds Tryz.pinned (.plain (OpenSpec.upto movesOneSpec)) movesOneUptoCard

/-- THE SECOND FORM's CARD OF 'touchstonelaw13.MovesMany'. -/
def movesManyUptoCard : Claim7 := { stood := { row := movesManyUptoRow, standIns := [], harness := (true, "a02f8597cb40edd27fa18978023eaf6a690ed614e2b1bb67cdcc84072f477aa2"), looks := true }, kinds := [], alts := [], laidByText := true, laidKinds := [.data, .pinned], laidTests := true, laidLooks := .later }
def MovesManyUptoCardSaid : Prop := Claim7.holds Tryz.pinned (.plain (OpenSpec.upto movesManySpec)) movesManyUptoCard
end Rows
end Go.Proofs.YtfilbknnpjbmcaaGreatDoor
