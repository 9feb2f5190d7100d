/-
  DERIVED. GIVEN WITH THE SEED: THE CARDS: each row of YtcbilgmfdgpomaaGreatDoorRows.lean that lists a variable, with what it lists TIED to the program's text (the seventh form; the later family's looks); each row that meets fmt, with fmt's text TOLD by the authors' own Lean function (tested against real Go, not proved from fmt's source: count such statements apart). THE CARD IS WHAT COUNTS. Prove the row's statement (the work); the ties are given (YtcbilgmfdgpomaaGreatDoorTie.lean); close each card by the builder's one call (the guide's Derived/Test/ToyasCard.lean, 'card_holds'). Laid BY PROGRAM, IN A SANDBOX (cutbox-door.mjs). By AI agents, Wed Nov 11 2026. No macro, syntax, notation, axiom, sorry.
-/
import Derived.Test.YtcbilgmfdgpomaaGreatDoorRows
import GoSem.ClaimSeven
namespace Go.Proofs.YtcbilgmfdgpomaaGreatDoor
namespace Rows

/-- THE TIED CARD OF 'orchardkeep.Pieces'. -/
def piecesCard : Claim7 := { stood := { row := piecesRow, standIns := [], harness := (true, "af0ee81cc4b7c55e23217affbb8e3c9ef43da537474961f6ab93c533527fc898"), looks := false }, kinds := [], alts := [], goes := true, laidByText := true, laidKinds := [.data, .data, .data, .data, .data, .data, .pinned], laidTests := true, laidLooks := .later }
def PiecesCardSaid : Prop := Claim7.holds Tryz.pinned (.plain (OpenSpec.ofChange piecesSpec)) piecesCard

/-- THE TIED CARD OF 'orchardkeep.Alone'. -/
def aloneCard : Claim7 := { stood := { row := aloneRow, standIns := [], harness := (true, "af0ee81cc4b7c55e23217affbb8e3c9ef43da537474961f6ab93c533527fc898"), looks := false }, kinds := [], alts := [], goes := true, laidByText := true, laidKinds := [.data, .data, .data, .data, .data, .data, .pinned], laidTests := true, laidLooks := .later }
def AloneCardSaid : Prop := Claim7.holds Tryz.pinned (.plain (OpenSpec.ofChange aloneSpec)) aloneCard

/-- THE TIED CARD OF 'orchardkeep.Halted'. -/
def haltedCard : Claim7 := { stood := { row := haltedRow, standIns := [], harness := (true, "af0ee81cc4b7c55e23217affbb8e3c9ef43da537474961f6ab93c533527fc898"), looks := false }, kinds := [], alts := [], goes := true, laidByText := true, laidKinds := [.data, .data, .data, .data, .data, .data, .pinned], laidTests := true, laidLooks := .later }
def HaltedCardSaid : Prop := Claim7.holds Tryz.pinned (.plain (OpenSpec.ofChange haltedSpec)) haltedCard

/-- THE SECOND FORM's CARD OF 'orchardkeep.Pieces'. -/
def piecesUptoCard : Claim7 := { stood := { row := piecesUptoRow, standIns := [], harness := (true, "af0ee81cc4b7c55e23217affbb8e3c9ef43da537474961f6ab93c533527fc898"), looks := false }, kinds := [], alts := [], goes := true, laidByText := true, laidKinds := [.data, .data, .data, .data, .data, .data, .pinned], laidTests := true, laidLooks := .later }
def PiecesUptoCardSaid : Prop := Claim7.holds Tryz.pinned (.plain (OpenSpec.upto piecesSpec)) piecesUptoCard

/-- THE SECOND FORM's CARD OF 'orchardkeep.Alone'. -/
def aloneUptoCard : Claim7 := { stood := { row := aloneUptoRow, standIns := [], harness := (true, "af0ee81cc4b7c55e23217affbb8e3c9ef43da537474961f6ab93c533527fc898"), looks := false }, kinds := [], alts := [], goes := true, laidByText := true, laidKinds := [.data, .data, .data, .data, .data, .data, .pinned], laidTests := true, laidLooks := .later }
def AloneUptoCardSaid : Prop := Claim7.holds Tryz.pinned (.plain (OpenSpec.upto aloneSpec)) aloneUptoCard

/-- THE SECOND FORM's CARD OF 'orchardkeep.Halted'. -/
def haltedUptoCard : Claim7 := { stood := { row := haltedUptoRow, standIns := [], harness := (true, "af0ee81cc4b7c55e23217affbb8e3c9ef43da537474961f6ab93c533527fc898"), looks := false }, kinds := [], alts := [], goes := true, laidByText := true, laidKinds := [.data, .data, .data, .data, .data, .data, .pinned], laidTests := true, laidLooks := .later }
def HaltedUptoCardSaid : Prop := Claim7.holds Tryz.pinned (.plain (OpenSpec.upto haltedSpec)) haltedUptoCard
end Rows
end Go.Proofs.YtcbilgmfdgpomaaGreatDoor
