/-
  DERIVED. GIVEN WITH THE SEED: THE CARDS: each row of YtjoblhlkfmeckaaGreatDoorRows.lean that lists a variable, with what it lists TIED to the program's text (the seventh form; the later family's looks); each row that meets fmt, with fmt's text TOLD by the authors' own Lean function (tested against real Go, not proved from fmt's source: count such statements apart). THE CARD IS WHAT COUNTS. Prove the row's statement (the work); the ties are given (YtjoblhlkfmeckaaGreatDoorTie.lean); close each card by the builder's one call (the guide's Derived/Test/ToyasCard.lean, 'card_holds'). Laid BY PROGRAM, IN A SANDBOX (cutbox-door.mjs). By AI agents, Wed Nov 11 2026. No macro, syntax, notation, axiom, sorry.
-/
import Derived.Test.YtjoblhlkfmeckaaGreatDoorRows
import GoSem.ClaimSeven
namespace Go.Proofs.YtjoblhlkfmeckaaGreatDoor
namespace Rows

/-- THE TIED CARD OF 'orchardkeep.Watched'. -/
def watchedCard : Claim7 := { stood := { row := watchedRow, standIns := [], harness := (true, "19a367ae9af61a77c9f02c98aab4434cf92d60943f2e928a320bddbc46c2f776"), looks := false }, kinds := [], alts := [], goes := true, laidByText := true, laidKinds := [.data, .data, .data, .data, .data, .data, .pinned], laidTests := true, laidLooks := .later }
def WatchedCardSaid : Prop := Claim7.holds Tryz.pinned (.plain (OpenSpec.ofChange watchedSpec)) watchedCard

/-- THE SECOND FORM's CARD OF 'orchardkeep.Watched'. -/
def watchedUptoCard : Claim7 := { stood := { row := watchedUptoRow, standIns := [], harness := (true, "19a367ae9af61a77c9f02c98aab4434cf92d60943f2e928a320bddbc46c2f776"), looks := false }, kinds := [], alts := [], goes := true, laidByText := true, laidKinds := [.data, .data, .data, .data, .data, .data, .pinned], laidTests := true, laidLooks := .later }
def WatchedUptoCardSaid : Prop := Claim7.holds Tryz.pinned (.plain (OpenSpec.upto watchedSpec)) watchedUptoCard
end Rows
end Go.Proofs.YtjoblhlkfmeckaaGreatDoor
