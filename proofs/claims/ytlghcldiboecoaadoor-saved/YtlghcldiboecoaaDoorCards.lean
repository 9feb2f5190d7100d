/-
  DERIVED. GIVEN WITH THE SEED: THE CARDS: each row of YtlghcldiboecoaaDoorRows.lean that lists a variable, with what it lists TIED to the program's text (the seventh form; the later family's looks); each row that meets fmt, with fmt's text TOLD by the authors' own Lean function (tested against real Go, not proved from fmt's source: count such statements apart). THE CARD IS WHAT COUNTS. Prove the row's statement (the work); the ties are given (YtlghcldiboecoaaDoorTie.lean); close each card by the builder's one call (the guide's Derived/Test/ToyasCard.lean, 'card_holds'). Laid BY PROGRAM, IN A SANDBOX (cutbox-door.mjs). By AI agents, Wed Nov 11 2026. No macro, syntax, notation, axiom, sorry.
-/
import Derived.Test.YtlghcldiboecoaaDoorRows
import GoSem.ClaimSeven
namespace Go.Proofs.YtlghcldiboecoaaDoor
namespace Rows

/-- THE TIED CARD OF 'orchardkeep.Coded'. -/
def codedCard : Claim7 := { stood := { row := codedRow, standIns := [], harness := (true, "9bc4f35aa466bcb9582a4110ed60da399aa93d6d693c16447151b2055164c6dc"), looks := false }, kinds := [], alts := [], laidByText := true, laidKinds := [.data, .data, .pinned], laidTests := true, laidLooks := .later }
def CodedCardSaid : Prop := Claim7.holds Tryd.pinned (.plain (OpenSpec.ofChange codedSpec)) codedCard

/-- THE TIED CARD OF 'orchardkeep.Canon'. -/
def canonCard : Claim7 := { stood := { row := canonRow, standIns := [], harness := (true, "9bc4f35aa466bcb9582a4110ed60da399aa93d6d693c16447151b2055164c6dc"), looks := false }, kinds := [], alts := [], laidByText := true, laidKinds := [.data, .data, .pinned], laidTests := true, laidLooks := .later }
def CanonCardSaid : Prop := Claim7.holds Tryd.pinned (.plain (OpenSpec.ofChange canonSpec)) canonCard

/-- THE TIED CARD OF 'orchardkeep.Saved'. -/
def savedCard : Claim7 := { stood := { row := savedRow, standIns := [], harness := (true, "9bc4f35aa466bcb9582a4110ed60da399aa93d6d693c16447151b2055164c6dc"), looks := false }, kinds := [], alts := [], laidByText := true, laidKinds := [.data, .data, .data, .pinned], laidTests := true, laidLooks := .later }
def SavedCardSaid : Prop := Claim7.holds Tryd.pinned (.plain (OpenSpec.ofChange savedSpec)) savedCard

/-- THE TIED CARD OF 'orchardkeep.Spoilt'. -/
def spoiltCard : Claim7 := { stood := { row := spoiltRow, standIns := [], harness := (true, "9bc4f35aa466bcb9582a4110ed60da399aa93d6d693c16447151b2055164c6dc"), looks := false }, kinds := [], alts := [], laidByText := true, laidKinds := [.data, .data, .data, .pinned], laidTests := true, laidLooks := .later }
def SpoiltCardSaid : Prop := Claim7.holds Tryd.pinned (.plain (OpenSpec.ofChange spoiltSpec)) spoiltCard

/-- THE SECOND FORM's CARD OF 'orchardkeep.Coded'. -/
def codedUptoCard : Claim7 := { stood := { row := codedUptoRow, standIns := [], harness := (true, "9bc4f35aa466bcb9582a4110ed60da399aa93d6d693c16447151b2055164c6dc"), looks := false }, kinds := [], alts := [], laidByText := true, laidKinds := [.data, .data, .pinned], laidTests := true, laidLooks := .later }
def CodedUptoCardSaid : Prop := Claim7.holds Tryd.pinned (.plain (OpenSpec.upto codedSpec)) codedUptoCard

/-- THE SECOND FORM's CARD OF 'orchardkeep.Canon'. -/
def canonUptoCard : Claim7 := { stood := { row := canonUptoRow, standIns := [], harness := (true, "9bc4f35aa466bcb9582a4110ed60da399aa93d6d693c16447151b2055164c6dc"), looks := false }, kinds := [], alts := [], laidByText := true, laidKinds := [.data, .data, .pinned], laidTests := true, laidLooks := .later }
def CanonUptoCardSaid : Prop := Claim7.holds Tryd.pinned (.plain (OpenSpec.upto canonSpec)) canonUptoCard

/-- THE SECOND FORM's CARD OF 'orchardkeep.Saved'. -/
def savedUptoCard : Claim7 := { stood := { row := savedUptoRow, standIns := [], harness := (true, "9bc4f35aa466bcb9582a4110ed60da399aa93d6d693c16447151b2055164c6dc"), looks := false }, kinds := [], alts := [], laidByText := true, laidKinds := [.data, .data, .data, .pinned], laidTests := true, laidLooks := .later }
def SavedUptoCardSaid : Prop := Claim7.holds Tryd.pinned (.plain (OpenSpec.upto savedSpec)) savedUptoCard

/-- THE SECOND FORM's CARD OF 'orchardkeep.Spoilt'. -/
def spoiltUptoCard : Claim7 := { stood := { row := spoiltUptoRow, standIns := [], harness := (true, "9bc4f35aa466bcb9582a4110ed60da399aa93d6d693c16447151b2055164c6dc"), looks := false }, kinds := [], alts := [], laidByText := true, laidKinds := [.data, .data, .data, .pinned], laidTests := true, laidLooks := .later }
def SpoiltUptoCardSaid : Prop := Claim7.holds Tryd.pinned (.plain (OpenSpec.upto spoiltSpec)) spoiltUptoCard
end Rows
end Go.Proofs.YtlghcldiboecoaaDoor
