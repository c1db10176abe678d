/-
  DERIVED. GIVEN WITH THE SEED: THE CARDS: each row of YtohjjgefklhmaabGreatDoorRows.lean that lists a variable, with what it lists TIED to the program's text (the seventh form; the later family's looks); each row that meets fmt, with fmt's text TOLD by the authors' own Lean function (tested against real Go, not proved from fmt's source: count such statements apart). THE CARD IS WHAT COUNTS. Prove the row's statement (the work); the ties are given (YtohjjgefklhmaabGreatDoorTie.lean); close each card by the builder's one call (the guide's Derived/Test/ToyasCard.lean, 'card_holds'). Laid BY PROGRAM, IN A SANDBOX (cutbox-door.mjs). By AI agents, Wed Nov 11 2026. No macro, syntax, notation, axiom, sorry.
-/
import Derived.Test.YtohjjgefklhmaabGreatDoorRows
import GoSem.ClaimSeven
namespace Go.Proofs.YtohjjgefklhmaabGreatDoor
namespace Rows

/-- THE TIED CARD OF 'stakingkeep.Same'. -/
def sameCard : Claim7 := { stood := { row := sameRow, standIns := [], harness := (true, "e997212c7f9543bcccac4fbc1ecd2564ec1a1ddc91d1a31c50beb041578ce231"), looks := false }, kinds := [], alts := [], laidByText := true, laidKinds := [.data, .data, .data], laidTests := true, laidLooks := .later }
def SameCardSaid : Prop := Claim7.holds Tryz.pinned (.plain (OpenSpec.ofChange sameSpec)) sameCard

/-- THE TIED CARD OF 'stakingkeep.Imported'. -/
def importedCard : Claim7 := { stood := { row := importedRow, standIns := [], harness := (true, "e997212c7f9543bcccac4fbc1ecd2564ec1a1ddc91d1a31c50beb041578ce231"), looks := false }, kinds := [], alts := [], laidByText := true, laidKinds := [.data, .data, .data], laidTests := true, laidLooks := .later }
def ImportedCardSaid : Prop := Claim7.holds Tryz.pinned (.plain (OpenSpec.ofChange importedSpec)) importedCard

/-- THE SECOND FORM's CARD OF 'stakingkeep.Same'. -/
def sameUptoCard : Claim7 := { stood := { row := sameUptoRow, standIns := [], harness := (true, "e997212c7f9543bcccac4fbc1ecd2564ec1a1ddc91d1a31c50beb041578ce231"), looks := false }, kinds := [], alts := [], laidByText := true, laidKinds := [.data, .data, .data], laidTests := true, laidLooks := .later }
def SameUptoCardSaid : Prop := Claim7.holds Tryz.pinned (.plain (OpenSpec.upto sameSpec)) sameUptoCard

/-- THE SECOND FORM's CARD OF 'stakingkeep.Imported'. -/
def importedUptoCard : Claim7 := { stood := { row := importedUptoRow, standIns := [], harness := (true, "e997212c7f9543bcccac4fbc1ecd2564ec1a1ddc91d1a31c50beb041578ce231"), looks := false }, kinds := [], alts := [], laidByText := true, laidKinds := [.data, .data, .data], laidTests := true, laidLooks := .later }
def ImportedUptoCardSaid : Prop := Claim7.holds Tryz.pinned (.plain (OpenSpec.upto importedSpec)) importedUptoCard
end Rows
end Go.Proofs.YtohjjgefklhmaabGreatDoor
