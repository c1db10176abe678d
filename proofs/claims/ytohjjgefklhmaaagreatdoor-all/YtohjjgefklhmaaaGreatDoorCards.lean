/-
  DERIVED. GIVEN WITH THE SEED: THE CARDS: each row of YtohjjgefklhmaaaGreatDoorRows.lean that lists a variable, with what it lists TIED to the program's text (the seventh form; the later family's looks); each row that meets fmt, with fmt's text TOLD by the authors' own Lean function (tested against real Go, not proved from fmt's source: count such statements apart). THE CARD IS WHAT COUNTS. Prove the row's statement (the work); the ties are given (YtohjjgefklhmaaaGreatDoorTie.lean); close each card by the builder's one call (the guide's Derived/Test/ToyasCard.lean, 'card_holds'). Laid BY PROGRAM, IN A SANDBOX (cutbox-door.mjs). By AI agents, Wed Nov 11 2026. No macro, syntax, notation, axiom, sorry.
-/
import Derived.Test.YtohjjgefklhmaaaGreatDoorRows
import GoSem.ClaimSeven
namespace Go.Proofs.YtohjjgefklhmaaaGreatDoor
namespace Rows

/-- THE TIED CARD OF 'stakinglaw.Begins'. -/
def beginsCard : Claim7 := { stood := { row := beginsRow, standIns := [], harness := (true, "7db2a6f2abcde45fa32b95342ddd17220d11641eebc7e69177c67f6f5dbb4fb4"), looks := false }, kinds := [], alts := [], laidByText := true, laidKinds := [.data, .data, .data], laidTests := true, laidLooks := .later }
def BeginsCardSaid : Prop := Claim7.holds Tryz.pinned (.plain (OpenSpec.ofChange beginsSpec)) beginsCard

/-- THE TIED CARD OF 'stakinglaw.Sends'. -/
def sendsCard : Claim7 := { stood := { row := sendsRow, standIns := [], harness := (true, "7db2a6f2abcde45fa32b95342ddd17220d11641eebc7e69177c67f6f5dbb4fb4"), looks := false }, kinds := [], alts := [], laidByText := true, laidKinds := [.data, .data, .data], laidTests := true, laidLooks := .later }
def SendsCardSaid : Prop := Claim7.holds Tryz.pinned (.plain (OpenSpec.ofChange sendsSpec)) sendsCard

/-- THE TIED CARD OF 'stakinglaw.Bonds'. -/
def bondsCard : Claim7 := { stood := { row := bondsRow, standIns := [], harness := (true, "7db2a6f2abcde45fa32b95342ddd17220d11641eebc7e69177c67f6f5dbb4fb4"), looks := false }, kinds := [], alts := [], laidByText := true, laidKinds := [.data, .data, .data], laidTests := true, laidLooks := .later }
def BondsCardSaid : Prop := Claim7.holds Tryz.pinned (.plain (OpenSpec.ofChange bondsSpec)) bondsCard

/-- THE TIED CARD OF 'stakinglaw.Pays'. -/
def paysCard : Claim7 := { stood := { row := paysRow, standIns := [], harness := (true, "7db2a6f2abcde45fa32b95342ddd17220d11641eebc7e69177c67f6f5dbb4fb4"), looks := false }, kinds := [], alts := [], laidByText := true, laidKinds := [.data, .data, .data], laidTests := true, laidLooks := .later }
def PaysCardSaid : Prop := Claim7.holds Tryz.pinned (.plain (OpenSpec.ofChange paysSpec)) paysCard

/-- THE TIED CARD OF 'stakinglaw.Slashes'. -/
def slashesCard : Claim7 := { stood := { row := slashesRow, standIns := [], harness := (true, "7db2a6f2abcde45fa32b95342ddd17220d11641eebc7e69177c67f6f5dbb4fb4"), looks := false }, kinds := [], alts := [], laidByText := true, laidKinds := [.data, .data, .data], laidTests := true, laidLooks := .later }
def SlashesCardSaid : Prop := Claim7.holds Tryz.pinned (.plain (OpenSpec.ofChange slashesSpec)) slashesCard

/-- THE TIED CARD OF 'stakinglaw.All'. -/
def allCard : Claim7 := { stood := { row := allRow, standIns := [], harness := (true, "7db2a6f2abcde45fa32b95342ddd17220d11641eebc7e69177c67f6f5dbb4fb4"), looks := false }, kinds := [], alts := [], laidByText := true, laidKinds := [.data, .data, .data], laidTests := true, laidLooks := .later }
def AllCardSaid : Prop := Claim7.holds Tryz.pinned (.plain (OpenSpec.ofChange allSpec)) allCard

/-- THE SECOND FORM's CARD OF 'stakinglaw.Begins'. -/
def beginsUptoCard : Claim7 := { stood := { row := beginsUptoRow, standIns := [], harness := (true, "7db2a6f2abcde45fa32b95342ddd17220d11641eebc7e69177c67f6f5dbb4fb4"), looks := false }, kinds := [], alts := [], laidByText := true, laidKinds := [.data, .data, .data], laidTests := true, laidLooks := .later }
def BeginsUptoCardSaid : Prop := Claim7.holds Tryz.pinned (.plain (OpenSpec.upto beginsSpec)) beginsUptoCard

/-- THE SECOND FORM's CARD OF 'stakinglaw.Sends'. -/
def sendsUptoCard : Claim7 := { stood := { row := sendsUptoRow, standIns := [], harness := (true, "7db2a6f2abcde45fa32b95342ddd17220d11641eebc7e69177c67f6f5dbb4fb4"), looks := false }, kinds := [], alts := [], laidByText := true, laidKinds := [.data, .data, .data], laidTests := true, laidLooks := .later }
def SendsUptoCardSaid : Prop := Claim7.holds Tryz.pinned (.plain (OpenSpec.upto sendsSpec)) sendsUptoCard

/-- THE SECOND FORM's CARD OF 'stakinglaw.Bonds'. -/
def bondsUptoCard : Claim7 := { stood := { row := bondsUptoRow, standIns := [], harness := (true, "7db2a6f2abcde45fa32b95342ddd17220d11641eebc7e69177c67f6f5dbb4fb4"), looks := false }, kinds := [], alts := [], laidByText := true, laidKinds := [.data, .data, .data], laidTests := true, laidLooks := .later }
def BondsUptoCardSaid : Prop := Claim7.holds Tryz.pinned (.plain (OpenSpec.upto bondsSpec)) bondsUptoCard

/-- THE SECOND FORM's CARD OF 'stakinglaw.Pays'. -/
def paysUptoCard : Claim7 := { stood := { row := paysUptoRow, standIns := [], harness := (true, "7db2a6f2abcde45fa32b95342ddd17220d11641eebc7e69177c67f6f5dbb4fb4"), looks := false }, kinds := [], alts := [], laidByText := true, laidKinds := [.data, .data, .data], laidTests := true, laidLooks := .later }
def PaysUptoCardSaid : Prop := Claim7.holds Tryz.pinned (.plain (OpenSpec.upto paysSpec)) paysUptoCard

/-- THE SECOND FORM's CARD OF 'stakinglaw.Slashes'. -/
def slashesUptoCard : Claim7 := { stood := { row := slashesUptoRow, standIns := [], harness := (true, "7db2a6f2abcde45fa32b95342ddd17220d11641eebc7e69177c67f6f5dbb4fb4"), looks := false }, kinds := [], alts := [], laidByText := true, laidKinds := [.data, .data, .data], laidTests := true, laidLooks := .later }
def SlashesUptoCardSaid : Prop := Claim7.holds Tryz.pinned (.plain (OpenSpec.upto slashesSpec)) slashesUptoCard

/-- THE SECOND FORM's CARD OF 'stakinglaw.All'. -/
def allUptoCard : Claim7 := { stood := { row := allUptoRow, standIns := [], harness := (true, "7db2a6f2abcde45fa32b95342ddd17220d11641eebc7e69177c67f6f5dbb4fb4"), looks := false }, kinds := [], alts := [], laidByText := true, laidKinds := [.data, .data, .data], laidTests := true, laidLooks := .later }
def AllUptoCardSaid : Prop := Claim7.holds Tryz.pinned (.plain (OpenSpec.upto allSpec)) allUptoCard
end Rows
end Go.Proofs.YtohjjgefklhmaaaGreatDoor
