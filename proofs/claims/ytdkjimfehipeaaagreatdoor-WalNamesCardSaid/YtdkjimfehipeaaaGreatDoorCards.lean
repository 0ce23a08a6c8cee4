/-
  DERIVED. GIVEN WITH THE SEED: THE CARDS: each row of YtdkjimfehipeaaaGreatDoorRows.lean that lists a variable, with what it lists TIED to the program's text (the seventh form; the later family's looks); each row that meets fmt, with fmt's text TOLD by the authors' own Lean function (tested against real Go, not proved from fmt's source: count such statements apart). THE CARD IS WHAT COUNTS. Prove the row's statement (the work); the ties are given (YtdkjimfehipeaaaGreatDoorTie.lean); close each card by the builder's one call (the guide's Derived/Test/ToyasCard.lean, 'card_holds'). Laid BY PROGRAM, IN A SANDBOX (cutbox-door.mjs). By AI agents, Wed Nov 11 2026. No macro, syntax, notation, axiom, sorry.
-/
import Derived.Test.YtdkjimfehipeaaaGreatDoorRows
import GoSem.ClaimSeven
namespace Go.Proofs.YtdkjimfehipeaaaGreatDoor
namespace Rows

/-- THE TIED CARD OF 'bullalaw04.WalFrames'. -/
def walFramesCard : Claim7 := { stood := { row := walFramesRow, standIns := [], harness := (true, "0fec2a51443b1fef6fd5493d02ca5677c791d6a1991a9bcdb9d0b11b211f3f4e"), looks := true }, kinds := [], alts := [], laidByText := true, laidKinds := [.data, .data, .data, .sentinel, .sentinel], laidTests := true, laidLooks := .later }
def WalFramesCardSaid : Prop := Claim7.holds Tryz.pinned (.plain (OpenSpec.ofChange walFramesSpec)) walFramesCard

/-- THE TIED CARD OF 'bullalaw04.WalSure'. -/
def walSureCard : Claim7 := { stood := { row := walSureRow, standIns := [], harness := (true, "0fec2a51443b1fef6fd5493d02ca5677c791d6a1991a9bcdb9d0b11b211f3f4e"), looks := true }, kinds := [], alts := [], laidByText := true, laidKinds := [.data, .data, .data, .sentinel, .sentinel], laidTests := true, laidLooks := .later }
def WalSureCardSaid : Prop := Claim7.holds Tryz.pinned (.plain (OpenSpec.ofChange walSureSpec)) walSureCard

/-- THE TIED CARD OF 'bullalaw04.WalDamage'. -/
def walDamageCard : Claim7 := { stood := { row := walDamageRow, standIns := [], harness := (true, "0fec2a51443b1fef6fd5493d02ca5677c791d6a1991a9bcdb9d0b11b211f3f4e"), looks := true }, kinds := [], alts := [], laidByText := true, laidKinds := [.data, .data, .data, .sentinel, .sentinel], laidTests := true, laidLooks := .later }
def WalDamageCardSaid : Prop := Claim7.holds Tryz.pinned (.plain (OpenSpec.ofChange walDamageSpec)) walDamageCard

/-- THE TIED CARD OF 'bullalaw04.WalBack'. -/
def walBackCard : Claim7 := { stood := { row := walBackRow, standIns := [], harness := (true, "0fec2a51443b1fef6fd5493d02ca5677c791d6a1991a9bcdb9d0b11b211f3f4e"), looks := true }, kinds := [], alts := [], laidByText := true, laidKinds := [.data, .data, .data, .sentinel, .sentinel], laidTests := true, laidLooks := .later }
def WalBackCardSaid : Prop := Claim7.holds Tryz.pinned (.plain (OpenSpec.ofChange walBackSpec)) walBackCard

/-- THE TIED CARD OF 'bullalaw04.WalNames'. -/
def walNamesCard : Claim7 := { stood := { row := walNamesRow, standIns := [], harness := (true, "0fec2a51443b1fef6fd5493d02ca5677c791d6a1991a9bcdb9d0b11b211f3f4e"), looks := true }, kinds := [], alts := [], laidByText := true, laidKinds := [.data, .data, .data, .sentinel, .sentinel], laidTests := true, laidLooks := .later }
def WalNamesCardSaid : Prop := Claim7.holds Tryz.pinned (.plain (OpenSpec.ofChange walNamesSpec)) walNamesCard

/-- THE SECOND FORM's CARD OF 'bullalaw04.WalFrames'. -/
def walFramesUptoCard : Claim7 := { stood := { row := walFramesUptoRow, standIns := [], harness := (true, "0fec2a51443b1fef6fd5493d02ca5677c791d6a1991a9bcdb9d0b11b211f3f4e"), looks := true }, kinds := [], alts := [], laidByText := true, laidKinds := [.data, .data, .data, .sentinel, .sentinel], laidTests := true, laidLooks := .later }
def WalFramesUptoCardSaid : Prop := Claim7.holds Tryz.pinned (.plain (OpenSpec.upto walFramesSpec)) walFramesUptoCard

/-- THE SECOND FORM's CARD OF 'bullalaw04.WalSure'. -/
def walSureUptoCard : Claim7 := { stood := { row := walSureUptoRow, standIns := [], harness := (true, "0fec2a51443b1fef6fd5493d02ca5677c791d6a1991a9bcdb9d0b11b211f3f4e"), looks := true }, kinds := [], alts := [], laidByText := true, laidKinds := [.data, .data, .data, .sentinel, .sentinel], laidTests := true, laidLooks := .later }
def WalSureUptoCardSaid : Prop := Claim7.holds Tryz.pinned (.plain (OpenSpec.upto walSureSpec)) walSureUptoCard

/-- THE SECOND FORM's CARD OF 'bullalaw04.WalDamage'. -/
def walDamageUptoCard : Claim7 := { stood := { row := walDamageUptoRow, standIns := [], harness := (true, "0fec2a51443b1fef6fd5493d02ca5677c791d6a1991a9bcdb9d0b11b211f3f4e"), looks := true }, kinds := [], alts := [], laidByText := true, laidKinds := [.data, .data, .data, .sentinel, .sentinel], laidTests := true, laidLooks := .later }
def WalDamageUptoCardSaid : Prop := Claim7.holds Tryz.pinned (.plain (OpenSpec.upto walDamageSpec)) walDamageUptoCard

/-- THE SECOND FORM's CARD OF 'bullalaw04.WalBack'. -/
def walBackUptoCard : Claim7 := { stood := { row := walBackUptoRow, standIns := [], harness := (true, "0fec2a51443b1fef6fd5493d02ca5677c791d6a1991a9bcdb9d0b11b211f3f4e"), looks := true }, kinds := [], alts := [], laidByText := true, laidKinds := [.data, .data, .data, .sentinel, .sentinel], laidTests := true, laidLooks := .later }
def WalBackUptoCardSaid : Prop := Claim7.holds Tryz.pinned (.plain (OpenSpec.upto walBackSpec)) walBackUptoCard

/-- THE SECOND FORM's CARD OF 'bullalaw04.WalNames'. -/
def walNamesUptoCard : Claim7 := { stood := { row := walNamesUptoRow, standIns := [], harness := (true, "0fec2a51443b1fef6fd5493d02ca5677c791d6a1991a9bcdb9d0b11b211f3f4e"), looks := true }, kinds := [], alts := [], laidByText := true, laidKinds := [.data, .data, .data, .sentinel, .sentinel], laidTests := true, laidLooks := .later }
def WalNamesUptoCardSaid : Prop := Claim7.holds Tryz.pinned (.plain (OpenSpec.upto walNamesSpec)) walNamesUptoCard
end Rows
end Go.Proofs.YtdkjimfehipeaaaGreatDoor
