/-
  DERIVED. GIVEN WITH THE SEED: THE CARDS: each row of YtglalgjffkoneaaGreatDoorRows.lean that lists a variable, with what it lists TIED to the program's text (the seventh form; the later family's looks); each row that meets fmt, with fmt's text TOLD by the authors' own Lean function (tested against real Go, not proved from fmt's source: count such statements apart). THE CARD IS WHAT COUNTS. Prove the row's statement (the work); the ties are given (YtglalgjffkoneaaGreatDoorTie.lean); close each card by the builder's one call (the guide's Derived/Test/ToyasCard.lean, 'card_holds'). Laid BY PROGRAM, IN A SANDBOX (cutbox-door.mjs). By AI agents, Wed Nov 11 2026. No macro, syntax, notation, axiom, sorry.
-/
import Derived.Test.YtglalgjffkoneaaGreatDoorRows
import GoSem.ClaimSeven
namespace Go.Proofs.YtglalgjffkoneaaGreatDoor
namespace Rows

/-- THE TIED CARD OF 'bellowslaw05.VerifyImages'. -/
def verifyImagesCard : Claim7 := { stood := { row := verifyImagesRow, standIns := [], harness := (true, "59284f793cb0f8316d96daf13043ee234d21f87c1551fb7a3ffcc3b6a9a645ca"), looks := true }, kinds := [], alts := [], laidByText := true, laidKinds := [.data], laidTests := true, laidLooks := .later }
def VerifyImagesCardSaid : Prop := Claim7.holds Tryz.pinned (.plain (OpenSpec.ofChange verifyImagesSpec)) verifyImagesCard

/-- THE TIED CARD OF 'bellowslaw05.VerifyInstr'. -/
def verifyInstrCard : Claim7 := { stood := { row := verifyInstrRow, standIns := [], harness := (true, "59284f793cb0f8316d96daf13043ee234d21f87c1551fb7a3ffcc3b6a9a645ca"), looks := true }, kinds := [], alts := [], laidByText := true, laidKinds := [.data], laidTests := true, laidLooks := .later }
def VerifyInstrCardSaid : Prop := Claim7.holds Tryz.pinned (.plain (OpenSpec.ofChange verifyInstrSpec)) verifyInstrCard

/-- THE TIED CARD OF 'bellowslaw05.VerifyLive'. -/
def verifyLiveCard : Claim7 := { stood := { row := verifyLiveRow, standIns := [], harness := (true, "59284f793cb0f8316d96daf13043ee234d21f87c1551fb7a3ffcc3b6a9a645ca"), looks := true }, kinds := [], alts := [], laidByText := true, laidKinds := [.data], laidTests := true, laidLooks := .later }
def VerifyLiveCardSaid : Prop := Claim7.holds Tryz.pinned (.plain (OpenSpec.ofChange verifyLiveSpec)) verifyLiveCard

/-- THE TIED CARD OF 'bellowslaw05.VerifySwitch'. -/
def verifySwitchCard : Claim7 := { stood := { row := verifySwitchRow, standIns := [], harness := (true, "59284f793cb0f8316d96daf13043ee234d21f87c1551fb7a3ffcc3b6a9a645ca"), looks := true }, kinds := [], alts := [], laidByText := true, laidKinds := [.data], laidTests := true, laidLooks := .later }
def VerifySwitchCardSaid : Prop := Claim7.holds Tryz.pinned (.plain (OpenSpec.ofChange verifySwitchSpec)) verifySwitchCard

/-- THE TIED CARD OF 'bellowslaw05.VerifyReturns'. -/
def verifyReturnsCard : Claim7 := { stood := { row := verifyReturnsRow, standIns := [], harness := (true, "59284f793cb0f8316d96daf13043ee234d21f87c1551fb7a3ffcc3b6a9a645ca"), looks := true }, kinds := [], alts := [], laidByText := true, laidKinds := [.data], laidTests := true, laidLooks := .later }
def VerifyReturnsCardSaid : Prop := Claim7.holds Tryz.pinned (.plain (OpenSpec.ofChange verifyReturnsSpec)) verifyReturnsCard

/-- THE SECOND FORM's CARD OF 'bellowslaw05.VerifyImages'. -/
def verifyImagesUptoCard : Claim7 := { stood := { row := verifyImagesUptoRow, standIns := [], harness := (true, "59284f793cb0f8316d96daf13043ee234d21f87c1551fb7a3ffcc3b6a9a645ca"), looks := true }, kinds := [], alts := [], laidByText := true, laidKinds := [.data], laidTests := true, laidLooks := .later }
def VerifyImagesUptoCardSaid : Prop := Claim7.holds Tryz.pinned (.plain (OpenSpec.upto verifyImagesSpec)) verifyImagesUptoCard

/-- THE SECOND FORM's CARD OF 'bellowslaw05.VerifyInstr'. -/
def verifyInstrUptoCard : Claim7 := { stood := { row := verifyInstrUptoRow, standIns := [], harness := (true, "59284f793cb0f8316d96daf13043ee234d21f87c1551fb7a3ffcc3b6a9a645ca"), looks := true }, kinds := [], alts := [], laidByText := true, laidKinds := [.data], laidTests := true, laidLooks := .later }
def VerifyInstrUptoCardSaid : Prop := Claim7.holds Tryz.pinned (.plain (OpenSpec.upto verifyInstrSpec)) verifyInstrUptoCard

/-- THE SECOND FORM's CARD OF 'bellowslaw05.VerifyLive'. -/
def verifyLiveUptoCard : Claim7 := { stood := { row := verifyLiveUptoRow, standIns := [], harness := (true, "59284f793cb0f8316d96daf13043ee234d21f87c1551fb7a3ffcc3b6a9a645ca"), looks := true }, kinds := [], alts := [], laidByText := true, laidKinds := [.data], laidTests := true, laidLooks := .later }
def VerifyLiveUptoCardSaid : Prop := Claim7.holds Tryz.pinned (.plain (OpenSpec.upto verifyLiveSpec)) verifyLiveUptoCard

/-- THE SECOND FORM's CARD OF 'bellowslaw05.VerifySwitch'. -/
def verifySwitchUptoCard : Claim7 := { stood := { row := verifySwitchUptoRow, standIns := [], harness := (true, "59284f793cb0f8316d96daf13043ee234d21f87c1551fb7a3ffcc3b6a9a645ca"), looks := true }, kinds := [], alts := [], laidByText := true, laidKinds := [.data], laidTests := true, laidLooks := .later }
def VerifySwitchUptoCardSaid : Prop := Claim7.holds Tryz.pinned (.plain (OpenSpec.upto verifySwitchSpec)) verifySwitchUptoCard

/-- THE SECOND FORM's CARD OF 'bellowslaw05.VerifyReturns'. -/
def verifyReturnsUptoCard : Claim7 := { stood := { row := verifyReturnsUptoRow, standIns := [], harness := (true, "59284f793cb0f8316d96daf13043ee234d21f87c1551fb7a3ffcc3b6a9a645ca"), looks := true }, kinds := [], alts := [], laidByText := true, laidKinds := [.data], laidTests := true, laidLooks := .later }
def VerifyReturnsUptoCardSaid : Prop := Claim7.holds Tryz.pinned (.plain (OpenSpec.upto verifyReturnsSpec)) verifyReturnsUptoCard
end Rows
end Go.Proofs.YtglalgjffkoneaaGreatDoor
