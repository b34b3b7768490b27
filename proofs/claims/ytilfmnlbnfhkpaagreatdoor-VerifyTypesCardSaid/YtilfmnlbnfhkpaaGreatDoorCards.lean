/-
  DERIVED. GIVEN WITH THE SEED: THE CARDS: each row of YtilfmnlbnfhkpaaGreatDoorRows.lean that lists a variable, with what it lists TIED to the program's text (the seventh form; the later family's looks); each row that meets fmt, with fmt's text TOLD by the authors' own Lean function (tested against real Go, not proved from fmt's source: count such statements apart). THE CARD IS WHAT COUNTS. Prove the row's statement (the work); the ties are given (YtilfmnlbnfhkpaaGreatDoorTie.lean); close each card by the builder's one call (the guide's Derived/Test/ToyasCard.lean, 'card_holds'). Laid BY PROGRAM, IN A SANDBOX (cutbox-door.mjs). By AI agents, Wed Nov 11 2026. No macro, syntax, notation, axiom, sorry.
-/
import Derived.Test.YtilfmnlbnfhkpaaGreatDoorRows
import GoSem.ClaimSeven
namespace Go.Proofs.YtilfmnlbnfhkpaaGreatDoor
namespace Rows

/-- THE TIED CARD OF 'bellowslaw05.VerifyTypes'. -/
def verifyTypesCard : Claim7 := { stood := { row := verifyTypesRow, standIns := [], harness := (true, "4d3416d1b771a3a53cb11f56060fd3545fe52b3e1d9ba849dfdec95d2890e7a9"), looks := true }, kinds := [], alts := [], laidByText := true, laidKinds := [.data], laidTests := true, laidLooks := .later }
def VerifyTypesCardSaid : Prop := Claim7.holds Tryz.pinned (.plain (OpenSpec.ofChange verifyTypesSpec)) verifyTypesCard

/-- THE TIED CARD OF 'bellowslaw05.VerifyOrder'. -/
def verifyOrderCard : Claim7 := { stood := { row := verifyOrderRow, standIns := [], harness := (true, "4d3416d1b771a3a53cb11f56060fd3545fe52b3e1d9ba849dfdec95d2890e7a9"), looks := true }, kinds := [], alts := [], laidByText := true, laidKinds := [.data], laidTests := true, laidLooks := .later }
def VerifyOrderCardSaid : Prop := Claim7.holds Tryz.pinned (.plain (OpenSpec.ofChange verifyOrderSpec)) verifyOrderCard

/-- THE TIED CARD OF 'bellowslaw05.VerifyImages'. -/
def verifyImagesCard : Claim7 := { stood := { row := verifyImagesRow, standIns := [], harness := (true, "4d3416d1b771a3a53cb11f56060fd3545fe52b3e1d9ba849dfdec95d2890e7a9"), looks := true }, kinds := [], alts := [], laidByText := true, laidKinds := [.data], laidTests := true, laidLooks := .later }
def VerifyImagesCardSaid : Prop := Claim7.holds Tryz.pinned (.plain (OpenSpec.ofChange verifyImagesSpec)) verifyImagesCard

/-- THE TIED CARD OF 'bellowslaw05.VerifyInstr'. -/
def verifyInstrCard : Claim7 := { stood := { row := verifyInstrRow, standIns := [], harness := (true, "4d3416d1b771a3a53cb11f56060fd3545fe52b3e1d9ba849dfdec95d2890e7a9"), looks := true }, kinds := [], alts := [], laidByText := true, laidKinds := [.data], laidTests := true, laidLooks := .later }
def VerifyInstrCardSaid : Prop := Claim7.holds Tryz.pinned (.plain (OpenSpec.ofChange verifyInstrSpec)) verifyInstrCard

/-- THE TIED CARD OF 'bellowslaw05.VerifyLive'. -/
def verifyLiveCard : Claim7 := { stood := { row := verifyLiveRow, standIns := [], harness := (true, "4d3416d1b771a3a53cb11f56060fd3545fe52b3e1d9ba849dfdec95d2890e7a9"), looks := true }, kinds := [], alts := [], laidByText := true, laidKinds := [.data], laidTests := true, laidLooks := .later }
def VerifyLiveCardSaid : Prop := Claim7.holds Tryz.pinned (.plain (OpenSpec.ofChange verifyLiveSpec)) verifyLiveCard

/-- THE TIED CARD OF 'bellowslaw05.VerifySwitch'. -/
def verifySwitchCard : Claim7 := { stood := { row := verifySwitchRow, standIns := [], harness := (true, "4d3416d1b771a3a53cb11f56060fd3545fe52b3e1d9ba849dfdec95d2890e7a9"), looks := true }, kinds := [], alts := [], laidByText := true, laidKinds := [.data], laidTests := true, laidLooks := .later }
def VerifySwitchCardSaid : Prop := Claim7.holds Tryz.pinned (.plain (OpenSpec.ofChange verifySwitchSpec)) verifySwitchCard

/-- THE TIED CARD OF 'bellowslaw05.VerifyReturns'. -/
def verifyReturnsCard : Claim7 := { stood := { row := verifyReturnsRow, standIns := [], harness := (true, "4d3416d1b771a3a53cb11f56060fd3545fe52b3e1d9ba849dfdec95d2890e7a9"), looks := true }, kinds := [], alts := [], laidByText := true, laidKinds := [.data], laidTests := true, laidLooks := .later }
def VerifyReturnsCardSaid : Prop := Claim7.holds Tryz.pinned (.plain (OpenSpec.ofChange verifyReturnsSpec)) verifyReturnsCard

/-- THE SECOND FORM's CARD OF 'bellowslaw05.VerifyTypes'. -/
def verifyTypesUptoCard : Claim7 := { stood := { row := verifyTypesUptoRow, standIns := [], harness := (true, "4d3416d1b771a3a53cb11f56060fd3545fe52b3e1d9ba849dfdec95d2890e7a9"), looks := true }, kinds := [], alts := [], laidByText := true, laidKinds := [.data], laidTests := true, laidLooks := .later }
def VerifyTypesUptoCardSaid : Prop := Claim7.holds Tryz.pinned (.plain (OpenSpec.upto verifyTypesSpec)) verifyTypesUptoCard

/-- THE SECOND FORM's CARD OF 'bellowslaw05.VerifyOrder'. -/
def verifyOrderUptoCard : Claim7 := { stood := { row := verifyOrderUptoRow, standIns := [], harness := (true, "4d3416d1b771a3a53cb11f56060fd3545fe52b3e1d9ba849dfdec95d2890e7a9"), looks := true }, kinds := [], alts := [], laidByText := true, laidKinds := [.data], laidTests := true, laidLooks := .later }
def VerifyOrderUptoCardSaid : Prop := Claim7.holds Tryz.pinned (.plain (OpenSpec.upto verifyOrderSpec)) verifyOrderUptoCard

/-- THE SECOND FORM's CARD OF 'bellowslaw05.VerifyImages'. -/
def verifyImagesUptoCard : Claim7 := { stood := { row := verifyImagesUptoRow, standIns := [], harness := (true, "4d3416d1b771a3a53cb11f56060fd3545fe52b3e1d9ba849dfdec95d2890e7a9"), looks := true }, kinds := [], alts := [], laidByText := true, laidKinds := [.data], laidTests := true, laidLooks := .later }
def VerifyImagesUptoCardSaid : Prop := Claim7.holds Tryz.pinned (.plain (OpenSpec.upto verifyImagesSpec)) verifyImagesUptoCard

/-- THE SECOND FORM's CARD OF 'bellowslaw05.VerifyInstr'. -/
def verifyInstrUptoCard : Claim7 := { stood := { row := verifyInstrUptoRow, standIns := [], harness := (true, "4d3416d1b771a3a53cb11f56060fd3545fe52b3e1d9ba849dfdec95d2890e7a9"), looks := true }, kinds := [], alts := [], laidByText := true, laidKinds := [.data], laidTests := true, laidLooks := .later }
def VerifyInstrUptoCardSaid : Prop := Claim7.holds Tryz.pinned (.plain (OpenSpec.upto verifyInstrSpec)) verifyInstrUptoCard

/-- THE SECOND FORM's CARD OF 'bellowslaw05.VerifyLive'. -/
def verifyLiveUptoCard : Claim7 := { stood := { row := verifyLiveUptoRow, standIns := [], harness := (true, "4d3416d1b771a3a53cb11f56060fd3545fe52b3e1d9ba849dfdec95d2890e7a9"), looks := true }, kinds := [], alts := [], laidByText := true, laidKinds := [.data], laidTests := true, laidLooks := .later }
def VerifyLiveUptoCardSaid : Prop := Claim7.holds Tryz.pinned (.plain (OpenSpec.upto verifyLiveSpec)) verifyLiveUptoCard

/-- THE SECOND FORM's CARD OF 'bellowslaw05.VerifySwitch'. -/
def verifySwitchUptoCard : Claim7 := { stood := { row := verifySwitchUptoRow, standIns := [], harness := (true, "4d3416d1b771a3a53cb11f56060fd3545fe52b3e1d9ba849dfdec95d2890e7a9"), looks := true }, kinds := [], alts := [], laidByText := true, laidKinds := [.data], laidTests := true, laidLooks := .later }
def VerifySwitchUptoCardSaid : Prop := Claim7.holds Tryz.pinned (.plain (OpenSpec.upto verifySwitchSpec)) verifySwitchUptoCard

/-- THE SECOND FORM's CARD OF 'bellowslaw05.VerifyReturns'. -/
def verifyReturnsUptoCard : Claim7 := { stood := { row := verifyReturnsUptoRow, standIns := [], harness := (true, "4d3416d1b771a3a53cb11f56060fd3545fe52b3e1d9ba849dfdec95d2890e7a9"), looks := true }, kinds := [], alts := [], laidByText := true, laidKinds := [.data], laidTests := true, laidLooks := .later }
def VerifyReturnsUptoCardSaid : Prop := Claim7.holds Tryz.pinned (.plain (OpenSpec.upto verifyReturnsSpec)) verifyReturnsUptoCard
end Rows
end Go.Proofs.YtilfmnlbnfhkpaaGreatDoor
