/-
  DERIVED. GIVEN WITH THE SEED: THE CARDS: each row of YtmfjhnfhpcpfeaaGreatDoorRows.lean that lists a variable, with what it lists TIED to the program's text (the seventh form; the later family's looks); each row that meets fmt, with fmt's text TOLD by the authors' own Lean function (tested against real Go, not proved from fmt's source: count such statements apart). THE CARD IS WHAT COUNTS. Prove the row's statement (the work); the ties are given (YtmfjhnfhpcpfeaaGreatDoorTie.lean); close each card by the builder's one call (the guide's Derived/Test/ToyasCard.lean, 'card_holds'). Laid BY PROGRAM, IN A SANDBOX (cutbox-door.mjs). By AI agents, Wed Nov 11 2026. No macro, syntax, notation, axiom, sorry.
-/
import Derived.Test.YtmfjhnfhpcpfeaaGreatDoorRows
import GoSem.ClaimSeven
namespace Go.Proofs.YtmfjhnfhpcpfeaaGreatDoor
namespace Rows

/-- THE TIED CARD OF 'hoardlaw06.ArrayCosts'. -/
def arrayCostsCard : Claim7 := { stood := { row := arrayCostsRow, standIns := [], harness := (true, "beda93136397a0d696d85bc40d9691a275a3cac09b3bebdcd955a0d7fa1c335d"), looks := false }, kinds := [], alts := [], laidByText := true, laidKinds := [.data], laidTests := true, laidLooks := .later }
def ArrayCostsCardSaid : Prop := Claim7.holds Tryz.pinned (.plain (OpenSpec.ofChange arrayCostsSpec)) arrayCostsCard

/-- THE TIED CARD OF 'hoardlaw06.ArrayApart'. -/
def arrayApartCard : Claim7 := { stood := { row := arrayApartRow, standIns := [], harness := (true, "beda93136397a0d696d85bc40d9691a275a3cac09b3bebdcd955a0d7fa1c335d"), looks := false }, kinds := [], alts := [], laidByText := true, laidKinds := [.data], laidTests := true, laidLooks := .later }
def ArrayApartCardSaid : Prop := Claim7.holds Tryz.pinned (.plain (OpenSpec.ofChange arrayApartSpec)) arrayApartCard

/-- THE TIED CARD OF 'hoardlaw06.ArrayFour'. -/
def arrayFourCard : Claim7 := { stood := { row := arrayFourRow, standIns := [], harness := (true, "beda93136397a0d696d85bc40d9691a275a3cac09b3bebdcd955a0d7fa1c335d"), looks := false }, kinds := [], alts := [], laidByText := true, laidKinds := [.data], laidTests := true, laidLooks := .later }
def ArrayFourCardSaid : Prop := Claim7.holds Tryz.pinned (.plain (OpenSpec.ofChange arrayFourSpec)) arrayFourCard

/-- THE TIED CARD OF 'hoardlaw06.ArrayTails'. -/
def arrayTailsCard : Claim7 := { stood := { row := arrayTailsRow, standIns := [], harness := (true, "beda93136397a0d696d85bc40d9691a275a3cac09b3bebdcd955a0d7fa1c335d"), looks := false }, kinds := [], alts := [], laidByText := true, laidKinds := [.data], laidTests := true, laidLooks := .later }
def ArrayTailsCardSaid : Prop := Claim7.holds Tryz.pinned (.plain (OpenSpec.ofChange arrayTailsSpec)) arrayTailsCard

/-- THE TIED CARD OF 'hoardlaw06.ArrayHonest'. -/
def arrayHonestCard : Claim7 := { stood := { row := arrayHonestRow, standIns := [], harness := (true, "beda93136397a0d696d85bc40d9691a275a3cac09b3bebdcd955a0d7fa1c335d"), looks := false }, kinds := [], alts := [], laidByText := true, laidKinds := [.data], laidTests := true, laidLooks := .later }
def ArrayHonestCardSaid : Prop := Claim7.holds Tryz.pinned (.plain (OpenSpec.ofChange arrayHonestSpec)) arrayHonestCard

/-- THE TIED CARD OF 'hoardlaw06.ArrayStands'. -/
def arrayStandsCard : Claim7 := { stood := { row := arrayStandsRow, standIns := [], harness := (true, "beda93136397a0d696d85bc40d9691a275a3cac09b3bebdcd955a0d7fa1c335d"), looks := false }, kinds := [], alts := [], laidByText := true, laidKinds := [.data], laidTests := true, laidLooks := .later }
def ArrayStandsCardSaid : Prop := Claim7.holds Tryz.pinned (.plain (OpenSpec.ofChange arrayStandsSpec)) arrayStandsCard

/-- THE SECOND FORM's CARD OF 'hoardlaw06.ArrayCosts'. -/
def arrayCostsUptoCard : Claim7 := { stood := { row := arrayCostsUptoRow, standIns := [], harness := (true, "beda93136397a0d696d85bc40d9691a275a3cac09b3bebdcd955a0d7fa1c335d"), looks := false }, kinds := [], alts := [], laidByText := true, laidKinds := [.data], laidTests := true, laidLooks := .later }
def ArrayCostsUptoCardSaid : Prop := Claim7.holds Tryz.pinned (.plain (OpenSpec.upto arrayCostsSpec)) arrayCostsUptoCard

/-- THE SECOND FORM's CARD OF 'hoardlaw06.ArrayApart'. -/
def arrayApartUptoCard : Claim7 := { stood := { row := arrayApartUptoRow, standIns := [], harness := (true, "beda93136397a0d696d85bc40d9691a275a3cac09b3bebdcd955a0d7fa1c335d"), looks := false }, kinds := [], alts := [], laidByText := true, laidKinds := [.data], laidTests := true, laidLooks := .later }
def ArrayApartUptoCardSaid : Prop := Claim7.holds Tryz.pinned (.plain (OpenSpec.upto arrayApartSpec)) arrayApartUptoCard

/-- THE SECOND FORM's CARD OF 'hoardlaw06.ArrayFour'. -/
def arrayFourUptoCard : Claim7 := { stood := { row := arrayFourUptoRow, standIns := [], harness := (true, "beda93136397a0d696d85bc40d9691a275a3cac09b3bebdcd955a0d7fa1c335d"), looks := false }, kinds := [], alts := [], laidByText := true, laidKinds := [.data], laidTests := true, laidLooks := .later }
def ArrayFourUptoCardSaid : Prop := Claim7.holds Tryz.pinned (.plain (OpenSpec.upto arrayFourSpec)) arrayFourUptoCard

/-- THE SECOND FORM's CARD OF 'hoardlaw06.ArrayTails'. -/
def arrayTailsUptoCard : Claim7 := { stood := { row := arrayTailsUptoRow, standIns := [], harness := (true, "beda93136397a0d696d85bc40d9691a275a3cac09b3bebdcd955a0d7fa1c335d"), looks := false }, kinds := [], alts := [], laidByText := true, laidKinds := [.data], laidTests := true, laidLooks := .later }
def ArrayTailsUptoCardSaid : Prop := Claim7.holds Tryz.pinned (.plain (OpenSpec.upto arrayTailsSpec)) arrayTailsUptoCard

/-- THE SECOND FORM's CARD OF 'hoardlaw06.ArrayHonest'. -/
def arrayHonestUptoCard : Claim7 := { stood := { row := arrayHonestUptoRow, standIns := [], harness := (true, "beda93136397a0d696d85bc40d9691a275a3cac09b3bebdcd955a0d7fa1c335d"), looks := false }, kinds := [], alts := [], laidByText := true, laidKinds := [.data], laidTests := true, laidLooks := .later }
def ArrayHonestUptoCardSaid : Prop := Claim7.holds Tryz.pinned (.plain (OpenSpec.upto arrayHonestSpec)) arrayHonestUptoCard

/-- THE SECOND FORM's CARD OF 'hoardlaw06.ArrayStands'. -/
def arrayStandsUptoCard : Claim7 := { stood := { row := arrayStandsUptoRow, standIns := [], harness := (true, "beda93136397a0d696d85bc40d9691a275a3cac09b3bebdcd955a0d7fa1c335d"), looks := false }, kinds := [], alts := [], laidByText := true, laidKinds := [.data], laidTests := true, laidLooks := .later }
def ArrayStandsUptoCardSaid : Prop := Claim7.holds Tryz.pinned (.plain (OpenSpec.upto arrayStandsSpec)) arrayStandsUptoCard
end Rows
end Go.Proofs.YtmfjhnfhpcpfeaaGreatDoor
