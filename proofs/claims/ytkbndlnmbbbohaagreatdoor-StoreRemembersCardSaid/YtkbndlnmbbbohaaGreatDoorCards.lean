/-
  DERIVED. GIVEN WITH THE SEED: THE CARDS: each row of YtkbndlnmbbbohaaGreatDoorRows.lean that lists a variable, with what it lists TIED to the program's text (the seventh form; the later family's looks); each row that meets fmt, with fmt's text TOLD by the authors' own Lean function (tested against real Go, not proved from fmt's source: count such statements apart). THE CARD IS WHAT COUNTS. Prove the row's statement (the work); the ties are given (YtkbndlnmbbbohaaGreatDoorTie.lean); close each card by the builder's one call (the guide's Derived/Test/ToyasCard.lean, 'card_holds'). Laid BY PROGRAM, IN A SANDBOX (cutbox-door.mjs). By AI agents, Wed Nov 11 2026. No macro, syntax, notation, axiom, sorry.
-/
import Derived.Test.YtkbndlnmbbbohaaGreatDoorRows
import GoSem.ClaimSeven
namespace Go.Proofs.YtkbndlnmbbbohaaGreatDoor
namespace Rows

/-- THE TIED CARD OF 'hoardlaw09.StoreApart'. -/
def storeApartCard : Claim7 := { stood := { row := storeApartRow, standIns := [], harness := (true, "db575ac9736d9f812a296491fbbb57d128189ad37fcce7018cd93d8e867dc63e"), looks := false }, kinds := [], alts := [], laidByText := true, laidKinds := [.data], laidTests := true, laidLooks := .later }
def StoreApartCardSaid : Prop := Claim7.holds Tryz.pinned (.plain (OpenSpec.ofChange storeApartSpec)) storeApartCard

/-- THE TIED CARD OF 'hoardlaw09.StoreRemembers'. -/
def storeRemembersCard : Claim7 := { stood := { row := storeRemembersRow, standIns := [], harness := (true, "db575ac9736d9f812a296491fbbb57d128189ad37fcce7018cd93d8e867dc63e"), looks := false }, kinds := [], alts := [], laidByText := true, laidKinds := [.data], laidTests := true, laidLooks := .later }
def StoreRemembersCardSaid : Prop := Claim7.holds Tryz.pinned (.plain (OpenSpec.ofChange storeRemembersSpec)) storeRemembersCard

/-- THE TIED CARD OF 'hoardlaw09.StoreBirths'. -/
def storeBirthsCard : Claim7 := { stood := { row := storeBirthsRow, standIns := [], harness := (true, "db575ac9736d9f812a296491fbbb57d128189ad37fcce7018cd93d8e867dc63e"), looks := false }, kinds := [], alts := [], laidByText := true, laidKinds := [.data], laidTests := true, laidLooks := .later }
def StoreBirthsCardSaid : Prop := Claim7.holds Tryz.pinned (.plain (OpenSpec.ofChange storeBirthsSpec)) storeBirthsCard

/-- THE SECOND FORM's CARD OF 'hoardlaw09.StoreApart'. -/
def storeApartUptoCard : Claim7 := { stood := { row := storeApartUptoRow, standIns := [], harness := (true, "db575ac9736d9f812a296491fbbb57d128189ad37fcce7018cd93d8e867dc63e"), looks := false }, kinds := [], alts := [], laidByText := true, laidKinds := [.data], laidTests := true, laidLooks := .later }
def StoreApartUptoCardSaid : Prop := Claim7.holds Tryz.pinned (.plain (OpenSpec.upto storeApartSpec)) storeApartUptoCard

/-- THE SECOND FORM's CARD OF 'hoardlaw09.StoreRemembers'. -/
def storeRemembersUptoCard : Claim7 := { stood := { row := storeRemembersUptoRow, standIns := [], harness := (true, "db575ac9736d9f812a296491fbbb57d128189ad37fcce7018cd93d8e867dc63e"), looks := false }, kinds := [], alts := [], laidByText := true, laidKinds := [.data], laidTests := true, laidLooks := .later }
def StoreRemembersUptoCardSaid : Prop := Claim7.holds Tryz.pinned (.plain (OpenSpec.upto storeRemembersSpec)) storeRemembersUptoCard

/-- THE SECOND FORM's CARD OF 'hoardlaw09.StoreBirths'. -/
def storeBirthsUptoCard : Claim7 := { stood := { row := storeBirthsUptoRow, standIns := [], harness := (true, "db575ac9736d9f812a296491fbbb57d128189ad37fcce7018cd93d8e867dc63e"), looks := false }, kinds := [], alts := [], laidByText := true, laidKinds := [.data], laidTests := true, laidLooks := .later }
def StoreBirthsUptoCardSaid : Prop := Claim7.holds Tryz.pinned (.plain (OpenSpec.upto storeBirthsSpec)) storeBirthsUptoCard
end Rows
end Go.Proofs.YtkbndlnmbbbohaaGreatDoor
