/-
  DERIVED. GIVEN WITH THE SEED: THE CARDS: each row of YtegjeijiekggdaaGreatDoorRows.lean that lists a variable, with what it lists TIED to the program's text (the seventh form; the later family's looks); each row that meets fmt, with fmt's text TOLD by the authors' own Lean function (tested against real Go, not proved from fmt's source: count such statements apart). THE CARD IS WHAT COUNTS. Prove the row's statement (the work); the ties are given (YtegjeijiekggdaaGreatDoorTie.lean); close each card by the builder's one call (the guide's Derived/Test/ToyasCard.lean, 'card_holds'). Laid BY PROGRAM, IN A SANDBOX (cutbox-door.mjs). By AI agents, Wed Nov 11 2026. No macro, syntax, notation, axiom, sorry.
-/
import Derived.Test.YtegjeijiekggdaaGreatDoorRows
import GoSem.ClaimSeven
namespace Go.Proofs.YtegjeijiekggdaaGreatDoor
namespace Rows

/-- THE TIED CARD OF 'fasciclelaw07.StorePlays'. -/
def storePlaysCard : Claim7 := { stood := { row := storePlaysRow, standIns := [], harness := (true, "87c400e9a875d8f09e90d994a6227dd961d7be556afac1fe58f07ecc56b8673e"), looks := true }, kinds := [], alts := [], laidByText := true, laidKinds := [.data], laidTests := true, laidLooks := .later }
def StorePlaysCardSaid : Prop := Claim7.holds Tryz.pinned (.plain (OpenSpec.ofChange storePlaysSpec)) storePlaysCard

/-- THE TIED CARD OF 'fasciclelaw07.StoreForks'. -/
def storeForksCard : Claim7 := { stood := { row := storeForksRow, standIns := [], harness := (true, "87c400e9a875d8f09e90d994a6227dd961d7be556afac1fe58f07ecc56b8673e"), looks := true }, kinds := [], alts := [], laidByText := true, laidKinds := [.data], laidTests := true, laidLooks := .later }
def StoreForksCardSaid : Prop := Claim7.holds Tryz.pinned (.plain (OpenSpec.ofChange storeForksSpec)) storeForksCard

/-- THE TIED CARD OF 'fasciclelaw07.StoreKeeps'. -/
def storeKeepsCard : Claim7 := { stood := { row := storeKeepsRow, standIns := [], harness := (true, "87c400e9a875d8f09e90d994a6227dd961d7be556afac1fe58f07ecc56b8673e"), looks := true }, kinds := [], alts := [], laidByText := true, laidKinds := [.data], laidTests := true, laidLooks := .later }
def StoreKeepsCardSaid : Prop := Claim7.holds Tryz.pinned (.plain (OpenSpec.ofChange storeKeepsSpec)) storeKeepsCard

/-- THE TIED CARD OF 'fasciclelaw07.StoreGives'. -/
def storeGivesCard : Claim7 := { stood := { row := storeGivesRow, standIns := [], harness := (true, "87c400e9a875d8f09e90d994a6227dd961d7be556afac1fe58f07ecc56b8673e"), looks := true }, kinds := [], alts := [], laidByText := true, laidKinds := [.data], laidTests := true, laidLooks := .later }
def StoreGivesCardSaid : Prop := Claim7.holds Tryz.pinned (.plain (OpenSpec.ofChange storeGivesSpec)) storeGivesCard

/-- THE SECOND FORM's CARD OF 'fasciclelaw07.StorePlays'. -/
def storePlaysUptoCard : Claim7 := { stood := { row := storePlaysUptoRow, standIns := [], harness := (true, "87c400e9a875d8f09e90d994a6227dd961d7be556afac1fe58f07ecc56b8673e"), looks := true }, kinds := [], alts := [], laidByText := true, laidKinds := [.data], laidTests := true, laidLooks := .later }
def StorePlaysUptoCardSaid : Prop := Claim7.holds Tryz.pinned (.plain (OpenSpec.upto storePlaysSpec)) storePlaysUptoCard

/-- THE SECOND FORM's CARD OF 'fasciclelaw07.StoreForks'. -/
def storeForksUptoCard : Claim7 := { stood := { row := storeForksUptoRow, standIns := [], harness := (true, "87c400e9a875d8f09e90d994a6227dd961d7be556afac1fe58f07ecc56b8673e"), looks := true }, kinds := [], alts := [], laidByText := true, laidKinds := [.data], laidTests := true, laidLooks := .later }
def StoreForksUptoCardSaid : Prop := Claim7.holds Tryz.pinned (.plain (OpenSpec.upto storeForksSpec)) storeForksUptoCard

/-- THE SECOND FORM's CARD OF 'fasciclelaw07.StoreKeeps'. -/
def storeKeepsUptoCard : Claim7 := { stood := { row := storeKeepsUptoRow, standIns := [], harness := (true, "87c400e9a875d8f09e90d994a6227dd961d7be556afac1fe58f07ecc56b8673e"), looks := true }, kinds := [], alts := [], laidByText := true, laidKinds := [.data], laidTests := true, laidLooks := .later }
def StoreKeepsUptoCardSaid : Prop := Claim7.holds Tryz.pinned (.plain (OpenSpec.upto storeKeepsSpec)) storeKeepsUptoCard

/-- THE SECOND FORM's CARD OF 'fasciclelaw07.StoreGives'. -/
def storeGivesUptoCard : Claim7 := { stood := { row := storeGivesUptoRow, standIns := [], harness := (true, "87c400e9a875d8f09e90d994a6227dd961d7be556afac1fe58f07ecc56b8673e"), looks := true }, kinds := [], alts := [], laidByText := true, laidKinds := [.data], laidTests := true, laidLooks := .later }
def StoreGivesUptoCardSaid : Prop := Claim7.holds Tryz.pinned (.plain (OpenSpec.upto storeGivesSpec)) storeGivesUptoCard
end Rows
end Go.Proofs.YtegjeijiekggdaaGreatDoor
