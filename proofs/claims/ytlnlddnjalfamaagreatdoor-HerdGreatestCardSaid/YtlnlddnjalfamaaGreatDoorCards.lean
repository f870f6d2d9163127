/-
  DERIVED. GIVEN WITH THE SEED: THE CARDS: each row of YtlnlddnjalfamaaGreatDoorRows.lean that lists a variable, with what it lists TIED to the program's text (the seventh form; the later family's looks); each row that meets fmt, with fmt's text TOLD by the authors' own Lean function (tested against real Go, not proved from fmt's source: count such statements apart). THE CARD IS WHAT COUNTS. Prove the row's statement (the work); the ties are given (YtlnlddnjalfamaaGreatDoorTie.lean); close each card by the builder's one call (the guide's Derived/Test/ToyasCard.lean, 'card_holds'). Laid BY PROGRAM, IN A SANDBOX (cutbox-door.mjs). By AI agents, Wed Nov 11 2026. No macro, syntax, notation, axiom, sorry.
-/
import Derived.Test.YtlnlddnjalfamaaGreatDoorRows
import GoSem.ClaimSeven
namespace Go.Proofs.YtlnlddnjalfamaaGreatDoor
namespace Rows

/-- THE TIED CARD OF 'pritchellaw04.HerdGroups'. -/
def herdGroupsCard : Claim7 := { stood := { row := herdGroupsRow, standIns := [], harness := (true, "9131c6ad1db1294394276b0e4f422a9fe8ebced5af87f2a7c57bb67428f806d8"), looks := true }, kinds := [], alts := [], laidByText := true, laidKinds := [.data, .data, .data, .sentinel, .sentinel], laidTests := true, laidLooks := .later }
def HerdGroupsCardSaid : Prop := Claim7.holds Tryz.pinned (.plain (OpenSpec.ofChange herdGroupsSpec)) herdGroupsCard

/-- THE TIED CARD OF 'pritchellaw04.HerdShifts'. -/
def herdShiftsCard : Claim7 := { stood := { row := herdShiftsRow, standIns := [], harness := (true, "9131c6ad1db1294394276b0e4f422a9fe8ebced5af87f2a7c57bb67428f806d8"), looks := true }, kinds := [], alts := [], laidByText := true, laidKinds := [.data, .data, .data, .sentinel, .sentinel], laidTests := true, laidLooks := .later }
def HerdShiftsCardSaid : Prop := Claim7.holds Tryz.pinned (.plain (OpenSpec.ofChange herdShiftsSpec)) herdShiftsCard

/-- THE TIED CARD OF 'pritchellaw04.HerdGreatest'. -/
def herdGreatestCard : Claim7 := { stood := { row := herdGreatestRow, standIns := [], harness := (true, "9131c6ad1db1294394276b0e4f422a9fe8ebced5af87f2a7c57bb67428f806d8"), looks := true }, kinds := [], alts := [], laidByText := true, laidKinds := [.data, .data, .data, .sentinel, .sentinel], laidTests := true, laidLooks := .later }
def HerdGreatestCardSaid : Prop := Claim7.holds Tryz.pinned (.plain (OpenSpec.ofChange herdGreatestSpec)) herdGreatestCard

/-- THE TIED CARD OF 'pritchellaw04.HerdFrees'. -/
def herdFreesCard : Claim7 := { stood := { row := herdFreesRow, standIns := [], harness := (true, "9131c6ad1db1294394276b0e4f422a9fe8ebced5af87f2a7c57bb67428f806d8"), looks := true }, kinds := [], alts := [], laidByText := true, laidKinds := [.data, .data, .data, .sentinel, .sentinel], laidTests := true, laidLooks := .later }
def HerdFreesCardSaid : Prop := Claim7.holds Tryz.pinned (.plain (OpenSpec.ofChange herdFreesSpec)) herdFreesCard

/-- THE TIED CARD OF 'pritchellaw04.HerdMotzkin'. -/
def herdMotzkinCard : Claim7 := { stood := { row := herdMotzkinRow, standIns := [], harness := (true, "9131c6ad1db1294394276b0e4f422a9fe8ebced5af87f2a7c57bb67428f806d8"), looks := true }, kinds := [], alts := [], laidByText := true, laidKinds := [.data, .data, .data, .sentinel, .sentinel], laidTests := true, laidLooks := .later }
def HerdMotzkinCardSaid : Prop := Claim7.holds Tryz.pinned (.plain (OpenSpec.ofChange herdMotzkinSpec)) herdMotzkinCard

/-- THE TIED CARD OF 'pritchellaw04.HerdShifted'. -/
def herdShiftedCard : Claim7 := { stood := { row := herdShiftedRow, standIns := [], harness := (true, "9131c6ad1db1294394276b0e4f422a9fe8ebced5af87f2a7c57bb67428f806d8"), looks := true }, kinds := [], alts := [], laidByText := true, laidKinds := [.data, .data, .data, .sentinel, .sentinel], laidTests := true, laidLooks := .later }
def HerdShiftedCardSaid : Prop := Claim7.holds Tryz.pinned (.plain (OpenSpec.ofChange herdShiftedSpec)) herdShiftedCard

/-- THE SECOND FORM's CARD OF 'pritchellaw04.HerdGroups'. -/
def herdGroupsUptoCard : Claim7 := { stood := { row := herdGroupsUptoRow, standIns := [], harness := (true, "9131c6ad1db1294394276b0e4f422a9fe8ebced5af87f2a7c57bb67428f806d8"), looks := true }, kinds := [], alts := [], laidByText := true, laidKinds := [.data, .data, .data, .sentinel, .sentinel], laidTests := true, laidLooks := .later }
def HerdGroupsUptoCardSaid : Prop := Claim7.holds Tryz.pinned (.plain (OpenSpec.upto herdGroupsSpec)) herdGroupsUptoCard

/-- THE SECOND FORM's CARD OF 'pritchellaw04.HerdShifts'. -/
def herdShiftsUptoCard : Claim7 := { stood := { row := herdShiftsUptoRow, standIns := [], harness := (true, "9131c6ad1db1294394276b0e4f422a9fe8ebced5af87f2a7c57bb67428f806d8"), looks := true }, kinds := [], alts := [], laidByText := true, laidKinds := [.data, .data, .data, .sentinel, .sentinel], laidTests := true, laidLooks := .later }
def HerdShiftsUptoCardSaid : Prop := Claim7.holds Tryz.pinned (.plain (OpenSpec.upto herdShiftsSpec)) herdShiftsUptoCard

/-- THE SECOND FORM's CARD OF 'pritchellaw04.HerdGreatest'. -/
def herdGreatestUptoCard : Claim7 := { stood := { row := herdGreatestUptoRow, standIns := [], harness := (true, "9131c6ad1db1294394276b0e4f422a9fe8ebced5af87f2a7c57bb67428f806d8"), looks := true }, kinds := [], alts := [], laidByText := true, laidKinds := [.data, .data, .data, .sentinel, .sentinel], laidTests := true, laidLooks := .later }
def HerdGreatestUptoCardSaid : Prop := Claim7.holds Tryz.pinned (.plain (OpenSpec.upto herdGreatestSpec)) herdGreatestUptoCard

/-- THE SECOND FORM's CARD OF 'pritchellaw04.HerdFrees'. -/
def herdFreesUptoCard : Claim7 := { stood := { row := herdFreesUptoRow, standIns := [], harness := (true, "9131c6ad1db1294394276b0e4f422a9fe8ebced5af87f2a7c57bb67428f806d8"), looks := true }, kinds := [], alts := [], laidByText := true, laidKinds := [.data, .data, .data, .sentinel, .sentinel], laidTests := true, laidLooks := .later }
def HerdFreesUptoCardSaid : Prop := Claim7.holds Tryz.pinned (.plain (OpenSpec.upto herdFreesSpec)) herdFreesUptoCard

/-- THE SECOND FORM's CARD OF 'pritchellaw04.HerdMotzkin'. -/
def herdMotzkinUptoCard : Claim7 := { stood := { row := herdMotzkinUptoRow, standIns := [], harness := (true, "9131c6ad1db1294394276b0e4f422a9fe8ebced5af87f2a7c57bb67428f806d8"), looks := true }, kinds := [], alts := [], laidByText := true, laidKinds := [.data, .data, .data, .sentinel, .sentinel], laidTests := true, laidLooks := .later }
def HerdMotzkinUptoCardSaid : Prop := Claim7.holds Tryz.pinned (.plain (OpenSpec.upto herdMotzkinSpec)) herdMotzkinUptoCard

/-- THE SECOND FORM's CARD OF 'pritchellaw04.HerdShifted'. -/
def herdShiftedUptoCard : Claim7 := { stood := { row := herdShiftedUptoRow, standIns := [], harness := (true, "9131c6ad1db1294394276b0e4f422a9fe8ebced5af87f2a7c57bb67428f806d8"), looks := true }, kinds := [], alts := [], laidByText := true, laidKinds := [.data, .data, .data, .sentinel, .sentinel], laidTests := true, laidLooks := .later }
def HerdShiftedUptoCardSaid : Prop := Claim7.holds Tryz.pinned (.plain (OpenSpec.upto herdShiftedSpec)) herdShiftedUptoCard
end Rows
end Go.Proofs.YtlnlddnjalfamaaGreatDoor
