/-
  DERIVED. GIVEN WITH THE SEED: THE CARDS: each row of YtfbiinjpljmapaaDoorRows.lean that lists a variable, with what it lists TIED to the program's text (the seventh form; the later family's looks); each row that meets fmt, with fmt's text TOLD by the authors' own Lean function (tested against real Go, not proved from fmt's source: count such statements apart). THE CARD IS WHAT COUNTS. Prove the row's statement (the work); the ties are given (YtfbiinjpljmapaaDoorTie.lean); close each card by the builder's one call (the guide's Derived/Test/ToyasCard.lean, 'card_holds'). Laid BY PROGRAM, IN A SANDBOX (cutbox-door.mjs). By AI agents, Wed Nov 11 2026. No macro, syntax, notation, axiom, sorry.
-/
import Derived.Test.YtfbiinjpljmapaaDoorRows
import GoSem.ClaimSeven
namespace Go.Proofs.YtfbiinjpljmapaaDoor
namespace Rows

/-- THE TIED CARD OF 'pritchellaw04.HerdColors'. -/
def herdColorsCard : Claim7 := { stood := { row := herdColorsRow, standIns := [], harness := (true, "e06d064c3dedd24d7d52f5da6fc787d99b0f8a0f7d47858f42c81312bb3bcef0"), looks := true }, kinds := [], alts := [], laidByText := true, laidKinds := [.data, .data, .data, .sentinel, .sentinel], laidTests := true, laidLooks := .later }
def HerdColorsCardSaid : Prop := Claim7.holds Tryd.pinned (.plain (OpenSpec.ofChange herdColorsSpec)) herdColorsCard

/-- THE TIED CARD OF 'pritchellaw04.HerdTurans'. -/
def herdTuransCard : Claim7 := { stood := { row := herdTuransRow, standIns := [], harness := (true, "e06d064c3dedd24d7d52f5da6fc787d99b0f8a0f7d47858f42c81312bb3bcef0"), looks := true }, kinds := [], alts := [], laidByText := true, laidKinds := [.data, .data, .data, .sentinel, .sentinel], laidTests := true, laidLooks := .later }
def HerdTuransCardSaid : Prop := Claim7.holds Tryd.pinned (.plain (OpenSpec.ofChange herdTuransSpec)) herdTuransCard

/-- THE TIED CARD OF 'pritchellaw04.HerdTuran'. -/
def herdTuranCard : Claim7 := { stood := { row := herdTuranRow, standIns := [], harness := (true, "e06d064c3dedd24d7d52f5da6fc787d99b0f8a0f7d47858f42c81312bb3bcef0"), looks := true }, kinds := [], alts := [], laidByText := true, laidKinds := [.data, .data, .data, .sentinel, .sentinel], laidTests := true, laidLooks := .later }
def HerdTuranCardSaid : Prop := Claim7.holds Tryd.pinned (.plain (OpenSpec.ofChange herdTuranSpec)) herdTuranCard

/-- THE TIED CARD OF 'pritchellaw04.HerdGoodman'. -/
def herdGoodmanCard : Claim7 := { stood := { row := herdGoodmanRow, standIns := [], harness := (true, "e06d064c3dedd24d7d52f5da6fc787d99b0f8a0f7d47858f42c81312bb3bcef0"), looks := true }, kinds := [], alts := [], laidByText := true, laidKinds := [.data, .data, .data, .sentinel, .sentinel], laidTests := true, laidLooks := .later }
def HerdGoodmanCardSaid : Prop := Claim7.holds Tryd.pinned (.plain (OpenSpec.ofChange herdGoodmanSpec)) herdGoodmanCard

/-- THE TIED CARD OF 'pritchellaw04.HerdColored'. -/
def herdColoredCard : Claim7 := { stood := { row := herdColoredRow, standIns := [], harness := (true, "e06d064c3dedd24d7d52f5da6fc787d99b0f8a0f7d47858f42c81312bb3bcef0"), looks := true }, kinds := [], alts := [], laidByText := true, laidKinds := [.data, .data, .data, .sentinel, .sentinel], laidTests := true, laidLooks := .later }
def HerdColoredCardSaid : Prop := Claim7.holds Tryd.pinned (.plain (OpenSpec.ofChange herdColoredSpec)) herdColoredCard

/-- THE TIED CARD OF 'pritchellaw04.HerdMantel'. -/
def herdMantelCard : Claim7 := { stood := { row := herdMantelRow, standIns := [], harness := (true, "e06d064c3dedd24d7d52f5da6fc787d99b0f8a0f7d47858f42c81312bb3bcef0"), looks := true }, kinds := [], alts := [], laidByText := true, laidKinds := [.data, .data, .data, .sentinel, .sentinel], laidTests := true, laidLooks := .later }
def HerdMantelCardSaid : Prop := Claim7.holds Tryd.pinned (.plain (OpenSpec.ofChange herdMantelSpec)) herdMantelCard

/-- THE TIED CARD OF 'pritchellaw04.HerdFree'. -/
def herdFreeCard : Claim7 := { stood := { row := herdFreeRow, standIns := [], harness := (true, "e06d064c3dedd24d7d52f5da6fc787d99b0f8a0f7d47858f42c81312bb3bcef0"), looks := true }, kinds := [], alts := [], laidByText := true, laidKinds := [.data, .data, .data, .sentinel, .sentinel], laidTests := true, laidLooks := .later }
def HerdFreeCardSaid : Prop := Claim7.holds Tryd.pinned (.plain (OpenSpec.ofChange herdFreeSpec)) herdFreeCard

/-- THE TIED CARD OF 'pritchellaw04.HerdWithout'. -/
def herdWithoutCard : Claim7 := { stood := { row := herdWithoutRow, standIns := [], harness := (true, "e06d064c3dedd24d7d52f5da6fc787d99b0f8a0f7d47858f42c81312bb3bcef0"), looks := true }, kinds := [], alts := [], laidByText := true, laidKinds := [.data, .data, .data, .sentinel, .sentinel], laidTests := true, laidLooks := .later }
def HerdWithoutCardSaid : Prop := Claim7.holds Tryd.pinned (.plain (OpenSpec.ofChange herdWithoutSpec)) herdWithoutCard

/-- THE SECOND FORM's CARD OF 'pritchellaw04.HerdColors'. -/
def herdColorsUptoCard : Claim7 := { stood := { row := herdColorsUptoRow, standIns := [], harness := (true, "e06d064c3dedd24d7d52f5da6fc787d99b0f8a0f7d47858f42c81312bb3bcef0"), looks := true }, kinds := [], alts := [], laidByText := true, laidKinds := [.data, .data, .data, .sentinel, .sentinel], laidTests := true, laidLooks := .later }
def HerdColorsUptoCardSaid : Prop := Claim7.holds Tryd.pinned (.plain (OpenSpec.upto herdColorsSpec)) herdColorsUptoCard

/-- THE SECOND FORM's CARD OF 'pritchellaw04.HerdTurans'. -/
def herdTuransUptoCard : Claim7 := { stood := { row := herdTuransUptoRow, standIns := [], harness := (true, "e06d064c3dedd24d7d52f5da6fc787d99b0f8a0f7d47858f42c81312bb3bcef0"), looks := true }, kinds := [], alts := [], laidByText := true, laidKinds := [.data, .data, .data, .sentinel, .sentinel], laidTests := true, laidLooks := .later }
def HerdTuransUptoCardSaid : Prop := Claim7.holds Tryd.pinned (.plain (OpenSpec.upto herdTuransSpec)) herdTuransUptoCard

/-- THE SECOND FORM's CARD OF 'pritchellaw04.HerdTuran'. -/
def herdTuranUptoCard : Claim7 := { stood := { row := herdTuranUptoRow, standIns := [], harness := (true, "e06d064c3dedd24d7d52f5da6fc787d99b0f8a0f7d47858f42c81312bb3bcef0"), looks := true }, kinds := [], alts := [], laidByText := true, laidKinds := [.data, .data, .data, .sentinel, .sentinel], laidTests := true, laidLooks := .later }
def HerdTuranUptoCardSaid : Prop := Claim7.holds Tryd.pinned (.plain (OpenSpec.upto herdTuranSpec)) herdTuranUptoCard

/-- THE SECOND FORM's CARD OF 'pritchellaw04.HerdGoodman'. -/
def herdGoodmanUptoCard : Claim7 := { stood := { row := herdGoodmanUptoRow, standIns := [], harness := (true, "e06d064c3dedd24d7d52f5da6fc787d99b0f8a0f7d47858f42c81312bb3bcef0"), looks := true }, kinds := [], alts := [], laidByText := true, laidKinds := [.data, .data, .data, .sentinel, .sentinel], laidTests := true, laidLooks := .later }
def HerdGoodmanUptoCardSaid : Prop := Claim7.holds Tryd.pinned (.plain (OpenSpec.upto herdGoodmanSpec)) herdGoodmanUptoCard

/-- THE SECOND FORM's CARD OF 'pritchellaw04.HerdColored'. -/
def herdColoredUptoCard : Claim7 := { stood := { row := herdColoredUptoRow, standIns := [], harness := (true, "e06d064c3dedd24d7d52f5da6fc787d99b0f8a0f7d47858f42c81312bb3bcef0"), looks := true }, kinds := [], alts := [], laidByText := true, laidKinds := [.data, .data, .data, .sentinel, .sentinel], laidTests := true, laidLooks := .later }
def HerdColoredUptoCardSaid : Prop := Claim7.holds Tryd.pinned (.plain (OpenSpec.upto herdColoredSpec)) herdColoredUptoCard

/-- THE SECOND FORM's CARD OF 'pritchellaw04.HerdMantel'. -/
def herdMantelUptoCard : Claim7 := { stood := { row := herdMantelUptoRow, standIns := [], harness := (true, "e06d064c3dedd24d7d52f5da6fc787d99b0f8a0f7d47858f42c81312bb3bcef0"), looks := true }, kinds := [], alts := [], laidByText := true, laidKinds := [.data, .data, .data, .sentinel, .sentinel], laidTests := true, laidLooks := .later }
def HerdMantelUptoCardSaid : Prop := Claim7.holds Tryd.pinned (.plain (OpenSpec.upto herdMantelSpec)) herdMantelUptoCard

/-- THE SECOND FORM's CARD OF 'pritchellaw04.HerdFree'. -/
def herdFreeUptoCard : Claim7 := { stood := { row := herdFreeUptoRow, standIns := [], harness := (true, "e06d064c3dedd24d7d52f5da6fc787d99b0f8a0f7d47858f42c81312bb3bcef0"), looks := true }, kinds := [], alts := [], laidByText := true, laidKinds := [.data, .data, .data, .sentinel, .sentinel], laidTests := true, laidLooks := .later }
def HerdFreeUptoCardSaid : Prop := Claim7.holds Tryd.pinned (.plain (OpenSpec.upto herdFreeSpec)) herdFreeUptoCard

/-- THE SECOND FORM's CARD OF 'pritchellaw04.HerdWithout'. -/
def herdWithoutUptoCard : Claim7 := { stood := { row := herdWithoutUptoRow, standIns := [], harness := (true, "e06d064c3dedd24d7d52f5da6fc787d99b0f8a0f7d47858f42c81312bb3bcef0"), looks := true }, kinds := [], alts := [], laidByText := true, laidKinds := [.data, .data, .data, .sentinel, .sentinel], laidTests := true, laidLooks := .later }
def HerdWithoutUptoCardSaid : Prop := Claim7.holds Tryd.pinned (.plain (OpenSpec.upto herdWithoutSpec)) herdWithoutUptoCard
end Rows
end Go.Proofs.YtfbiinjpljmapaaDoor
