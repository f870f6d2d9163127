/-
  DERIVED. GIVEN WITH THE SEED: THE CARDS: each row of YtcgbfhjefepafabDoorRows.lean that lists a variable, with what it lists TIED to the program's text (the seventh form; the later family's looks); each row that meets fmt, with fmt's text TOLD by the authors' own Lean function (tested against real Go, not proved from fmt's source: count such statements apart). THE CARD IS WHAT COUNTS. Prove the row's statement (the work); the ties are given (YtcgbfhjefepafabDoorTie.lean); close each card by the builder's one call (the guide's Derived/Test/ToyasCard.lean, 'card_holds'). Laid BY PROGRAM, IN A SANDBOX (cutbox-door.mjs). By AI agents, Wed Nov 11 2026. No macro, syntax, notation, axiom, sorry.
-/
import Derived.Test.YtcgbfhjefepafabDoorRows
import GoSem.ClaimSeven
namespace Go.Proofs.YtcgbfhjefepafabDoor
namespace Rows

/-- THE TIED CARD OF 'pritchellaw05.GaitPaley'. -/
def gaitPaleyCard : Claim7 := { stood := { row := gaitPaleyRow, standIns := [], harness := (true, "641a4b341ffbf371d80b80b0551f44a4afa7161788549528a41dc5013b309e70"), looks := false }, kinds := [], alts := [], laidByText := true, laidKinds := [.data, .data, .data, .data, .pinned], laidTests := true, laidLooks := .later }
def GaitPaleyCardSaid : Prop := Claim7.holds Tryd.pinned (.plain (OpenSpec.ofChange gaitPaleySpec)) gaitPaleyCard

/-- THE TIED CARD OF 'pritchellaw05.GaitRight'. -/
def gaitRightCard : Claim7 := { stood := { row := gaitRightRow, standIns := [], harness := (true, "641a4b341ffbf371d80b80b0551f44a4afa7161788549528a41dc5013b309e70"), looks := false }, kinds := [], alts := [], laidByText := true, laidKinds := [.data, .data, .data, .data, .pinned], laidTests := true, laidLooks := .later }
def GaitRightCardSaid : Prop := Claim7.holds Tryd.pinned (.plain (OpenSpec.ofChange gaitRightSpec)) gaitRightCard

/-- THE TIED CARD OF 'pritchellaw05.GaitTwice'. -/
def gaitTwiceCard : Claim7 := { stood := { row := gaitTwiceRow, standIns := [], harness := (true, "641a4b341ffbf371d80b80b0551f44a4afa7161788549528a41dc5013b309e70"), looks := false }, kinds := [], alts := [], laidByText := true, laidKinds := [.data, .data, .data, .data, .pinned], laidTests := true, laidLooks := .later }
def GaitTwiceCardSaid : Prop := Claim7.holds Tryd.pinned (.plain (OpenSpec.ofChange gaitTwiceSpec)) gaitTwiceCard

/-- THE TIED CARD OF 'pritchellaw05.GaitBent'. -/
def gaitBentCard : Claim7 := { stood := { row := gaitBentRow, standIns := [], harness := (true, "641a4b341ffbf371d80b80b0551f44a4afa7161788549528a41dc5013b309e70"), looks := false }, kinds := [], alts := [], laidByText := true, laidKinds := [.data, .data, .data, .data, .pinned], laidTests := true, laidLooks := .later }
def GaitBentCardSaid : Prop := Claim7.holds Tryd.pinned (.plain (OpenSpec.ofChange gaitBentSpec)) gaitBentCard

/-- THE TIED CARD OF 'pritchellaw05.GaitSums'. -/
def gaitSumsCard : Claim7 := { stood := { row := gaitSumsRow, standIns := [], harness := (true, "641a4b341ffbf371d80b80b0551f44a4afa7161788549528a41dc5013b309e70"), looks := false }, kinds := [], alts := [], laidByText := true, laidKinds := [.data, .data, .data, .data, .pinned], laidTests := true, laidLooks := .later }
def GaitSumsCardSaid : Prop := Claim7.holds Tryd.pinned (.plain (OpenSpec.ofChange gaitSumsSpec)) gaitSumsCard

/-- THE TIED CARD OF 'pritchellaw05.GaitChanged'. -/
def gaitChangedCard : Claim7 := { stood := { row := gaitChangedRow, standIns := [], harness := (true, "641a4b341ffbf371d80b80b0551f44a4afa7161788549528a41dc5013b309e70"), looks := false }, kinds := [], alts := [], laidByText := true, laidKinds := [.data, .data, .data, .data, .pinned], laidTests := true, laidLooks := .later }
def GaitChangedCardSaid : Prop := Claim7.holds Tryd.pinned (.plain (OpenSpec.ofChange gaitChangedSpec)) gaitChangedCard

/-- THE SECOND FORM's CARD OF 'pritchellaw05.GaitPaley'. -/
def gaitPaleyUptoCard : Claim7 := { stood := { row := gaitPaleyUptoRow, standIns := [], harness := (true, "641a4b341ffbf371d80b80b0551f44a4afa7161788549528a41dc5013b309e70"), looks := false }, kinds := [], alts := [], laidByText := true, laidKinds := [.data, .data, .data, .data, .pinned], laidTests := true, laidLooks := .later }
def GaitPaleyUptoCardSaid : Prop := Claim7.holds Tryd.pinned (.plain (OpenSpec.upto gaitPaleySpec)) gaitPaleyUptoCard

/-- THE SECOND FORM's CARD OF 'pritchellaw05.GaitRight'. -/
def gaitRightUptoCard : Claim7 := { stood := { row := gaitRightUptoRow, standIns := [], harness := (true, "641a4b341ffbf371d80b80b0551f44a4afa7161788549528a41dc5013b309e70"), looks := false }, kinds := [], alts := [], laidByText := true, laidKinds := [.data, .data, .data, .data, .pinned], laidTests := true, laidLooks := .later }
def GaitRightUptoCardSaid : Prop := Claim7.holds Tryd.pinned (.plain (OpenSpec.upto gaitRightSpec)) gaitRightUptoCard

/-- THE SECOND FORM's CARD OF 'pritchellaw05.GaitTwice'. -/
def gaitTwiceUptoCard : Claim7 := { stood := { row := gaitTwiceUptoRow, standIns := [], harness := (true, "641a4b341ffbf371d80b80b0551f44a4afa7161788549528a41dc5013b309e70"), looks := false }, kinds := [], alts := [], laidByText := true, laidKinds := [.data, .data, .data, .data, .pinned], laidTests := true, laidLooks := .later }
def GaitTwiceUptoCardSaid : Prop := Claim7.holds Tryd.pinned (.plain (OpenSpec.upto gaitTwiceSpec)) gaitTwiceUptoCard

/-- THE SECOND FORM's CARD OF 'pritchellaw05.GaitBent'. -/
def gaitBentUptoCard : Claim7 := { stood := { row := gaitBentUptoRow, standIns := [], harness := (true, "641a4b341ffbf371d80b80b0551f44a4afa7161788549528a41dc5013b309e70"), looks := false }, kinds := [], alts := [], laidByText := true, laidKinds := [.data, .data, .data, .data, .pinned], laidTests := true, laidLooks := .later }
def GaitBentUptoCardSaid : Prop := Claim7.holds Tryd.pinned (.plain (OpenSpec.upto gaitBentSpec)) gaitBentUptoCard

/-- THE SECOND FORM's CARD OF 'pritchellaw05.GaitSums'. -/
def gaitSumsUptoCard : Claim7 := { stood := { row := gaitSumsUptoRow, standIns := [], harness := (true, "641a4b341ffbf371d80b80b0551f44a4afa7161788549528a41dc5013b309e70"), looks := false }, kinds := [], alts := [], laidByText := true, laidKinds := [.data, .data, .data, .data, .pinned], laidTests := true, laidLooks := .later }
def GaitSumsUptoCardSaid : Prop := Claim7.holds Tryd.pinned (.plain (OpenSpec.upto gaitSumsSpec)) gaitSumsUptoCard

/-- THE SECOND FORM's CARD OF 'pritchellaw05.GaitChanged'. -/
def gaitChangedUptoCard : Claim7 := { stood := { row := gaitChangedUptoRow, standIns := [], harness := (true, "641a4b341ffbf371d80b80b0551f44a4afa7161788549528a41dc5013b309e70"), looks := false }, kinds := [], alts := [], laidByText := true, laidKinds := [.data, .data, .data, .data, .pinned], laidTests := true, laidLooks := .later }
def GaitChangedUptoCardSaid : Prop := Claim7.holds Tryd.pinned (.plain (OpenSpec.upto gaitChangedSpec)) gaitChangedUptoCard
end Rows
end Go.Proofs.YtcgbfhjefepafabDoor
