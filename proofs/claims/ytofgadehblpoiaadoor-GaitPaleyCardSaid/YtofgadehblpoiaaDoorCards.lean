/-
  DERIVED. GIVEN WITH THE SEED: THE CARDS: each row of YtofgadehblpoiaaDoorRows.lean that lists a variable, with what it lists TIED to the program's text (the seventh form; the later family's looks); each row that meets fmt, with fmt's text TOLD by the authors' own Lean function (tested against real Go, not proved from fmt's source: count such statements apart). THE CARD IS WHAT COUNTS. Prove the row's statement (the work); the ties are given (YtofgadehblpoiaaDoorTie.lean); close each card by the builder's one call (the guide's Derived/Test/ToyasCard.lean, 'card_holds'). Laid BY PROGRAM, IN A SANDBOX (cutbox-door.mjs). By AI agents, Wed Nov 11 2026. No macro, syntax, notation, axiom, sorry.
-/
import Derived.Test.YtofgadehblpoiaaDoorRows
import GoSem.ClaimSeven
namespace Go.Proofs.YtofgadehblpoiaaDoor
namespace Rows

/-- THE TIED CARD OF 'pritchellaw05.GaitLikes'. -/
def gaitLikesCard : Claim7 := { stood := { row := gaitLikesRow, standIns := [], harness := (true, "589cc7d354e101bd39417278e2fbf21cf820c96d087a0ea2e153e8de474153da"), looks := false }, kinds := [], alts := [], laidByText := true, laidKinds := [.data, .data, .data, .data, .pinned], laidTests := true, laidLooks := .later }
def GaitLikesCardSaid : Prop := Claim7.holds Tryd.pinned (.plain (OpenSpec.ofChange gaitLikesSpec)) gaitLikesCard

/-- THE TIED CARD OF 'pritchellaw05.GaitSylvesters'. -/
def gaitSylvestersCard : Claim7 := { stood := { row := gaitSylvestersRow, standIns := [], harness := (true, "589cc7d354e101bd39417278e2fbf21cf820c96d087a0ea2e153e8de474153da"), looks := false }, kinds := [], alts := [], laidByText := true, laidKinds := [.data, .data, .data, .data, .pinned], laidTests := true, laidLooks := .later }
def GaitSylvestersCardSaid : Prop := Claim7.holds Tryd.pinned (.plain (OpenSpec.ofChange gaitSylvestersSpec)) gaitSylvestersCard

/-- THE TIED CARD OF 'pritchellaw05.GaitMatrices'. -/
def gaitMatricesCard : Claim7 := { stood := { row := gaitMatricesRow, standIns := [], harness := (true, "589cc7d354e101bd39417278e2fbf21cf820c96d087a0ea2e153e8de474153da"), looks := false }, kinds := [], alts := [], laidByText := true, laidKinds := [.data, .data, .data, .data, .pinned], laidTests := true, laidLooks := .later }
def GaitMatricesCardSaid : Prop := Claim7.holds Tryd.pinned (.plain (OpenSpec.ofChange gaitMatricesSpec)) gaitMatricesCard

/-- THE TIED CARD OF 'pritchellaw05.GaitTransforms'. -/
def gaitTransformsCard : Claim7 := { stood := { row := gaitTransformsRow, standIns := [], harness := (true, "589cc7d354e101bd39417278e2fbf21cf820c96d087a0ea2e153e8de474153da"), looks := false }, kinds := [], alts := [], laidByText := true, laidKinds := [.data, .data, .data, .data, .pinned], laidTests := true, laidLooks := .later }
def GaitTransformsCardSaid : Prop := Claim7.holds Tryd.pinned (.plain (OpenSpec.ofChange gaitTransformsSpec)) gaitTransformsCard

/-- THE TIED CARD OF 'pritchellaw05.GaitBents'. -/
def gaitBentsCard : Claim7 := { stood := { row := gaitBentsRow, standIns := [], harness := (true, "589cc7d354e101bd39417278e2fbf21cf820c96d087a0ea2e153e8de474153da"), looks := false }, kinds := [], alts := [], laidByText := true, laidKinds := [.data, .data, .data, .data, .pinned], laidTests := true, laidLooks := .later }
def GaitBentsCardSaid : Prop := Claim7.holds Tryd.pinned (.plain (OpenSpec.ofChange gaitBentsSpec)) gaitBentsCard

/-- THE TIED CARD OF 'pritchellaw05.GaitBarker'. -/
def gaitBarkerCard : Claim7 := { stood := { row := gaitBarkerRow, standIns := [], harness := (true, "589cc7d354e101bd39417278e2fbf21cf820c96d087a0ea2e153e8de474153da"), looks := false }, kinds := [], alts := [], laidByText := true, laidKinds := [.data, .data, .data, .data, .pinned], laidTests := true, laidLooks := .later }
def GaitBarkerCardSaid : Prop := Claim7.holds Tryd.pinned (.plain (OpenSpec.ofChange gaitBarkerSpec)) gaitBarkerCard

/-- THE TIED CARD OF 'pritchellaw05.GaitGolay'. -/
def gaitGolayCard : Claim7 := { stood := { row := gaitGolayRow, standIns := [], harness := (true, "589cc7d354e101bd39417278e2fbf21cf820c96d087a0ea2e153e8de474153da"), looks := false }, kinds := [], alts := [], laidByText := true, laidKinds := [.data, .data, .data, .data, .pinned], laidTests := true, laidLooks := .later }
def GaitGolayCardSaid : Prop := Claim7.holds Tryd.pinned (.plain (OpenSpec.ofChange gaitGolaySpec)) gaitGolayCard

/-- THE TIED CARD OF 'pritchellaw05.GaitPaley'. -/
def gaitPaleyCard : Claim7 := { stood := { row := gaitPaleyRow, standIns := [], harness := (true, "589cc7d354e101bd39417278e2fbf21cf820c96d087a0ea2e153e8de474153da"), looks := false }, kinds := [], alts := [], laidByText := true, laidKinds := [.data, .data, .data, .data, .pinned], laidTests := true, laidLooks := .later }
def GaitPaleyCardSaid : Prop := Claim7.holds Tryd.pinned (.plain (OpenSpec.ofChange gaitPaleySpec)) gaitPaleyCard

/-- THE TIED CARD OF 'pritchellaw05.GaitRight'. -/
def gaitRightCard : Claim7 := { stood := { row := gaitRightRow, standIns := [], harness := (true, "589cc7d354e101bd39417278e2fbf21cf820c96d087a0ea2e153e8de474153da"), looks := false }, kinds := [], alts := [], laidByText := true, laidKinds := [.data, .data, .data, .data, .pinned], laidTests := true, laidLooks := .later }
def GaitRightCardSaid : Prop := Claim7.holds Tryd.pinned (.plain (OpenSpec.ofChange gaitRightSpec)) gaitRightCard

/-- THE TIED CARD OF 'pritchellaw05.GaitTwice'. -/
def gaitTwiceCard : Claim7 := { stood := { row := gaitTwiceRow, standIns := [], harness := (true, "589cc7d354e101bd39417278e2fbf21cf820c96d087a0ea2e153e8de474153da"), looks := false }, kinds := [], alts := [], laidByText := true, laidKinds := [.data, .data, .data, .data, .pinned], laidTests := true, laidLooks := .later }
def GaitTwiceCardSaid : Prop := Claim7.holds Tryd.pinned (.plain (OpenSpec.ofChange gaitTwiceSpec)) gaitTwiceCard

/-- THE TIED CARD OF 'pritchellaw05.GaitBent'. -/
def gaitBentCard : Claim7 := { stood := { row := gaitBentRow, standIns := [], harness := (true, "589cc7d354e101bd39417278e2fbf21cf820c96d087a0ea2e153e8de474153da"), looks := false }, kinds := [], alts := [], laidByText := true, laidKinds := [.data, .data, .data, .data, .pinned], laidTests := true, laidLooks := .later }
def GaitBentCardSaid : Prop := Claim7.holds Tryd.pinned (.plain (OpenSpec.ofChange gaitBentSpec)) gaitBentCard

/-- THE TIED CARD OF 'pritchellaw05.GaitChanged'. -/
def gaitChangedCard : Claim7 := { stood := { row := gaitChangedRow, standIns := [], harness := (true, "589cc7d354e101bd39417278e2fbf21cf820c96d087a0ea2e153e8de474153da"), looks := false }, kinds := [], alts := [], laidByText := true, laidKinds := [.data, .data, .data, .data, .pinned], laidTests := true, laidLooks := .later }
def GaitChangedCardSaid : Prop := Claim7.holds Tryd.pinned (.plain (OpenSpec.ofChange gaitChangedSpec)) gaitChangedCard

/-- THE SECOND FORM's CARD OF 'pritchellaw05.GaitLikes'. -/
def gaitLikesUptoCard : Claim7 := { stood := { row := gaitLikesUptoRow, standIns := [], harness := (true, "589cc7d354e101bd39417278e2fbf21cf820c96d087a0ea2e153e8de474153da"), looks := false }, kinds := [], alts := [], laidByText := true, laidKinds := [.data, .data, .data, .data, .pinned], laidTests := true, laidLooks := .later }
def GaitLikesUptoCardSaid : Prop := Claim7.holds Tryd.pinned (.plain (OpenSpec.upto gaitLikesSpec)) gaitLikesUptoCard

/-- THE SECOND FORM's CARD OF 'pritchellaw05.GaitSylvesters'. -/
def gaitSylvestersUptoCard : Claim7 := { stood := { row := gaitSylvestersUptoRow, standIns := [], harness := (true, "589cc7d354e101bd39417278e2fbf21cf820c96d087a0ea2e153e8de474153da"), looks := false }, kinds := [], alts := [], laidByText := true, laidKinds := [.data, .data, .data, .data, .pinned], laidTests := true, laidLooks := .later }
def GaitSylvestersUptoCardSaid : Prop := Claim7.holds Tryd.pinned (.plain (OpenSpec.upto gaitSylvestersSpec)) gaitSylvestersUptoCard

/-- THE SECOND FORM's CARD OF 'pritchellaw05.GaitMatrices'. -/
def gaitMatricesUptoCard : Claim7 := { stood := { row := gaitMatricesUptoRow, standIns := [], harness := (true, "589cc7d354e101bd39417278e2fbf21cf820c96d087a0ea2e153e8de474153da"), looks := false }, kinds := [], alts := [], laidByText := true, laidKinds := [.data, .data, .data, .data, .pinned], laidTests := true, laidLooks := .later }
def GaitMatricesUptoCardSaid : Prop := Claim7.holds Tryd.pinned (.plain (OpenSpec.upto gaitMatricesSpec)) gaitMatricesUptoCard

/-- THE SECOND FORM's CARD OF 'pritchellaw05.GaitTransforms'. -/
def gaitTransformsUptoCard : Claim7 := { stood := { row := gaitTransformsUptoRow, standIns := [], harness := (true, "589cc7d354e101bd39417278e2fbf21cf820c96d087a0ea2e153e8de474153da"), looks := false }, kinds := [], alts := [], laidByText := true, laidKinds := [.data, .data, .data, .data, .pinned], laidTests := true, laidLooks := .later }
def GaitTransformsUptoCardSaid : Prop := Claim7.holds Tryd.pinned (.plain (OpenSpec.upto gaitTransformsSpec)) gaitTransformsUptoCard

/-- THE SECOND FORM's CARD OF 'pritchellaw05.GaitBents'. -/
def gaitBentsUptoCard : Claim7 := { stood := { row := gaitBentsUptoRow, standIns := [], harness := (true, "589cc7d354e101bd39417278e2fbf21cf820c96d087a0ea2e153e8de474153da"), looks := false }, kinds := [], alts := [], laidByText := true, laidKinds := [.data, .data, .data, .data, .pinned], laidTests := true, laidLooks := .later }
def GaitBentsUptoCardSaid : Prop := Claim7.holds Tryd.pinned (.plain (OpenSpec.upto gaitBentsSpec)) gaitBentsUptoCard

/-- THE SECOND FORM's CARD OF 'pritchellaw05.GaitBarker'. -/
def gaitBarkerUptoCard : Claim7 := { stood := { row := gaitBarkerUptoRow, standIns := [], harness := (true, "589cc7d354e101bd39417278e2fbf21cf820c96d087a0ea2e153e8de474153da"), looks := false }, kinds := [], alts := [], laidByText := true, laidKinds := [.data, .data, .data, .data, .pinned], laidTests := true, laidLooks := .later }
def GaitBarkerUptoCardSaid : Prop := Claim7.holds Tryd.pinned (.plain (OpenSpec.upto gaitBarkerSpec)) gaitBarkerUptoCard

/-- THE SECOND FORM's CARD OF 'pritchellaw05.GaitGolay'. -/
def gaitGolayUptoCard : Claim7 := { stood := { row := gaitGolayUptoRow, standIns := [], harness := (true, "589cc7d354e101bd39417278e2fbf21cf820c96d087a0ea2e153e8de474153da"), looks := false }, kinds := [], alts := [], laidByText := true, laidKinds := [.data, .data, .data, .data, .pinned], laidTests := true, laidLooks := .later }
def GaitGolayUptoCardSaid : Prop := Claim7.holds Tryd.pinned (.plain (OpenSpec.upto gaitGolaySpec)) gaitGolayUptoCard

/-- THE SECOND FORM's CARD OF 'pritchellaw05.GaitPaley'. -/
def gaitPaleyUptoCard : Claim7 := { stood := { row := gaitPaleyUptoRow, standIns := [], harness := (true, "589cc7d354e101bd39417278e2fbf21cf820c96d087a0ea2e153e8de474153da"), looks := false }, kinds := [], alts := [], laidByText := true, laidKinds := [.data, .data, .data, .data, .pinned], laidTests := true, laidLooks := .later }
def GaitPaleyUptoCardSaid : Prop := Claim7.holds Tryd.pinned (.plain (OpenSpec.upto gaitPaleySpec)) gaitPaleyUptoCard

/-- THE SECOND FORM's CARD OF 'pritchellaw05.GaitRight'. -/
def gaitRightUptoCard : Claim7 := { stood := { row := gaitRightUptoRow, standIns := [], harness := (true, "589cc7d354e101bd39417278e2fbf21cf820c96d087a0ea2e153e8de474153da"), looks := false }, kinds := [], alts := [], laidByText := true, laidKinds := [.data, .data, .data, .data, .pinned], laidTests := true, laidLooks := .later }
def GaitRightUptoCardSaid : Prop := Claim7.holds Tryd.pinned (.plain (OpenSpec.upto gaitRightSpec)) gaitRightUptoCard

/-- THE SECOND FORM's CARD OF 'pritchellaw05.GaitTwice'. -/
def gaitTwiceUptoCard : Claim7 := { stood := { row := gaitTwiceUptoRow, standIns := [], harness := (true, "589cc7d354e101bd39417278e2fbf21cf820c96d087a0ea2e153e8de474153da"), looks := false }, kinds := [], alts := [], laidByText := true, laidKinds := [.data, .data, .data, .data, .pinned], laidTests := true, laidLooks := .later }
def GaitTwiceUptoCardSaid : Prop := Claim7.holds Tryd.pinned (.plain (OpenSpec.upto gaitTwiceSpec)) gaitTwiceUptoCard

/-- THE SECOND FORM's CARD OF 'pritchellaw05.GaitBent'. -/
def gaitBentUptoCard : Claim7 := { stood := { row := gaitBentUptoRow, standIns := [], harness := (true, "589cc7d354e101bd39417278e2fbf21cf820c96d087a0ea2e153e8de474153da"), looks := false }, kinds := [], alts := [], laidByText := true, laidKinds := [.data, .data, .data, .data, .pinned], laidTests := true, laidLooks := .later }
def GaitBentUptoCardSaid : Prop := Claim7.holds Tryd.pinned (.plain (OpenSpec.upto gaitBentSpec)) gaitBentUptoCard

/-- THE SECOND FORM's CARD OF 'pritchellaw05.GaitChanged'. -/
def gaitChangedUptoCard : Claim7 := { stood := { row := gaitChangedUptoRow, standIns := [], harness := (true, "589cc7d354e101bd39417278e2fbf21cf820c96d087a0ea2e153e8de474153da"), looks := false }, kinds := [], alts := [], laidByText := true, laidKinds := [.data, .data, .data, .data, .pinned], laidTests := true, laidLooks := .later }
def GaitChangedUptoCardSaid : Prop := Claim7.holds Tryd.pinned (.plain (OpenSpec.upto gaitChangedSpec)) gaitChangedUptoCard
end Rows
end Go.Proofs.YtofgadehblpoiaaDoor
