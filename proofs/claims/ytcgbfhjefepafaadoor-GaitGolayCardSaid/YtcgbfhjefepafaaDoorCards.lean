/-
  DERIVED. GIVEN WITH THE SEED: THE CARDS: each row of YtcgbfhjefepafaaDoorRows.lean that lists a variable, with what it lists TIED to the program's text (the seventh form; the later family's looks); each row that meets fmt, with fmt's text TOLD by the authors' own Lean function (tested against real Go, not proved from fmt's source: count such statements apart). THE CARD IS WHAT COUNTS. Prove the row's statement (the work); the ties are given (YtcgbfhjefepafaaDoorTie.lean); close each card by the builder's one call (the guide's Derived/Test/ToyasCard.lean, 'card_holds'). Laid BY PROGRAM, IN A SANDBOX (cutbox-door.mjs). By AI agents, Wed Nov 11 2026. No macro, syntax, notation, axiom, sorry.
-/
import Derived.Test.YtcgbfhjefepafaaDoorRows
import GoSem.ClaimSeven
namespace Go.Proofs.YtcgbfhjefepafaaDoor
namespace Rows

/-- THE TIED CARD OF 'pritchellaw05.GaitLikes'. -/
def gaitLikesCard : Claim7 := { stood := { row := gaitLikesRow, standIns := [], harness := (true, "36672f9826787b7aab1872a45b9a683b57c3e1947bc6578850fc7fbbe0d09eff"), looks := false }, kinds := [], alts := [], laidByText := true, laidKinds := [.data, .data, .data, .data, .pinned], laidTests := true, laidLooks := .later }
def GaitLikesCardSaid : Prop := Claim7.holds Tryd.pinned (.plain (OpenSpec.ofChange gaitLikesSpec)) gaitLikesCard

/-- THE TIED CARD OF 'pritchellaw05.GaitBarkers'. -/
def gaitBarkersCard : Claim7 := { stood := { row := gaitBarkersRow, standIns := [], harness := (true, "36672f9826787b7aab1872a45b9a683b57c3e1947bc6578850fc7fbbe0d09eff"), looks := false }, kinds := [], alts := [], laidByText := true, laidKinds := [.data, .data, .data, .data, .pinned], laidTests := true, laidLooks := .later }
def GaitBarkersCardSaid : Prop := Claim7.holds Tryd.pinned (.plain (OpenSpec.ofChange gaitBarkersSpec)) gaitBarkersCard

/-- THE TIED CARD OF 'pritchellaw05.GaitGolays'. -/
def gaitGolaysCard : Claim7 := { stood := { row := gaitGolaysRow, standIns := [], harness := (true, "36672f9826787b7aab1872a45b9a683b57c3e1947bc6578850fc7fbbe0d09eff"), looks := false }, kinds := [], alts := [], laidByText := true, laidKinds := [.data, .data, .data, .data, .pinned], laidTests := true, laidLooks := .later }
def GaitGolaysCardSaid : Prop := Claim7.holds Tryd.pinned (.plain (OpenSpec.ofChange gaitGolaysSpec)) gaitGolaysCard

/-- THE TIED CARD OF 'pritchellaw05.GaitPairs'. -/
def gaitPairsCard : Claim7 := { stood := { row := gaitPairsRow, standIns := [], harness := (true, "36672f9826787b7aab1872a45b9a683b57c3e1947bc6578850fc7fbbe0d09eff"), looks := false }, kinds := [], alts := [], laidByText := true, laidKinds := [.data, .data, .data, .data, .pinned], laidTests := true, laidLooks := .later }
def GaitPairsCardSaid : Prop := Claim7.holds Tryd.pinned (.plain (OpenSpec.ofChange gaitPairsSpec)) gaitPairsCard

/-- THE TIED CARD OF 'pritchellaw05.GaitPrimes'. -/
def gaitPrimesCard : Claim7 := { stood := { row := gaitPrimesRow, standIns := [], harness := (true, "36672f9826787b7aab1872a45b9a683b57c3e1947bc6578850fc7fbbe0d09eff"), looks := false }, kinds := [], alts := [], laidByText := true, laidKinds := [.data, .data, .data, .data, .pinned], laidTests := true, laidLooks := .later }
def GaitPrimesCardSaid : Prop := Claim7.holds Tryd.pinned (.plain (OpenSpec.ofChange gaitPrimesSpec)) gaitPrimesCard

/-- THE TIED CARD OF 'pritchellaw05.GaitSylvesters'. -/
def gaitSylvestersCard : Claim7 := { stood := { row := gaitSylvestersRow, standIns := [], harness := (true, "36672f9826787b7aab1872a45b9a683b57c3e1947bc6578850fc7fbbe0d09eff"), looks := false }, kinds := [], alts := [], laidByText := true, laidKinds := [.data, .data, .data, .data, .pinned], laidTests := true, laidLooks := .later }
def GaitSylvestersCardSaid : Prop := Claim7.holds Tryd.pinned (.plain (OpenSpec.ofChange gaitSylvestersSpec)) gaitSylvestersCard

/-- THE TIED CARD OF 'pritchellaw05.GaitMatrices'. -/
def gaitMatricesCard : Claim7 := { stood := { row := gaitMatricesRow, standIns := [], harness := (true, "36672f9826787b7aab1872a45b9a683b57c3e1947bc6578850fc7fbbe0d09eff"), looks := false }, kinds := [], alts := [], laidByText := true, laidKinds := [.data, .data, .data, .data, .pinned], laidTests := true, laidLooks := .later }
def GaitMatricesCardSaid : Prop := Claim7.holds Tryd.pinned (.plain (OpenSpec.ofChange gaitMatricesSpec)) gaitMatricesCard

/-- THE TIED CARD OF 'pritchellaw05.GaitTransforms'. -/
def gaitTransformsCard : Claim7 := { stood := { row := gaitTransformsRow, standIns := [], harness := (true, "36672f9826787b7aab1872a45b9a683b57c3e1947bc6578850fc7fbbe0d09eff"), looks := false }, kinds := [], alts := [], laidByText := true, laidKinds := [.data, .data, .data, .data, .pinned], laidTests := true, laidLooks := .later }
def GaitTransformsCardSaid : Prop := Claim7.holds Tryd.pinned (.plain (OpenSpec.ofChange gaitTransformsSpec)) gaitTransformsCard

/-- THE TIED CARD OF 'pritchellaw05.GaitBents'. -/
def gaitBentsCard : Claim7 := { stood := { row := gaitBentsRow, standIns := [], harness := (true, "36672f9826787b7aab1872a45b9a683b57c3e1947bc6578850fc7fbbe0d09eff"), looks := false }, kinds := [], alts := [], laidByText := true, laidKinds := [.data, .data, .data, .data, .pinned], laidTests := true, laidLooks := .later }
def GaitBentsCardSaid : Prop := Claim7.holds Tryd.pinned (.plain (OpenSpec.ofChange gaitBentsSpec)) gaitBentsCard

/-- THE TIED CARD OF 'pritchellaw05.GaitBarker'. -/
def gaitBarkerCard : Claim7 := { stood := { row := gaitBarkerRow, standIns := [], harness := (true, "36672f9826787b7aab1872a45b9a683b57c3e1947bc6578850fc7fbbe0d09eff"), looks := false }, kinds := [], alts := [], laidByText := true, laidKinds := [.data, .data, .data, .data, .pinned], laidTests := true, laidLooks := .later }
def GaitBarkerCardSaid : Prop := Claim7.holds Tryd.pinned (.plain (OpenSpec.ofChange gaitBarkerSpec)) gaitBarkerCard

/-- THE TIED CARD OF 'pritchellaw05.GaitGolay'. -/
def gaitGolayCard : Claim7 := { stood := { row := gaitGolayRow, standIns := [], harness := (true, "36672f9826787b7aab1872a45b9a683b57c3e1947bc6578850fc7fbbe0d09eff"), looks := false }, kinds := [], alts := [], laidByText := true, laidKinds := [.data, .data, .data, .data, .pinned], laidTests := true, laidLooks := .later }
def GaitGolayCardSaid : Prop := Claim7.holds Tryd.pinned (.plain (OpenSpec.ofChange gaitGolaySpec)) gaitGolayCard

/-- THE TIED CARD OF 'pritchellaw05.GaitLegendre'. -/
def gaitLegendreCard : Claim7 := { stood := { row := gaitLegendreRow, standIns := [], harness := (true, "36672f9826787b7aab1872a45b9a683b57c3e1947bc6578850fc7fbbe0d09eff"), looks := false }, kinds := [], alts := [], laidByText := true, laidKinds := [.data, .data, .data, .data, .pinned], laidTests := true, laidLooks := .later }
def GaitLegendreCardSaid : Prop := Claim7.holds Tryd.pinned (.plain (OpenSpec.ofChange gaitLegendreSpec)) gaitLegendreCard

/-- THE SECOND FORM's CARD OF 'pritchellaw05.GaitLikes'. -/
def gaitLikesUptoCard : Claim7 := { stood := { row := gaitLikesUptoRow, standIns := [], harness := (true, "36672f9826787b7aab1872a45b9a683b57c3e1947bc6578850fc7fbbe0d09eff"), looks := false }, kinds := [], alts := [], laidByText := true, laidKinds := [.data, .data, .data, .data, .pinned], laidTests := true, laidLooks := .later }
def GaitLikesUptoCardSaid : Prop := Claim7.holds Tryd.pinned (.plain (OpenSpec.upto gaitLikesSpec)) gaitLikesUptoCard

/-- THE SECOND FORM's CARD OF 'pritchellaw05.GaitBarkers'. -/
def gaitBarkersUptoCard : Claim7 := { stood := { row := gaitBarkersUptoRow, standIns := [], harness := (true, "36672f9826787b7aab1872a45b9a683b57c3e1947bc6578850fc7fbbe0d09eff"), looks := false }, kinds := [], alts := [], laidByText := true, laidKinds := [.data, .data, .data, .data, .pinned], laidTests := true, laidLooks := .later }
def GaitBarkersUptoCardSaid : Prop := Claim7.holds Tryd.pinned (.plain (OpenSpec.upto gaitBarkersSpec)) gaitBarkersUptoCard

/-- THE SECOND FORM's CARD OF 'pritchellaw05.GaitGolays'. -/
def gaitGolaysUptoCard : Claim7 := { stood := { row := gaitGolaysUptoRow, standIns := [], harness := (true, "36672f9826787b7aab1872a45b9a683b57c3e1947bc6578850fc7fbbe0d09eff"), looks := false }, kinds := [], alts := [], laidByText := true, laidKinds := [.data, .data, .data, .data, .pinned], laidTests := true, laidLooks := .later }
def GaitGolaysUptoCardSaid : Prop := Claim7.holds Tryd.pinned (.plain (OpenSpec.upto gaitGolaysSpec)) gaitGolaysUptoCard

/-- THE SECOND FORM's CARD OF 'pritchellaw05.GaitPairs'. -/
def gaitPairsUptoCard : Claim7 := { stood := { row := gaitPairsUptoRow, standIns := [], harness := (true, "36672f9826787b7aab1872a45b9a683b57c3e1947bc6578850fc7fbbe0d09eff"), looks := false }, kinds := [], alts := [], laidByText := true, laidKinds := [.data, .data, .data, .data, .pinned], laidTests := true, laidLooks := .later }
def GaitPairsUptoCardSaid : Prop := Claim7.holds Tryd.pinned (.plain (OpenSpec.upto gaitPairsSpec)) gaitPairsUptoCard

/-- THE SECOND FORM's CARD OF 'pritchellaw05.GaitPrimes'. -/
def gaitPrimesUptoCard : Claim7 := { stood := { row := gaitPrimesUptoRow, standIns := [], harness := (true, "36672f9826787b7aab1872a45b9a683b57c3e1947bc6578850fc7fbbe0d09eff"), looks := false }, kinds := [], alts := [], laidByText := true, laidKinds := [.data, .data, .data, .data, .pinned], laidTests := true, laidLooks := .later }
def GaitPrimesUptoCardSaid : Prop := Claim7.holds Tryd.pinned (.plain (OpenSpec.upto gaitPrimesSpec)) gaitPrimesUptoCard

/-- THE SECOND FORM's CARD OF 'pritchellaw05.GaitSylvesters'. -/
def gaitSylvestersUptoCard : Claim7 := { stood := { row := gaitSylvestersUptoRow, standIns := [], harness := (true, "36672f9826787b7aab1872a45b9a683b57c3e1947bc6578850fc7fbbe0d09eff"), looks := false }, kinds := [], alts := [], laidByText := true, laidKinds := [.data, .data, .data, .data, .pinned], laidTests := true, laidLooks := .later }
def GaitSylvestersUptoCardSaid : Prop := Claim7.holds Tryd.pinned (.plain (OpenSpec.upto gaitSylvestersSpec)) gaitSylvestersUptoCard

/-- THE SECOND FORM's CARD OF 'pritchellaw05.GaitMatrices'. -/
def gaitMatricesUptoCard : Claim7 := { stood := { row := gaitMatricesUptoRow, standIns := [], harness := (true, "36672f9826787b7aab1872a45b9a683b57c3e1947bc6578850fc7fbbe0d09eff"), looks := false }, kinds := [], alts := [], laidByText := true, laidKinds := [.data, .data, .data, .data, .pinned], laidTests := true, laidLooks := .later }
def GaitMatricesUptoCardSaid : Prop := Claim7.holds Tryd.pinned (.plain (OpenSpec.upto gaitMatricesSpec)) gaitMatricesUptoCard

/-- THE SECOND FORM's CARD OF 'pritchellaw05.GaitTransforms'. -/
def gaitTransformsUptoCard : Claim7 := { stood := { row := gaitTransformsUptoRow, standIns := [], harness := (true, "36672f9826787b7aab1872a45b9a683b57c3e1947bc6578850fc7fbbe0d09eff"), looks := false }, kinds := [], alts := [], laidByText := true, laidKinds := [.data, .data, .data, .data, .pinned], laidTests := true, laidLooks := .later }
def GaitTransformsUptoCardSaid : Prop := Claim7.holds Tryd.pinned (.plain (OpenSpec.upto gaitTransformsSpec)) gaitTransformsUptoCard

/-- THE SECOND FORM's CARD OF 'pritchellaw05.GaitBents'. -/
def gaitBentsUptoCard : Claim7 := { stood := { row := gaitBentsUptoRow, standIns := [], harness := (true, "36672f9826787b7aab1872a45b9a683b57c3e1947bc6578850fc7fbbe0d09eff"), looks := false }, kinds := [], alts := [], laidByText := true, laidKinds := [.data, .data, .data, .data, .pinned], laidTests := true, laidLooks := .later }
def GaitBentsUptoCardSaid : Prop := Claim7.holds Tryd.pinned (.plain (OpenSpec.upto gaitBentsSpec)) gaitBentsUptoCard

/-- THE SECOND FORM's CARD OF 'pritchellaw05.GaitBarker'. -/
def gaitBarkerUptoCard : Claim7 := { stood := { row := gaitBarkerUptoRow, standIns := [], harness := (true, "36672f9826787b7aab1872a45b9a683b57c3e1947bc6578850fc7fbbe0d09eff"), looks := false }, kinds := [], alts := [], laidByText := true, laidKinds := [.data, .data, .data, .data, .pinned], laidTests := true, laidLooks := .later }
def GaitBarkerUptoCardSaid : Prop := Claim7.holds Tryd.pinned (.plain (OpenSpec.upto gaitBarkerSpec)) gaitBarkerUptoCard

/-- THE SECOND FORM's CARD OF 'pritchellaw05.GaitGolay'. -/
def gaitGolayUptoCard : Claim7 := { stood := { row := gaitGolayUptoRow, standIns := [], harness := (true, "36672f9826787b7aab1872a45b9a683b57c3e1947bc6578850fc7fbbe0d09eff"), looks := false }, kinds := [], alts := [], laidByText := true, laidKinds := [.data, .data, .data, .data, .pinned], laidTests := true, laidLooks := .later }
def GaitGolayUptoCardSaid : Prop := Claim7.holds Tryd.pinned (.plain (OpenSpec.upto gaitGolaySpec)) gaitGolayUptoCard

/-- THE SECOND FORM's CARD OF 'pritchellaw05.GaitLegendre'. -/
def gaitLegendreUptoCard : Claim7 := { stood := { row := gaitLegendreUptoRow, standIns := [], harness := (true, "36672f9826787b7aab1872a45b9a683b57c3e1947bc6578850fc7fbbe0d09eff"), looks := false }, kinds := [], alts := [], laidByText := true, laidKinds := [.data, .data, .data, .data, .pinned], laidTests := true, laidLooks := .later }
def GaitLegendreUptoCardSaid : Prop := Claim7.holds Tryd.pinned (.plain (OpenSpec.upto gaitLegendreSpec)) gaitLegendreUptoCard
end Rows
end Go.Proofs.YtcgbfhjefepafaaDoor
