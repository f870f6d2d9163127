/-
  DERIVED. GIVEN WITH THE SEED: THE CARDS: each row of YthigeafojekclaaDoorRows.lean that lists a variable, with what it lists TIED to the program's text (the seventh form; the later family's looks); each row that meets fmt, with fmt's text TOLD by the authors' own Lean function (tested against real Go, not proved from fmt's source: count such statements apart). THE CARD IS WHAT COUNTS. Prove the row's statement (the work); the ties are given (YthigeafojekclaaDoorTie.lean); close each card by the builder's one call (the guide's Derived/Test/ToyasCard.lean, 'card_holds'). Laid BY PROGRAM, IN A SANDBOX (cutbox-door.mjs). By AI agents, Wed Nov 11 2026. No macro, syntax, notation, axiom, sorry.
-/
import Derived.Test.YthigeafojekclaaDoorRows
import GoSem.ClaimSeven
namespace Go.Proofs.YthigeafojekclaaDoor
namespace Rows

/-- THE TIED CARD OF 'pritchellaw05.GaitLikes'. -/
def gaitLikesCard : Claim7 := { stood := { row := gaitLikesRow, standIns := [], harness := (true, "edbfe5e082f30adcc242ddc2876dab48ab5f13a76d68d04849f24bf54c782b29"), looks := false }, kinds := [], alts := [], laidByText := true, laidKinds := [.data, .data, .data, .data, .pinned], laidTests := true, laidLooks := .later }
def GaitLikesCardSaid : Prop := Claim7.holds Tryd.pinned (.plain (OpenSpec.ofChange gaitLikesSpec)) gaitLikesCard

/-- THE TIED CARD OF 'pritchellaw05.GaitChanged'. -/
def gaitChangedCard : Claim7 := { stood := { row := gaitChangedRow, standIns := [], harness := (true, "edbfe5e082f30adcc242ddc2876dab48ab5f13a76d68d04849f24bf54c782b29"), looks := false }, kinds := [], alts := [], laidByText := true, laidKinds := [.data, .data, .data, .data, .pinned], laidTests := true, laidLooks := .later }
def GaitChangedCardSaid : Prop := Claim7.holds Tryd.pinned (.plain (OpenSpec.ofChange gaitChangedSpec)) gaitChangedCard

/-- THE SECOND FORM's CARD OF 'pritchellaw05.GaitLikes'. -/
def gaitLikesUptoCard : Claim7 := { stood := { row := gaitLikesUptoRow, standIns := [], harness := (true, "edbfe5e082f30adcc242ddc2876dab48ab5f13a76d68d04849f24bf54c782b29"), looks := false }, kinds := [], alts := [], laidByText := true, laidKinds := [.data, .data, .data, .data, .pinned], laidTests := true, laidLooks := .later }
def GaitLikesUptoCardSaid : Prop := Claim7.holds Tryd.pinned (.plain (OpenSpec.upto gaitLikesSpec)) gaitLikesUptoCard

/-- THE SECOND FORM's CARD OF 'pritchellaw05.GaitChanged'. -/
def gaitChangedUptoCard : Claim7 := { stood := { row := gaitChangedUptoRow, standIns := [], harness := (true, "edbfe5e082f30adcc242ddc2876dab48ab5f13a76d68d04849f24bf54c782b29"), looks := false }, kinds := [], alts := [], laidByText := true, laidKinds := [.data, .data, .data, .data, .pinned], laidTests := true, laidLooks := .later }
def GaitChangedUptoCardSaid : Prop := Claim7.holds Tryd.pinned (.plain (OpenSpec.upto gaitChangedSpec)) gaitChangedUptoCard
end Rows
end Go.Proofs.YthigeafojekclaaDoor
