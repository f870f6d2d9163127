/-
  No cell of these rows narrows 'for every input' (looked for: loops, veiled, ifaces, maps, wideKeys, modest, calm, conditions, laid).
  DERIVED. THE GIVEN ROWS OF THIS SEAT. 12 by the template 'for every input the law returns true; each argument reads behind the call as it read before'; 0 by the template 'total and deterministic' (their statements: YtlgpclnmonpkjaaTotals.lean).
  GIVEN WITH THE SEED: the statements are not yours to turn. If you find one false, say at which input.
  Laid BY PROGRAM, IN A SANDBOX (cutbox-rows.mjs): the forced cells as the released guide's own fill.sh prints them over the translation 0b52c182a9c7a241… (all of the seat's roots in one cut). By AI agents, Wed Nov 11 2026. No macro, syntax, notation, axiom, sorry.
-/
import Derived.Test.YtlgpclnmonpkjaaChecked
import GoSem.Claim
import GoSem.ClaimJoined
import GoSem.ClaimMapViews
import Derived.JoinedTies
import Derived.KernelRfl
namespace Go.Proofs.Ytlgpclnmonpkjaa
/- THE CELL 'sum', in the pinned program and in every row, IS THE sha256 OF THE DUMP (.gsa) THAT YtlgpclnmonpkjaaProg.lean LOADS. Nothing in Lean hashes anything: it is a label: what it is worth is what the hold of that sum in a sandbox is worth. -/
noncomputable def Try.pinned : Pinned := { name := "ytlgpclnmonpkjaa", sum := "0b52c182a9c7a241bbd857d1804c466b09687bcb2ba6e4b4fd431fc8d0ffb5bf", checked := Try.checked }
namespace Rows
def none {H : Type} : Left H := { results := [], args := [] }

/-- 'pritchellaw07.RoadDistances': WHATEVER THE INPUT: true; the input reads as it did. -/
def roadDistancesSpec : ChangeSpec := { name := "roadDistances", fn := fun _ => fun
  | [d1, d2, d3] => { results := [.lit (.bool true)], args := [d1, d2, d3] }
  | _ => none }
def roadDistancesRow : OpenClaim := { program := "ytlgpclnmonpkjaa", sum := "0b52c182a9c7a241bbd857d1804c466b09687bcb2ba6e4b4fd431fc8d0ffb5bf", func := "pritchel/pritchellaw07.RoadDistances", spec := "roadDistances", unfollowed := true, recurses := true, plainKeys := false, apart := false }
def RoadDistancesSaid : Prop := roadDistancesRow.holds Try.pinned (OpenSpec.ofChange roadDistancesSpec)

/-- ITS FALSE NEIGHBOUR: 'it returns false'. Refute it at one input. -/
def roadDistancesWrong : ChangeSpec := { name := "roadDistances", fn := fun _ => fun
  | [d1, d2, d3] => { results := [.lit (.bool false)], args := [d1, d2, d3] }
  | _ => none }
def RoadDistancesWrongFalsely : Prop := roadDistancesRow.holds Try.pinned (OpenSpec.ofChange roadDistancesWrong)

/-- 'pritchellaw07.RoadSteps': WHATEVER THE INPUT: true; the input reads as it did. -/
def roadStepsSpec : ChangeSpec := { name := "roadSteps", fn := fun _ => fun
  | [d1, d2, d3] => { results := [.lit (.bool true)], args := [d1, d2, d3] }
  | _ => none }
def roadStepsRow : OpenClaim := { program := "ytlgpclnmonpkjaa", sum := "0b52c182a9c7a241bbd857d1804c466b09687bcb2ba6e4b4fd431fc8d0ffb5bf", func := "pritchel/pritchellaw07.RoadSteps", spec := "roadSteps", unfollowed := true, recurses := true, plainKeys := false, apart := false }
def RoadStepsSaid : Prop := roadStepsRow.holds Try.pinned (OpenSpec.ofChange roadStepsSpec)

/-- ITS FALSE NEIGHBOUR: 'it returns false'. Refute it at one input. -/
def roadStepsWrong : ChangeSpec := { name := "roadSteps", fn := fun _ => fun
  | [d1, d2, d3] => { results := [.lit (.bool false)], args := [d1, d2, d3] }
  | _ => none }
def RoadStepsWrongFalsely : Prop := roadStepsRow.holds Try.pinned (OpenSpec.ofChange roadStepsWrong)

/-- 'pritchellaw07.RoadServes': WHATEVER THE INPUT: true; the input reads as it did. -/
def roadServesSpec : ChangeSpec := { name := "roadServes", fn := fun _ => fun
  | [d] => { results := [.lit (.bool true)], args := [d] }
  | _ => none }
def roadServesRow : OpenClaim := { program := "ytlgpclnmonpkjaa", sum := "0b52c182a9c7a241bbd857d1804c466b09687bcb2ba6e4b4fd431fc8d0ffb5bf", func := "pritchel/pritchellaw07.RoadServes", spec := "roadServes", unfollowed := true, recurses := true, plainKeys := false, apart := false }
def RoadServesSaid : Prop := roadServesRow.holds Try.pinned (OpenSpec.ofChange roadServesSpec)

/-- ITS FALSE NEIGHBOUR: 'it returns false'. Refute it at one input. -/
def roadServesWrong : ChangeSpec := { name := "roadServes", fn := fun _ => fun
  | [d] => { results := [.lit (.bool false)], args := [d] }
  | _ => none }
def RoadServesWrongFalsely : Prop := roadServesRow.holds Try.pinned (OpenSpec.ofChange roadServesWrong)

/-- 'pritchellaw07.RoadBests': WHATEVER THE INPUT: true; the input reads as it did. -/
def roadBestsSpec : ChangeSpec := { name := "roadBests", fn := fun _ => fun
  | [d] => { results := [.lit (.bool true)], args := [d] }
  | _ => none }
def roadBestsRow : OpenClaim := { program := "ytlgpclnmonpkjaa", sum := "0b52c182a9c7a241bbd857d1804c466b09687bcb2ba6e4b4fd431fc8d0ffb5bf", func := "pritchel/pritchellaw07.RoadBests", spec := "roadBests", unfollowed := true, recurses := true, plainKeys := false, apart := false }
def RoadBestsSaid : Prop := roadBestsRow.holds Try.pinned (OpenSpec.ofChange roadBestsSpec)

/-- ITS FALSE NEIGHBOUR: 'it returns false'. Refute it at one input. -/
def roadBestsWrong : ChangeSpec := { name := "roadBests", fn := fun _ => fun
  | [d] => { results := [.lit (.bool false)], args := [d] }
  | _ => none }
def RoadBestsWrongFalsely : Prop := roadBestsRow.holds Try.pinned (OpenSpec.ofChange roadBestsWrong)

/-- 'pritchellaw07.RoadCosts': WHATEVER THE INPUT: true; the input reads as it did. -/
def roadCostsSpec : ChangeSpec := { name := "roadCosts", fn := fun _ => fun
  | [d1, d2] => { results := [.lit (.bool true)], args := [d1, d2] }
  | _ => none }
def roadCostsRow : OpenClaim := { program := "ytlgpclnmonpkjaa", sum := "0b52c182a9c7a241bbd857d1804c466b09687bcb2ba6e4b4fd431fc8d0ffb5bf", func := "pritchel/pritchellaw07.RoadCosts", spec := "roadCosts", unfollowed := true, recurses := true, plainKeys := false, apart := false }
def RoadCostsSaid : Prop := roadCostsRow.holds Try.pinned (OpenSpec.ofChange roadCostsSpec)

/-- ITS FALSE NEIGHBOUR: 'it returns false'. Refute it at one input. -/
def roadCostsWrong : ChangeSpec := { name := "roadCosts", fn := fun _ => fun
  | [d1, d2] => { results := [.lit (.bool false)], args := [d1, d2] }
  | _ => none }
def RoadCostsWrongFalsely : Prop := roadCostsRow.holds Try.pinned (OpenSpec.ofChange roadCostsWrong)

/-- 'pritchellaw07.RoadPotentials': WHATEVER THE INPUT: true; the input reads as it did. -/
def roadPotentialsSpec : ChangeSpec := { name := "roadPotentials", fn := fun _ => fun
  | [d1, d2, d3] => { results := [.lit (.bool true)], args := [d1, d2, d3] }
  | _ => none }
def roadPotentialsRow : OpenClaim := { program := "ytlgpclnmonpkjaa", sum := "0b52c182a9c7a241bbd857d1804c466b09687bcb2ba6e4b4fd431fc8d0ffb5bf", func := "pritchel/pritchellaw07.RoadPotentials", spec := "roadPotentials", unfollowed := true, recurses := true, plainKeys := false, apart := false }
def RoadPotentialsSaid : Prop := roadPotentialsRow.holds Try.pinned (OpenSpec.ofChange roadPotentialsSpec)

/-- ITS FALSE NEIGHBOUR: 'it returns false'. Refute it at one input. -/
def roadPotentialsWrong : ChangeSpec := { name := "roadPotentials", fn := fun _ => fun
  | [d1, d2, d3] => { results := [.lit (.bool false)], args := [d1, d2, d3] }
  | _ => none }
def RoadPotentialsWrongFalsely : Prop := roadPotentialsRow.holds Try.pinned (OpenSpec.ofChange roadPotentialsWrong)

/-- 'pritchellaw07.RoadFalls': WHATEVER THE INPUT: true; the input reads as it did. -/
def roadFallsSpec : ChangeSpec := { name := "roadFalls", fn := fun _ => fun
  | [d1, d2, d3] => { results := [.lit (.bool true)], args := [d1, d2, d3] }
  | _ => none }
def roadFallsRow : OpenClaim := { program := "ytlgpclnmonpkjaa", sum := "0b52c182a9c7a241bbd857d1804c466b09687bcb2ba6e4b4fd431fc8d0ffb5bf", func := "pritchel/pritchellaw07.RoadFalls", spec := "roadFalls", unfollowed := true, recurses := true, plainKeys := false, apart := false }
def RoadFallsSaid : Prop := roadFallsRow.holds Try.pinned (OpenSpec.ofChange roadFallsSpec)

/-- ITS FALSE NEIGHBOUR: 'it returns false'. Refute it at one input. -/
def roadFallsWrong : ChangeSpec := { name := "roadFalls", fn := fun _ => fun
  | [d1, d2, d3] => { results := [.lit (.bool false)], args := [d1, d2, d3] }
  | _ => none }
def RoadFallsWrongFalsely : Prop := roadFallsRow.holds Try.pinned (OpenSpec.ofChange roadFallsWrong)

/-- 'pritchellaw07.RoadBest': WHATEVER THE INPUT: true; the input reads as it did. -/
def roadBestSpec : ChangeSpec := { name := "roadBest", fn := fun _ => fun
  | [d1, d2] => { results := [.lit (.bool true)], args := [d1, d2] }
  | _ => none }
def roadBestRow : OpenClaim := { program := "ytlgpclnmonpkjaa", sum := "0b52c182a9c7a241bbd857d1804c466b09687bcb2ba6e4b4fd431fc8d0ffb5bf", func := "pritchel/pritchellaw07.RoadBest", spec := "roadBest", unfollowed := true, recurses := true, plainKeys := false, apart := false }
def RoadBestSaid : Prop := roadBestRow.holds Try.pinned (OpenSpec.ofChange roadBestSpec)

/-- ITS FALSE NEIGHBOUR: 'it returns false'. Refute it at one input. -/
def roadBestWrong : ChangeSpec := { name := "roadBest", fn := fun _ => fun
  | [d1, d2] => { results := [.lit (.bool false)], args := [d1, d2] }
  | _ => none }
def RoadBestWrongFalsely : Prop := roadBestRow.holds Try.pinned (OpenSpec.ofChange roadBestWrong)

/-- 'pritchellaw07.RoadAlone': WHATEVER THE INPUT: true; the input reads as it did. -/
def roadAloneSpec : ChangeSpec := { name := "roadAlone", fn := fun _ => fun
  | [d] => { results := [.lit (.bool true)], args := [d] }
  | _ => none }
def roadAloneRow : OpenClaim := { program := "ytlgpclnmonpkjaa", sum := "0b52c182a9c7a241bbd857d1804c466b09687bcb2ba6e4b4fd431fc8d0ffb5bf", func := "pritchel/pritchellaw07.RoadAlone", spec := "roadAlone", unfollowed := true, recurses := true, plainKeys := false, apart := false }
def RoadAloneSaid : Prop := roadAloneRow.holds Try.pinned (OpenSpec.ofChange roadAloneSpec)

/-- ITS FALSE NEIGHBOUR: 'it returns false'. Refute it at one input. -/
def roadAloneWrong : ChangeSpec := { name := "roadAlone", fn := fun _ => fun
  | [d] => { results := [.lit (.bool false)], args := [d] }
  | _ => none }
def RoadAloneWrongFalsely : Prop := roadAloneRow.holds Try.pinned (OpenSpec.ofChange roadAloneWrong)

/-- 'pritchellaw07.RoadTwice': WHATEVER THE INPUT: true; the input reads as it did. -/
def roadTwiceSpec : ChangeSpec := { name := "roadTwice", fn := fun _ => fun
  | [d] => { results := [.lit (.bool true)], args := [d] }
  | _ => none }
def roadTwiceRow : OpenClaim := { program := "ytlgpclnmonpkjaa", sum := "0b52c182a9c7a241bbd857d1804c466b09687bcb2ba6e4b4fd431fc8d0ffb5bf", func := "pritchel/pritchellaw07.RoadTwice", spec := "roadTwice", unfollowed := true, recurses := true, plainKeys := false, apart := false }
def RoadTwiceSaid : Prop := roadTwiceRow.holds Try.pinned (OpenSpec.ofChange roadTwiceSpec)

/-- ITS FALSE NEIGHBOUR: 'it returns false'. Refute it at one input. -/
def roadTwiceWrong : ChangeSpec := { name := "roadTwice", fn := fun _ => fun
  | [d] => { results := [.lit (.bool false)], args := [d] }
  | _ => none }
def RoadTwiceWrongFalsely : Prop := roadTwiceRow.holds Try.pinned (OpenSpec.ofChange roadTwiceWrong)

/-- 'pritchellaw07.RoadBegun': WHATEVER THE INPUT: true; the input reads as it did. -/
def roadBegunSpec : ChangeSpec := { name := "roadBegun", fn := fun _ => fun
  | [d1, d2] => { results := [.lit (.bool true)], args := [d1, d2] }
  | _ => none }
def roadBegunRow : OpenClaim := { program := "ytlgpclnmonpkjaa", sum := "0b52c182a9c7a241bbd857d1804c466b09687bcb2ba6e4b4fd431fc8d0ffb5bf", func := "pritchel/pritchellaw07.RoadBegun", spec := "roadBegun", unfollowed := true, recurses := true, plainKeys := false, apart := false }
def RoadBegunSaid : Prop := roadBegunRow.holds Try.pinned (OpenSpec.ofChange roadBegunSpec)

/-- ITS FALSE NEIGHBOUR: 'it returns false'. Refute it at one input. -/
def roadBegunWrong : ChangeSpec := { name := "roadBegun", fn := fun _ => fun
  | [d1, d2] => { results := [.lit (.bool false)], args := [d1, d2] }
  | _ => none }
def RoadBegunWrongFalsely : Prop := roadBegunRow.holds Try.pinned (OpenSpec.ofChange roadBegunWrong)

/-- 'pritchellaw07.RoadThree': WHATEVER THE INPUT: true; the input reads as it did. -/
def roadThreeSpec : ChangeSpec := { name := "roadThree", fn := fun _ => fun
  | [d1, d2] => { results := [.lit (.bool true)], args := [d1, d2] }
  | _ => none }
def roadThreeRow : OpenClaim := { program := "ytlgpclnmonpkjaa", sum := "0b52c182a9c7a241bbd857d1804c466b09687bcb2ba6e4b4fd431fc8d0ffb5bf", func := "pritchel/pritchellaw07.RoadThree", spec := "roadThree", unfollowed := true, recurses := true, plainKeys := false, apart := false }
def RoadThreeSaid : Prop := roadThreeRow.holds Try.pinned (OpenSpec.ofChange roadThreeSpec)

/-- ITS FALSE NEIGHBOUR: 'it returns false'. Refute it at one input. -/
def roadThreeWrong : ChangeSpec := { name := "roadThree", fn := fun _ => fun
  | [d1, d2] => { results := [.lit (.bool false)], args := [d1, d2] }
  | _ => none }
def RoadThreeWrongFalsely : Prop := roadThreeRow.holds Try.pinned (OpenSpec.ofChange roadThreeWrong)

/- THE SECOND FORM. 'bulk': how many values and letters a reading holds, each counted each time it is reached (what is shared counts as often as it is met; a slice's spare places count too). A statement '..UptoSaid' is the law's where the arguments, and the package variables that the reading takes, are together of bulk at most 1048576: NARROWER than '..Said'. Prove '..Said' where nothing that the law and all that it calls make is longer than what came in: it says more and counts as full. Else prove '..UptoSaid'. A law counts once. -/
mutual
def uptoBulk {H : Type} : DataW H → Nat
  | .lit (.string bytes) => bytes.length + 1
  | .lit _ => 1
  | .nil => 1
  | .ptr d => uptoBulk d + 1
  | .slice elems spare => uptoBulkAll elems + uptoBulkAll spare + 1
  | .agg parts => uptoBulkAll parts + 1
  | .iface _ d => uptoBulk d + 1
  | .map entries => uptoBulkEntries entries + 1
  | .held _ => 1
def uptoBulkAll {H : Type} : List (DataW H) → Nat
  | [] => 0
  | d :: r => uptoBulk d + uptoBulkAll r
def uptoBulkEntries {H : Type} : List (Lit × DataW H) → Nat
  | [] => 0
  | x :: r => uptoBulkEntry x + uptoBulkEntries r
def uptoBulkEntry {H : Type} : Lit × DataW H → Nat
  | (.string bytes, d) => bytes.length + uptoBulk d + 1
  | (_, d) => uptoBulk d + 1
 end
def uptoSmall : (H : Type) → List (DataW H) → Bool := fun _ ds => decide (uptoBulkAll ds ≤ 1048576)
def OpenSpec.upto (s : _root_.Go.ChangeSpec) : _root_.Go.OpenSpec := { _root_.Go.OpenSpec.ofChange s with cond := some uptoSmall }

/-- 'pritchellaw07.RoadDistances', WHERE WHAT IT READS IS OF BULK AT MOST 1048576: true; the input reads as it did. -/
def roadDistancesUptoRow : OpenClaim := { program := "ytlgpclnmonpkjaa", sum := "0b52c182a9c7a241bbd857d1804c466b09687bcb2ba6e4b4fd431fc8d0ffb5bf", func := "pritchel/pritchellaw07.RoadDistances", spec := "roadDistances", unfollowed := true, recurses := true, plainKeys := false, apart := false, narrowed := true }
def RoadDistancesUptoSaid : Prop := roadDistancesUptoRow.holds Try.pinned (OpenSpec.upto roadDistancesSpec)

/-- 'pritchellaw07.RoadSteps', WHERE WHAT IT READS IS OF BULK AT MOST 1048576: true; the input reads as it did. -/
def roadStepsUptoRow : OpenClaim := { program := "ytlgpclnmonpkjaa", sum := "0b52c182a9c7a241bbd857d1804c466b09687bcb2ba6e4b4fd431fc8d0ffb5bf", func := "pritchel/pritchellaw07.RoadSteps", spec := "roadSteps", unfollowed := true, recurses := true, plainKeys := false, apart := false, narrowed := true }
def RoadStepsUptoSaid : Prop := roadStepsUptoRow.holds Try.pinned (OpenSpec.upto roadStepsSpec)

/-- 'pritchellaw07.RoadServes', WHERE WHAT IT READS IS OF BULK AT MOST 1048576: true; the input reads as it did. -/
def roadServesUptoRow : OpenClaim := { program := "ytlgpclnmonpkjaa", sum := "0b52c182a9c7a241bbd857d1804c466b09687bcb2ba6e4b4fd431fc8d0ffb5bf", func := "pritchel/pritchellaw07.RoadServes", spec := "roadServes", unfollowed := true, recurses := true, plainKeys := false, apart := false, narrowed := true }
def RoadServesUptoSaid : Prop := roadServesUptoRow.holds Try.pinned (OpenSpec.upto roadServesSpec)

/-- 'pritchellaw07.RoadBests', WHERE WHAT IT READS IS OF BULK AT MOST 1048576: true; the input reads as it did. -/
def roadBestsUptoRow : OpenClaim := { program := "ytlgpclnmonpkjaa", sum := "0b52c182a9c7a241bbd857d1804c466b09687bcb2ba6e4b4fd431fc8d0ffb5bf", func := "pritchel/pritchellaw07.RoadBests", spec := "roadBests", unfollowed := true, recurses := true, plainKeys := false, apart := false, narrowed := true }
def RoadBestsUptoSaid : Prop := roadBestsUptoRow.holds Try.pinned (OpenSpec.upto roadBestsSpec)

/-- 'pritchellaw07.RoadCosts', WHERE WHAT IT READS IS OF BULK AT MOST 1048576: true; the input reads as it did. -/
def roadCostsUptoRow : OpenClaim := { program := "ytlgpclnmonpkjaa", sum := "0b52c182a9c7a241bbd857d1804c466b09687bcb2ba6e4b4fd431fc8d0ffb5bf", func := "pritchel/pritchellaw07.RoadCosts", spec := "roadCosts", unfollowed := true, recurses := true, plainKeys := false, apart := false, narrowed := true }
def RoadCostsUptoSaid : Prop := roadCostsUptoRow.holds Try.pinned (OpenSpec.upto roadCostsSpec)

/-- 'pritchellaw07.RoadPotentials', WHERE WHAT IT READS IS OF BULK AT MOST 1048576: true; the input reads as it did. -/
def roadPotentialsUptoRow : OpenClaim := { program := "ytlgpclnmonpkjaa", sum := "0b52c182a9c7a241bbd857d1804c466b09687bcb2ba6e4b4fd431fc8d0ffb5bf", func := "pritchel/pritchellaw07.RoadPotentials", spec := "roadPotentials", unfollowed := true, recurses := true, plainKeys := false, apart := false, narrowed := true }
def RoadPotentialsUptoSaid : Prop := roadPotentialsUptoRow.holds Try.pinned (OpenSpec.upto roadPotentialsSpec)

/-- 'pritchellaw07.RoadFalls', WHERE WHAT IT READS IS OF BULK AT MOST 1048576: true; the input reads as it did. -/
def roadFallsUptoRow : OpenClaim := { program := "ytlgpclnmonpkjaa", sum := "0b52c182a9c7a241bbd857d1804c466b09687bcb2ba6e4b4fd431fc8d0ffb5bf", func := "pritchel/pritchellaw07.RoadFalls", spec := "roadFalls", unfollowed := true, recurses := true, plainKeys := false, apart := false, narrowed := true }
def RoadFallsUptoSaid : Prop := roadFallsUptoRow.holds Try.pinned (OpenSpec.upto roadFallsSpec)

/-- 'pritchellaw07.RoadBest', WHERE WHAT IT READS IS OF BULK AT MOST 1048576: true; the input reads as it did. -/
def roadBestUptoRow : OpenClaim := { program := "ytlgpclnmonpkjaa", sum := "0b52c182a9c7a241bbd857d1804c466b09687bcb2ba6e4b4fd431fc8d0ffb5bf", func := "pritchel/pritchellaw07.RoadBest", spec := "roadBest", unfollowed := true, recurses := true, plainKeys := false, apart := false, narrowed := true }
def RoadBestUptoSaid : Prop := roadBestUptoRow.holds Try.pinned (OpenSpec.upto roadBestSpec)

/-- 'pritchellaw07.RoadAlone', WHERE WHAT IT READS IS OF BULK AT MOST 1048576: true; the input reads as it did. -/
def roadAloneUptoRow : OpenClaim := { program := "ytlgpclnmonpkjaa", sum := "0b52c182a9c7a241bbd857d1804c466b09687bcb2ba6e4b4fd431fc8d0ffb5bf", func := "pritchel/pritchellaw07.RoadAlone", spec := "roadAlone", unfollowed := true, recurses := true, plainKeys := false, apart := false, narrowed := true }
def RoadAloneUptoSaid : Prop := roadAloneUptoRow.holds Try.pinned (OpenSpec.upto roadAloneSpec)

/-- 'pritchellaw07.RoadTwice', WHERE WHAT IT READS IS OF BULK AT MOST 1048576: true; the input reads as it did. -/
def roadTwiceUptoRow : OpenClaim := { program := "ytlgpclnmonpkjaa", sum := "0b52c182a9c7a241bbd857d1804c466b09687bcb2ba6e4b4fd431fc8d0ffb5bf", func := "pritchel/pritchellaw07.RoadTwice", spec := "roadTwice", unfollowed := true, recurses := true, plainKeys := false, apart := false, narrowed := true }
def RoadTwiceUptoSaid : Prop := roadTwiceUptoRow.holds Try.pinned (OpenSpec.upto roadTwiceSpec)

/-- 'pritchellaw07.RoadBegun', WHERE WHAT IT READS IS OF BULK AT MOST 1048576: true; the input reads as it did. -/
def roadBegunUptoRow : OpenClaim := { program := "ytlgpclnmonpkjaa", sum := "0b52c182a9c7a241bbd857d1804c466b09687bcb2ba6e4b4fd431fc8d0ffb5bf", func := "pritchel/pritchellaw07.RoadBegun", spec := "roadBegun", unfollowed := true, recurses := true, plainKeys := false, apart := false, narrowed := true }
def RoadBegunUptoSaid : Prop := roadBegunUptoRow.holds Try.pinned (OpenSpec.upto roadBegunSpec)

/-- 'pritchellaw07.RoadThree', WHERE WHAT IT READS IS OF BULK AT MOST 1048576: true; the input reads as it did. -/
def roadThreeUptoRow : OpenClaim := { program := "ytlgpclnmonpkjaa", sum := "0b52c182a9c7a241bbd857d1804c466b09687bcb2ba6e4b4fd431fc8d0ffb5bf", func := "pritchel/pritchellaw07.RoadThree", spec := "roadThree", unfollowed := true, recurses := true, plainKeys := false, apart := false, narrowed := true }
def RoadThreeUptoSaid : Prop := roadThreeUptoRow.holds Try.pinned (OpenSpec.upto roadThreeSpec)

end Rows
end Go.Proofs.Ytlgpclnmonpkjaa
