/-
  No cell of these rows narrows 'for every input' (looked for: loops, veiled, ifaces, maps, wideKeys, modest, calm, conditions, laid).
  DERIVED. THE GIVEN ROWS OF THIS SEAT. 12 by the template 'for every input the law returns true; each argument reads behind the call as it read before'; 0 by the template 'total and deterministic' (their statements: YtomnjcjipdnnfaaTotals.lean).
  GIVEN WITH THE SEED: the statements are not yours to turn. If you find one false, say at which input.
  Laid BY PROGRAM, IN A SANDBOX (cutbox-rows.mjs): the forced cells as the released guide's own fill.sh prints them over the translation 7ab5cd072bbcc5e3… (all of the seat's roots in one cut). By AI agents, Wed Nov 11 2026. No macro, syntax, notation, axiom, sorry.
-/
import Derived.Test.YtomnjcjipdnnfaaChecked
import GoSem.Claim
import GoSem.ClaimJoined
import GoSem.ClaimMapViews
import Derived.JoinedTies
import Derived.KernelRfl
namespace Go.Proofs.Ytomnjcjipdnnfaa
/- THE CELL 'sum', in the pinned program and in every row, IS THE sha256 OF THE DUMP (.gsa) THAT YtomnjcjipdnnfaaProg.lean LOADS. Nothing in Lean hashes anything: it is a label: what it is worth is what the hold of that sum in a sandbox is worth. -/
noncomputable def Try.pinned : Pinned := { name := "ytomnjcjipdnnfaa", sum := "7ab5cd072bbcc5e3adccc882640cf79f18820d250849594753bff38f3b0f081f", checked := Try.checked }
namespace Rows
def none {H : Type} : Left H := { results := [], args := [] }

/-- 'pritchellaw02.FootHausdorffs': WHATEVER THE INPUT: true; the input reads as it did. -/
def footHausdorffsSpec : ChangeSpec := { name := "footHausdorffs", fn := fun _ => fun
  | [d1, d2] => { results := [.lit (.bool true)], args := [d1, d2] }
  | _ => none }
def footHausdorffsRow : OpenClaim := { program := "ytomnjcjipdnnfaa", sum := "7ab5cd072bbcc5e3adccc882640cf79f18820d250849594753bff38f3b0f081f", func := "pritchel/pritchellaw02.FootHausdorffs", spec := "footHausdorffs", unfollowed := true, recurses := true, apart := false }
def FootHausdorffsSaid : Prop := footHausdorffsRow.holds Try.pinned (OpenSpec.ofChange footHausdorffsSpec)

/-- ITS FALSE NEIGHBOUR: 'it returns false'. Refute it at one input. -/
def footHausdorffsWrong : ChangeSpec := { name := "footHausdorffs", fn := fun _ => fun
  | [d1, d2] => { results := [.lit (.bool false)], args := [d1, d2] }
  | _ => none }
def FootHausdorffsWrongFalsely : Prop := footHausdorffsRow.holds Try.pinned (OpenSpec.ofChange footHausdorffsWrong)

/-- 'pritchellaw02.FootFrechets': WHATEVER THE INPUT: true; the input reads as it did. -/
def footFrechetsSpec : ChangeSpec := { name := "footFrechets", fn := fun _ => fun
  | [d1, d2] => { results := [.lit (.bool true)], args := [d1, d2] }
  | _ => none }
def footFrechetsRow : OpenClaim := { program := "ytomnjcjipdnnfaa", sum := "7ab5cd072bbcc5e3adccc882640cf79f18820d250849594753bff38f3b0f081f", func := "pritchel/pritchellaw02.FootFrechets", spec := "footFrechets", unfollowed := true, recurses := true, apart := false }
def FootFrechetsSaid : Prop := footFrechetsRow.holds Try.pinned (OpenSpec.ofChange footFrechetsSpec)

/-- ITS FALSE NEIGHBOUR: 'it returns false'. Refute it at one input. -/
def footFrechetsWrong : ChangeSpec := { name := "footFrechets", fn := fun _ => fun
  | [d1, d2] => { results := [.lit (.bool false)], args := [d1, d2] }
  | _ => none }
def FootFrechetsWrongFalsely : Prop := footFrechetsRow.holds Try.pinned (OpenSpec.ofChange footFrechetsWrong)

/-- 'pritchellaw02.FootWithins': WHATEVER THE INPUT: true; the input reads as it did. -/
def footWithinsSpec : ChangeSpec := { name := "footWithins", fn := fun _ => fun
  | [d1, d2, d3] => { results := [.lit (.bool true)], args := [d1, d2, d3] }
  | _ => none }
def footWithinsRow : OpenClaim := { program := "ytomnjcjipdnnfaa", sum := "7ab5cd072bbcc5e3adccc882640cf79f18820d250849594753bff38f3b0f081f", func := "pritchel/pritchellaw02.FootWithins", spec := "footWithins", unfollowed := true, recurses := true, apart := false }
def FootWithinsSaid : Prop := footWithinsRow.holds Try.pinned (OpenSpec.ofChange footWithinsSpec)

/-- ITS FALSE NEIGHBOUR: 'it returns false'. Refute it at one input. -/
def footWithinsWrong : ChangeSpec := { name := "footWithins", fn := fun _ => fun
  | [d1, d2, d3] => { results := [.lit (.bool false)], args := [d1, d2, d3] }
  | _ => none }
def FootWithinsWrongFalsely : Prop := footWithinsRow.holds Try.pinned (OpenSpec.ofChange footWithinsWrong)

/-- 'pritchellaw02.FootWarps': WHATEVER THE INPUT: true; the input reads as it did. -/
def footWarpsSpec : ChangeSpec := { name := "footWarps", fn := fun _ => fun
  | [d1, d2] => { results := [.lit (.bool true)], args := [d1, d2] }
  | _ => none }
def footWarpsRow : OpenClaim := { program := "ytomnjcjipdnnfaa", sum := "7ab5cd072bbcc5e3adccc882640cf79f18820d250849594753bff38f3b0f081f", func := "pritchel/pritchellaw02.FootWarps", spec := "footWarps", unfollowed := true, recurses := true, apart := false }
def FootWarpsSaid : Prop := footWarpsRow.holds Try.pinned (OpenSpec.ofChange footWarpsSpec)

/-- ITS FALSE NEIGHBOUR: 'it returns false'. Refute it at one input. -/
def footWarpsWrong : ChangeSpec := { name := "footWarps", fn := fun _ => fun
  | [d1, d2] => { results := [.lit (.bool false)], args := [d1, d2] }
  | _ => none }
def FootWarpsWrongFalsely : Prop := footWarpsRow.holds Try.pinned (OpenSpec.ofChange footWarpsWrong)

/-- 'pritchellaw02.FootTurns': WHATEVER THE INPUT: true; the input reads as it did. -/
def footTurnsSpec : ChangeSpec := { name := "footTurns", fn := fun _ => fun
  | [d1, d2] => { results := [.lit (.bool true)], args := [d1, d2] }
  | _ => none }
def footTurnsRow : OpenClaim := { program := "ytomnjcjipdnnfaa", sum := "7ab5cd072bbcc5e3adccc882640cf79f18820d250849594753bff38f3b0f081f", func := "pritchel/pritchellaw02.FootTurns", spec := "footTurns", unfollowed := true, recurses := true, apart := false }
def FootTurnsSaid : Prop := footTurnsRow.holds Try.pinned (OpenSpec.ofChange footTurnsSpec)

/-- ITS FALSE NEIGHBOUR: 'it returns false'. Refute it at one input. -/
def footTurnsWrong : ChangeSpec := { name := "footTurns", fn := fun _ => fun
  | [d1, d2] => { results := [.lit (.bool false)], args := [d1, d2] }
  | _ => none }
def FootTurnsWrongFalsely : Prop := footTurnsRow.holds Try.pinned (OpenSpec.ofChange footTurnsWrong)

/-- 'pritchellaw02.FootShorts': WHATEVER THE INPUT: true; the input reads as it did. -/
def footShortsSpec : ChangeSpec := { name := "footShorts", fn := fun _ => fun
  | [d1, d2] => { results := [.lit (.bool true)], args := [d1, d2] }
  | _ => none }
def footShortsRow : OpenClaim := { program := "ytomnjcjipdnnfaa", sum := "7ab5cd072bbcc5e3adccc882640cf79f18820d250849594753bff38f3b0f081f", func := "pritchel/pritchellaw02.FootShorts", spec := "footShorts", unfollowed := true, recurses := true, apart := false }
def FootShortsSaid : Prop := footShortsRow.holds Try.pinned (OpenSpec.ofChange footShortsSpec)

/-- ITS FALSE NEIGHBOUR: 'it returns false'. Refute it at one input. -/
def footShortsWrong : ChangeSpec := { name := "footShorts", fn := fun _ => fun
  | [d1, d2] => { results := [.lit (.bool false)], args := [d1, d2] }
  | _ => none }
def FootShortsWrongFalsely : Prop := footShortsRow.holds Try.pinned (OpenSpec.ofChange footShortsWrong)

/-- 'pritchellaw02.FootSteps': WHATEVER THE INPUT: true; the input reads as it did. -/
def footStepsSpec : ChangeSpec := { name := "footSteps", fn := fun _ => fun
  | [d1, d2] => { results := [.lit (.bool true)], args := [d1, d2] }
  | _ => none }
def footStepsRow : OpenClaim := { program := "ytomnjcjipdnnfaa", sum := "7ab5cd072bbcc5e3adccc882640cf79f18820d250849594753bff38f3b0f081f", func := "pritchel/pritchellaw02.FootSteps", spec := "footSteps", unfollowed := true, recurses := true, apart := false }
def FootStepsSaid : Prop := footStepsRow.holds Try.pinned (OpenSpec.ofChange footStepsSpec)

/-- ITS FALSE NEIGHBOUR: 'it returns false'. Refute it at one input. -/
def footStepsWrong : ChangeSpec := { name := "footSteps", fn := fun _ => fun
  | [d1, d2] => { results := [.lit (.bool false)], args := [d1, d2] }
  | _ => none }
def FootStepsWrongFalsely : Prop := footStepsRow.holds Try.pinned (OpenSpec.ofChange footStepsWrong)

/-- 'pritchellaw02.FootBetween': WHATEVER THE INPUT: true; the input reads as it did. -/
def footBetweenSpec : ChangeSpec := { name := "footBetween", fn := fun _ => fun
  | [d1, d2] => { results := [.lit (.bool true)], args := [d1, d2] }
  | _ => none }
def footBetweenRow : OpenClaim := { program := "ytomnjcjipdnnfaa", sum := "7ab5cd072bbcc5e3adccc882640cf79f18820d250849594753bff38f3b0f081f", func := "pritchel/pritchellaw02.FootBetween", spec := "footBetween", unfollowed := true, recurses := true, apart := false }
def FootBetweenSaid : Prop := footBetweenRow.holds Try.pinned (OpenSpec.ofChange footBetweenSpec)

/-- ITS FALSE NEIGHBOUR: 'it returns false'. Refute it at one input. -/
def footBetweenWrong : ChangeSpec := { name := "footBetween", fn := fun _ => fun
  | [d1, d2] => { results := [.lit (.bool false)], args := [d1, d2] }
  | _ => none }
def FootBetweenWrongFalsely : Prop := footBetweenRow.holds Try.pinned (OpenSpec.ofChange footBetweenWrong)

/-- 'pritchellaw02.FootThree': WHATEVER THE INPUT: true; the input reads as it did. -/
def footThreeSpec : ChangeSpec := { name := "footThree", fn := fun _ => fun
  | [d1, d2, d3] => { results := [.lit (.bool true)], args := [d1, d2, d3] }
  | _ => none }
def footThreeRow : OpenClaim := { program := "ytomnjcjipdnnfaa", sum := "7ab5cd072bbcc5e3adccc882640cf79f18820d250849594753bff38f3b0f081f", func := "pritchel/pritchellaw02.FootThree", spec := "footThree", unfollowed := true, recurses := true, apart := false }
def FootThreeSaid : Prop := footThreeRow.holds Try.pinned (OpenSpec.ofChange footThreeSpec)

/-- ITS FALSE NEIGHBOUR: 'it returns false'. Refute it at one input. -/
def footThreeWrong : ChangeSpec := { name := "footThree", fn := fun _ => fun
  | [d1, d2, d3] => { results := [.lit (.bool false)], args := [d1, d2, d3] }
  | _ => none }
def FootThreeWrongFalsely : Prop := footThreeRow.holds Try.pinned (OpenSpec.ofChange footThreeWrong)

/-- 'pritchellaw02.FootBack': WHATEVER THE INPUT: true; the input reads as it did. -/
def footBackSpec : ChangeSpec := { name := "footBack", fn := fun _ => fun
  | [d1, d2] => { results := [.lit (.bool true)], args := [d1, d2] }
  | _ => none }
def footBackRow : OpenClaim := { program := "ytomnjcjipdnnfaa", sum := "7ab5cd072bbcc5e3adccc882640cf79f18820d250849594753bff38f3b0f081f", func := "pritchel/pritchellaw02.FootBack", spec := "footBack", unfollowed := true, recurses := true, apart := false }
def FootBackSaid : Prop := footBackRow.holds Try.pinned (OpenSpec.ofChange footBackSpec)

/-- ITS FALSE NEIGHBOUR: 'it returns false'. Refute it at one input. -/
def footBackWrong : ChangeSpec := { name := "footBack", fn := fun _ => fun
  | [d1, d2] => { results := [.lit (.bool false)], args := [d1, d2] }
  | _ => none }
def FootBackWrongFalsely : Prop := footBackRow.holds Try.pinned (OpenSpec.ofChange footBackWrong)

/-- 'pritchellaw02.FootMoved': WHATEVER THE INPUT: true; the input reads as it did. -/
def footMovedSpec : ChangeSpec := { name := "footMoved", fn := fun _ => fun
  | [d1, d2, d3] => { results := [.lit (.bool true)], args := [d1, d2, d3] }
  | _ => none }
def footMovedRow : OpenClaim := { program := "ytomnjcjipdnnfaa", sum := "7ab5cd072bbcc5e3adccc882640cf79f18820d250849594753bff38f3b0f081f", func := "pritchel/pritchellaw02.FootMoved", spec := "footMoved", unfollowed := true, recurses := true, apart := false }
def FootMovedSaid : Prop := footMovedRow.holds Try.pinned (OpenSpec.ofChange footMovedSpec)

/-- ITS FALSE NEIGHBOUR: 'it returns false'. Refute it at one input. -/
def footMovedWrong : ChangeSpec := { name := "footMoved", fn := fun _ => fun
  | [d1, d2, d3] => { results := [.lit (.bool false)], args := [d1, d2, d3] }
  | _ => none }
def FootMovedWrongFalsely : Prop := footMovedRow.holds Try.pinned (OpenSpec.ofChange footMovedWrong)

/-- 'pritchellaw02.FootSame': WHATEVER THE INPUT: true; the input reads as it did. -/
def footSameSpec : ChangeSpec := { name := "footSame", fn := fun _ => fun
  | [d1, d2, d3] => { results := [.lit (.bool true)], args := [d1, d2, d3] }
  | _ => none }
def footSameRow : OpenClaim := { program := "ytomnjcjipdnnfaa", sum := "7ab5cd072bbcc5e3adccc882640cf79f18820d250849594753bff38f3b0f081f", func := "pritchel/pritchellaw02.FootSame", spec := "footSame", unfollowed := true, recurses := true, apart := false }
def FootSameSaid : Prop := footSameRow.holds Try.pinned (OpenSpec.ofChange footSameSpec)

/-- ITS FALSE NEIGHBOUR: 'it returns false'. Refute it at one input. -/
def footSameWrong : ChangeSpec := { name := "footSame", fn := fun _ => fun
  | [d1, d2, d3] => { results := [.lit (.bool false)], args := [d1, d2, d3] }
  | _ => none }
def FootSameWrongFalsely : Prop := footSameRow.holds Try.pinned (OpenSpec.ofChange footSameWrong)

/- THE SECOND FORM. 'bulk': how many values and letters a reading holds, each counted each time it is reached (what is shared counts as often as it is met; a slice's spare places count too). A statement '..UptoSaid' is the law's where the arguments, and the package variables that the reading takes, are together of bulk at most 1048576: NARROWER than '..Said'. Prove '..Said' where nothing that the law and all that it calls make is longer than what came in: it says more and counts as full. Else prove '..UptoSaid'. A law counts once. -/
mutual
def uptoBulk {H : Type} : DataW H → Nat
  | .lit (.string bytes) => bytes.length + 1
  | .lit _ => 1
  | .nil => 1
  | .ptr d => uptoBulk d + 1
  | .slice elems spare => uptoBulkAll elems + uptoBulkAll spare + 1
  | .agg parts => uptoBulkAll parts + 1
  | .iface _ d => uptoBulk d + 1
  | .map entries => uptoBulkEntries entries + 1
  | .held _ => 1
def uptoBulkAll {H : Type} : List (DataW H) → Nat
  | [] => 0
  | d :: r => uptoBulk d + uptoBulkAll r
def uptoBulkEntries {H : Type} : List (Lit × DataW H) → Nat
  | [] => 0
  | x :: r => uptoBulkEntry x + uptoBulkEntries r
def uptoBulkEntry {H : Type} : Lit × DataW H → Nat
  | (.string bytes, d) => bytes.length + uptoBulk d + 1
  | (_, d) => uptoBulk d + 1
 end
def uptoSmall : (H : Type) → List (DataW H) → Bool := fun _ ds => decide (uptoBulkAll ds ≤ 1048576)
def OpenSpec.upto (s : _root_.Go.ChangeSpec) : _root_.Go.OpenSpec := { _root_.Go.OpenSpec.ofChange s with cond := some uptoSmall }

/-- 'pritchellaw02.FootHausdorffs', WHERE WHAT IT READS IS OF BULK AT MOST 1048576: true; the input reads as it did. -/
def footHausdorffsUptoRow : OpenClaim := { program := "ytomnjcjipdnnfaa", sum := "7ab5cd072bbcc5e3adccc882640cf79f18820d250849594753bff38f3b0f081f", func := "pritchel/pritchellaw02.FootHausdorffs", spec := "footHausdorffs", unfollowed := true, recurses := true, apart := false, narrowed := true }
def FootHausdorffsUptoSaid : Prop := footHausdorffsUptoRow.holds Try.pinned (OpenSpec.upto footHausdorffsSpec)

/-- 'pritchellaw02.FootFrechets', WHERE WHAT IT READS IS OF BULK AT MOST 1048576: true; the input reads as it did. -/
def footFrechetsUptoRow : OpenClaim := { program := "ytomnjcjipdnnfaa", sum := "7ab5cd072bbcc5e3adccc882640cf79f18820d250849594753bff38f3b0f081f", func := "pritchel/pritchellaw02.FootFrechets", spec := "footFrechets", unfollowed := true, recurses := true, apart := false, narrowed := true }
def FootFrechetsUptoSaid : Prop := footFrechetsUptoRow.holds Try.pinned (OpenSpec.upto footFrechetsSpec)

/-- 'pritchellaw02.FootWithins', WHERE WHAT IT READS IS OF BULK AT MOST 1048576: true; the input reads as it did. -/
def footWithinsUptoRow : OpenClaim := { program := "ytomnjcjipdnnfaa", sum := "7ab5cd072bbcc5e3adccc882640cf79f18820d250849594753bff38f3b0f081f", func := "pritchel/pritchellaw02.FootWithins", spec := "footWithins", unfollowed := true, recurses := true, apart := false, narrowed := true }
def FootWithinsUptoSaid : Prop := footWithinsUptoRow.holds Try.pinned (OpenSpec.upto footWithinsSpec)

/-- 'pritchellaw02.FootWarps', WHERE WHAT IT READS IS OF BULK AT MOST 1048576: true; the input reads as it did. -/
def footWarpsUptoRow : OpenClaim := { program := "ytomnjcjipdnnfaa", sum := "7ab5cd072bbcc5e3adccc882640cf79f18820d250849594753bff38f3b0f081f", func := "pritchel/pritchellaw02.FootWarps", spec := "footWarps", unfollowed := true, recurses := true, apart := false, narrowed := true }
def FootWarpsUptoSaid : Prop := footWarpsUptoRow.holds Try.pinned (OpenSpec.upto footWarpsSpec)

/-- 'pritchellaw02.FootTurns', WHERE WHAT IT READS IS OF BULK AT MOST 1048576: true; the input reads as it did. -/
def footTurnsUptoRow : OpenClaim := { program := "ytomnjcjipdnnfaa", sum := "7ab5cd072bbcc5e3adccc882640cf79f18820d250849594753bff38f3b0f081f", func := "pritchel/pritchellaw02.FootTurns", spec := "footTurns", unfollowed := true, recurses := true, apart := false, narrowed := true }
def FootTurnsUptoSaid : Prop := footTurnsUptoRow.holds Try.pinned (OpenSpec.upto footTurnsSpec)

/-- 'pritchellaw02.FootShorts', WHERE WHAT IT READS IS OF BULK AT MOST 1048576: true; the input reads as it did. -/
def footShortsUptoRow : OpenClaim := { program := "ytomnjcjipdnnfaa", sum := "7ab5cd072bbcc5e3adccc882640cf79f18820d250849594753bff38f3b0f081f", func := "pritchel/pritchellaw02.FootShorts", spec := "footShorts", unfollowed := true, recurses := true, apart := false, narrowed := true }
def FootShortsUptoSaid : Prop := footShortsUptoRow.holds Try.pinned (OpenSpec.upto footShortsSpec)

/-- 'pritchellaw02.FootSteps', WHERE WHAT IT READS IS OF BULK AT MOST 1048576: true; the input reads as it did. -/
def footStepsUptoRow : OpenClaim := { program := "ytomnjcjipdnnfaa", sum := "7ab5cd072bbcc5e3adccc882640cf79f18820d250849594753bff38f3b0f081f", func := "pritchel/pritchellaw02.FootSteps", spec := "footSteps", unfollowed := true, recurses := true, apart := false, narrowed := true }
def FootStepsUptoSaid : Prop := footStepsUptoRow.holds Try.pinned (OpenSpec.upto footStepsSpec)

/-- 'pritchellaw02.FootBetween', WHERE WHAT IT READS IS OF BULK AT MOST 1048576: true; the input reads as it did. -/
def footBetweenUptoRow : OpenClaim := { program := "ytomnjcjipdnnfaa", sum := "7ab5cd072bbcc5e3adccc882640cf79f18820d250849594753bff38f3b0f081f", func := "pritchel/pritchellaw02.FootBetween", spec := "footBetween", unfollowed := true, recurses := true, apart := false, narrowed := true }
def FootBetweenUptoSaid : Prop := footBetweenUptoRow.holds Try.pinned (OpenSpec.upto footBetweenSpec)

/-- 'pritchellaw02.FootThree', WHERE WHAT IT READS IS OF BULK AT MOST 1048576: true; the input reads as it did. -/
def footThreeUptoRow : OpenClaim := { program := "ytomnjcjipdnnfaa", sum := "7ab5cd072bbcc5e3adccc882640cf79f18820d250849594753bff38f3b0f081f", func := "pritchel/pritchellaw02.FootThree", spec := "footThree", unfollowed := true, recurses := true, apart := false, narrowed := true }
def FootThreeUptoSaid : Prop := footThreeUptoRow.holds Try.pinned (OpenSpec.upto footThreeSpec)

/-- 'pritchellaw02.FootBack', WHERE WHAT IT READS IS OF BULK AT MOST 1048576: true; the input reads as it did. -/
def footBackUptoRow : OpenClaim := { program := "ytomnjcjipdnnfaa", sum := "7ab5cd072bbcc5e3adccc882640cf79f18820d250849594753bff38f3b0f081f", func := "pritchel/pritchellaw02.FootBack", spec := "footBack", unfollowed := true, recurses := true, apart := false, narrowed := true }
def FootBackUptoSaid : Prop := footBackUptoRow.holds Try.pinned (OpenSpec.upto footBackSpec)

/-- 'pritchellaw02.FootMoved', WHERE WHAT IT READS IS OF BULK AT MOST 1048576: true; the input reads as it did. -/
def footMovedUptoRow : OpenClaim := { program := "ytomnjcjipdnnfaa", sum := "7ab5cd072bbcc5e3adccc882640cf79f18820d250849594753bff38f3b0f081f", func := "pritchel/pritchellaw02.FootMoved", spec := "footMoved", unfollowed := true, recurses := true, apart := false, narrowed := true }
def FootMovedUptoSaid : Prop := footMovedUptoRow.holds Try.pinned (OpenSpec.upto footMovedSpec)

/-- 'pritchellaw02.FootSame', WHERE WHAT IT READS IS OF BULK AT MOST 1048576: true; the input reads as it did. -/
def footSameUptoRow : OpenClaim := { program := "ytomnjcjipdnnfaa", sum := "7ab5cd072bbcc5e3adccc882640cf79f18820d250849594753bff38f3b0f081f", func := "pritchel/pritchellaw02.FootSame", spec := "footSame", unfollowed := true, recurses := true, apart := false, narrowed := true }
def FootSameUptoSaid : Prop := footSameUptoRow.holds Try.pinned (OpenSpec.upto footSameSpec)

end Rows
end Go.Proofs.Ytomnjcjipdnnfaa
