/-
  No cell of these rows narrows 'for every input' (looked for: loops, veiled, ifaces, maps, wideKeys, modest, calm, conditions, laid).
  DERIVED. THE GIVEN ROWS OF THIS SEAT. 12 by the template 'for every input the law returns true; each argument reads behind the call as it read before'; 0 by the template 'total and deterministic' (their statements: YtapfiokijapomaaTotals.lean).
  GIVEN WITH THE SEED: the statements are not yours to turn. If you find one false, say at which input.
  Laid BY PROGRAM, IN A SANDBOX (cutbox-rows.mjs): the forced cells as the released guide's own fill.sh prints them over the translation 891ba5b6f40b78c4… (all of the seat's roots in one cut). By AI agents, Wed Nov 11 2026. No macro, syntax, notation, axiom, sorry.
-/
import Derived.Test.YtapfiokijapomaaChecked
import GoSem.Claim
import GoSem.ClaimJoined
import GoSem.ClaimMapViews
import Derived.JoinedTies
import Derived.KernelRfl
namespace Go.Proofs.Ytapfiokijapomaa
/- THE CELL 'sum', in the pinned program and in every row, IS THE sha256 OF THE DUMP (.gsa) THAT YtapfiokijapomaaProg.lean LOADS. Nothing in Lean hashes anything: it is a label: what it is worth is what the hold of that sum in a sandbox is worth. -/
noncomputable def Try.pinned : Pinned := { name := "ytapfiokijapomaa", sum := "891ba5b6f40b78c4ec1e853fedcff63fd29885f5785840ba5946a6114e1197a9", checked := Try.checked }
namespace Rows
def none {H : Type} : Left H := { results := [], args := [] }

/-- 'pritchellaw01.HeapSettles': WHATEVER THE INPUT: true; the input reads as it did. -/
def heapSettlesSpec : ChangeSpec := { name := "heapSettles", fn := fun _ => fun
  | [d1, d2] => { results := [.lit (.bool true)], args := [d1, d2] }
  | _ => none }
def heapSettlesRow : OpenClaim := { program := "ytapfiokijapomaa", sum := "891ba5b6f40b78c4ec1e853fedcff63fd29885f5785840ba5946a6114e1197a9", func := "pritchel/pritchellaw01.HeapSettles", spec := "heapSettles", apart := false }
def HeapSettlesSaid : Prop := heapSettlesRow.holds Try.pinned (OpenSpec.ofChange heapSettlesSpec)

/-- ITS FALSE NEIGHBOUR: 'it returns false'. Refute it at one input. -/
def heapSettlesWrong : ChangeSpec := { name := "heapSettles", fn := fun _ => fun
  | [d1, d2] => { results := [.lit (.bool false)], args := [d1, d2] }
  | _ => none }
def HeapSettlesWrongFalsely : Prop := heapSettlesRow.holds Try.pinned (OpenSpec.ofChange heapSettlesWrong)

/-- 'pritchellaw01.HeapBurns': WHATEVER THE INPUT: true; the input reads as it did. -/
def heapBurnsSpec : ChangeSpec := { name := "heapBurns", fn := fun _ => fun
  | [d1, d2] => { results := [.lit (.bool true)], args := [d1, d2] }
  | _ => none }
def heapBurnsRow : OpenClaim := { program := "ytapfiokijapomaa", sum := "891ba5b6f40b78c4ec1e853fedcff63fd29885f5785840ba5946a6114e1197a9", func := "pritchel/pritchellaw01.HeapBurns", spec := "heapBurns", apart := false }
def HeapBurnsSaid : Prop := heapBurnsRow.holds Try.pinned (OpenSpec.ofChange heapBurnsSpec)

/-- ITS FALSE NEIGHBOUR: 'it returns false'. Refute it at one input. -/
def heapBurnsWrong : ChangeSpec := { name := "heapBurns", fn := fun _ => fun
  | [d1, d2] => { results := [.lit (.bool false)], args := [d1, d2] }
  | _ => none }
def HeapBurnsWrongFalsely : Prop := heapBurnsRow.holds Try.pinned (OpenSpec.ofChange heapBurnsWrong)

/-- 'pritchellaw01.HeapSums': WHATEVER THE INPUT: true; the input reads as it did. -/
def heapSumsSpec : ChangeSpec := { name := "heapSums", fn := fun _ => fun
  | [d1, d2, d3] => { results := [.lit (.bool true)], args := [d1, d2, d3] }
  | _ => none }
def heapSumsRow : OpenClaim := { program := "ytapfiokijapomaa", sum := "891ba5b6f40b78c4ec1e853fedcff63fd29885f5785840ba5946a6114e1197a9", func := "pritchel/pritchellaw01.HeapSums", spec := "heapSums", apart := false }
def HeapSumsSaid : Prop := heapSumsRow.holds Try.pinned (OpenSpec.ofChange heapSumsSpec)

/-- ITS FALSE NEIGHBOUR: 'it returns false'. Refute it at one input. -/
def heapSumsWrong : ChangeSpec := { name := "heapSums", fn := fun _ => fun
  | [d1, d2, d3] => { results := [.lit (.bool false)], args := [d1, d2, d3] }
  | _ => none }
def HeapSumsWrongFalsely : Prop := heapSumsRow.holds Try.pinned (OpenSpec.ofChange heapSumsWrong)

/-- 'pritchellaw01.HeapAgains': WHATEVER THE INPUT: true; the input reads as it did. -/
def heapAgainsSpec : ChangeSpec := { name := "heapAgains", fn := fun _ => fun
  | [d1, d2] => { results := [.lit (.bool true)], args := [d1, d2] }
  | _ => none }
def heapAgainsRow : OpenClaim := { program := "ytapfiokijapomaa", sum := "891ba5b6f40b78c4ec1e853fedcff63fd29885f5785840ba5946a6114e1197a9", func := "pritchel/pritchellaw01.HeapAgains", spec := "heapAgains", recurses := true, apart := false }
def HeapAgainsSaid : Prop := heapAgainsRow.holds Try.pinned (OpenSpec.ofChange heapAgainsSpec)

/-- ITS FALSE NEIGHBOUR: 'it returns false'. Refute it at one input. -/
def heapAgainsWrong : ChangeSpec := { name := "heapAgains", fn := fun _ => fun
  | [d1, d2] => { results := [.lit (.bool false)], args := [d1, d2] }
  | _ => none }
def HeapAgainsWrongFalsely : Prop := heapAgainsRow.holds Try.pinned (OpenSpec.ofChange heapAgainsWrong)

/-- 'pritchellaw01.HeapGroups': WHATEVER THE INPUT: true; the input reads as it did. -/
def heapGroupsSpec : ChangeSpec := { name := "heapGroups", fn := fun _ => fun
  | [d] => { results := [.lit (.bool true)], args := [d] }
  | _ => none }
def heapGroupsRow : OpenClaim := { program := "ytapfiokijapomaa", sum := "891ba5b6f40b78c4ec1e853fedcff63fd29885f5785840ba5946a6114e1197a9", func := "pritchel/pritchellaw01.HeapGroups", spec := "heapGroups", recurses := true, apart := false }
def HeapGroupsSaid : Prop := heapGroupsRow.holds Try.pinned (OpenSpec.ofChange heapGroupsSpec)

/-- ITS FALSE NEIGHBOUR: 'it returns false'. Refute it at one input. -/
def heapGroupsWrong : ChangeSpec := { name := "heapGroups", fn := fun _ => fun
  | [d] => { results := [.lit (.bool false)], args := [d] }
  | _ => none }
def HeapGroupsWrongFalsely : Prop := heapGroupsRow.holds Try.pinned (OpenSpec.ofChange heapGroupsWrong)

/-- 'pritchellaw01.HeapLevels': WHATEVER THE INPUT: true; the input reads as it did. -/
def heapLevelsSpec : ChangeSpec := { name := "heapLevels", fn := fun _ => fun
  | [d] => { results := [.lit (.bool true)], args := [d] }
  | _ => none }
def heapLevelsRow : OpenClaim := { program := "ytapfiokijapomaa", sum := "891ba5b6f40b78c4ec1e853fedcff63fd29885f5785840ba5946a6114e1197a9", func := "pritchel/pritchellaw01.HeapLevels", spec := "heapLevels", apart := false }
def HeapLevelsSaid : Prop := heapLevelsRow.holds Try.pinned (OpenSpec.ofChange heapLevelsSpec)

/-- ITS FALSE NEIGHBOUR: 'it returns false'. Refute it at one input. -/
def heapLevelsWrong : ChangeSpec := { name := "heapLevels", fn := fun _ => fun
  | [d] => { results := [.lit (.bool false)], args := [d] }
  | _ => none }
def HeapLevelsWrongFalsely : Prop := heapLevelsRow.holds Try.pinned (OpenSpec.ofChange heapLevelsWrong)

/-- 'pritchellaw01.HeapAny': WHATEVER THE INPUT: true; the input reads as it did. -/
def heapAnySpec : ChangeSpec := { name := "heapAny", fn := fun _ => fun
  | [d1, d2] => { results := [.lit (.bool true)], args := [d1, d2] }
  | _ => none }
def heapAnyRow : OpenClaim := { program := "ytapfiokijapomaa", sum := "891ba5b6f40b78c4ec1e853fedcff63fd29885f5785840ba5946a6114e1197a9", func := "pritchel/pritchellaw01.HeapAny", spec := "heapAny", apart := false }
def HeapAnySaid : Prop := heapAnyRow.holds Try.pinned (OpenSpec.ofChange heapAnySpec)

/-- ITS FALSE NEIGHBOUR: 'it returns false'. Refute it at one input. -/
def heapAnyWrong : ChangeSpec := { name := "heapAny", fn := fun _ => fun
  | [d1, d2] => { results := [.lit (.bool false)], args := [d1, d2] }
  | _ => none }
def HeapAnyWrongFalsely : Prop := heapAnyRow.holds Try.pinned (OpenSpec.ofChange heapAnyWrong)

/-- 'pritchellaw01.HeapTrees': WHATEVER THE INPUT: true; the input reads as it did. -/
def heapTreesSpec : ChangeSpec := { name := "heapTrees", fn := fun _ => fun
  | [d] => { results := [.lit (.bool true)], args := [d] }
  | _ => none }
def heapTreesRow : OpenClaim := { program := "ytapfiokijapomaa", sum := "891ba5b6f40b78c4ec1e853fedcff63fd29885f5785840ba5946a6114e1197a9", func := "pritchel/pritchellaw01.HeapTrees", spec := "heapTrees", apart := false }
def HeapTreesSaid : Prop := heapTreesRow.holds Try.pinned (OpenSpec.ofChange heapTreesSpec)

/-- ITS FALSE NEIGHBOUR: 'it returns false'. Refute it at one input. -/
def heapTreesWrong : ChangeSpec := { name := "heapTrees", fn := fun _ => fun
  | [d] => { results := [.lit (.bool false)], args := [d] }
  | _ => none }
def HeapTreesWrongFalsely : Prop := heapTreesRow.holds Try.pinned (OpenSpec.ofChange heapTreesWrong)

/-- 'pritchellaw01.HeapGroup': WHATEVER THE INPUT: true; the input reads as it did. -/
def heapGroupSpec : ChangeSpec := { name := "heapGroup", fn := fun _ => fun
  | [d1, d2, d3] => { results := [.lit (.bool true)], args := [d1, d2, d3] }
  | _ => none }
def heapGroupRow : OpenClaim := { program := "ytapfiokijapomaa", sum := "891ba5b6f40b78c4ec1e853fedcff63fd29885f5785840ba5946a6114e1197a9", func := "pritchel/pritchellaw01.HeapGroup", spec := "heapGroup", apart := false }
def HeapGroupSaid : Prop := heapGroupRow.holds Try.pinned (OpenSpec.ofChange heapGroupSpec)

/-- ITS FALSE NEIGHBOUR: 'it returns false'. Refute it at one input. -/
def heapGroupWrong : ChangeSpec := { name := "heapGroup", fn := fun _ => fun
  | [d1, d2, d3] => { results := [.lit (.bool false)], args := [d1, d2, d3] }
  | _ => none }
def HeapGroupWrongFalsely : Prop := heapGroupRow.holds Try.pinned (OpenSpec.ofChange heapGroupWrong)

/-- 'pritchellaw01.HeapMost': WHATEVER THE INPUT: true; the input reads as it did. -/
def heapMostSpec : ChangeSpec := { name := "heapMost", fn := fun _ => fun
  | [d] => { results := [.lit (.bool true)], args := [d] }
  | _ => none }
def heapMostRow : OpenClaim := { program := "ytapfiokijapomaa", sum := "891ba5b6f40b78c4ec1e853fedcff63fd29885f5785840ba5946a6114e1197a9", func := "pritchel/pritchellaw01.HeapMost", spec := "heapMost", apart := false }
def HeapMostSaid : Prop := heapMostRow.holds Try.pinned (OpenSpec.ofChange heapMostSpec)

/-- ITS FALSE NEIGHBOUR: 'it returns false'. Refute it at one input. -/
def heapMostWrong : ChangeSpec := { name := "heapMost", fn := fun _ => fun
  | [d] => { results := [.lit (.bool false)], args := [d] }
  | _ => none }
def HeapMostWrongFalsely : Prop := heapMostRow.holds Try.pinned (OpenSpec.ofChange heapMostWrong)

/-- 'pritchellaw01.HeapDhar': WHATEVER THE INPUT: true; the input reads as it did. -/
def heapDharSpec : ChangeSpec := { name := "heapDhar", fn := fun _ => fun
  | [d1, d2, d3] => { results := [.lit (.bool true)], args := [d1, d2, d3] }
  | _ => none }
def heapDharRow : OpenClaim := { program := "ytapfiokijapomaa", sum := "891ba5b6f40b78c4ec1e853fedcff63fd29885f5785840ba5946a6114e1197a9", func := "pritchel/pritchellaw01.HeapDhar", spec := "heapDhar", apart := false }
def HeapDharSaid : Prop := heapDharRow.holds Try.pinned (OpenSpec.ofChange heapDharSpec)

/-- ITS FALSE NEIGHBOUR: 'it returns false'. Refute it at one input. -/
def heapDharWrong : ChangeSpec := { name := "heapDhar", fn := fun _ => fun
  | [d1, d2, d3] => { results := [.lit (.bool false)], args := [d1, d2, d3] }
  | _ => none }
def HeapDharWrongFalsely : Prop := heapDharRow.holds Try.pinned (OpenSpec.ofChange heapDharWrong)

/-- 'pritchellaw01.HeapDual': WHATEVER THE INPUT: true; the input reads as it did. -/
def heapDualSpec : ChangeSpec := { name := "heapDual", fn := fun _ => fun
  | [d1, d2] => { results := [.lit (.bool true)], args := [d1, d2] }
  | _ => none }
def heapDualRow : OpenClaim := { program := "ytapfiokijapomaa", sum := "891ba5b6f40b78c4ec1e853fedcff63fd29885f5785840ba5946a6114e1197a9", func := "pritchel/pritchellaw01.HeapDual", spec := "heapDual", apart := false }
def HeapDualSaid : Prop := heapDualRow.holds Try.pinned (OpenSpec.ofChange heapDualSpec)

/-- ITS FALSE NEIGHBOUR: 'it returns false'. Refute it at one input. -/
def heapDualWrong : ChangeSpec := { name := "heapDual", fn := fun _ => fun
  | [d1, d2] => { results := [.lit (.bool false)], args := [d1, d2] }
  | _ => none }
def HeapDualWrongFalsely : Prop := heapDualRow.holds Try.pinned (OpenSpec.ofChange heapDualWrong)

/- THE SECOND FORM. 'bulk': how many values and letters a reading holds, each counted each time it is reached (what is shared counts as often as it is met; a slice's spare places count too). A statement '..UptoSaid' is the law's where the arguments, and the package variables that the reading takes, are together of bulk at most 1048576: NARROWER than '..Said'. Prove '..Said' where nothing that the law and all that it calls make is longer than what came in: it says more and counts as full. Else prove '..UptoSaid'. A law counts once. -/
mutual
def uptoBulk {H : Type} : DataW H → Nat
  | .lit (.string bytes) => bytes.length + 1
  | .lit _ => 1
  | .nil => 1
  | .ptr d => uptoBulk d + 1
  | .slice elems spare => uptoBulkAll elems + uptoBulkAll spare + 1
  | .agg parts => uptoBulkAll parts + 1
  | .iface _ d => uptoBulk d + 1
  | .map entries => uptoBulkEntries entries + 1
  | .held _ => 1
def uptoBulkAll {H : Type} : List (DataW H) → Nat
  | [] => 0
  | d :: r => uptoBulk d + uptoBulkAll r
def uptoBulkEntries {H : Type} : List (Lit × DataW H) → Nat
  | [] => 0
  | x :: r => uptoBulkEntry x + uptoBulkEntries r
def uptoBulkEntry {H : Type} : Lit × DataW H → Nat
  | (.string bytes, d) => bytes.length + uptoBulk d + 1
  | (_, d) => uptoBulk d + 1
 end
def uptoSmall : (H : Type) → List (DataW H) → Bool := fun _ ds => decide (uptoBulkAll ds ≤ 1048576)
def OpenSpec.upto (s : _root_.Go.ChangeSpec) : _root_.Go.OpenSpec := { _root_.Go.OpenSpec.ofChange s with cond := some uptoSmall }

/-- 'pritchellaw01.HeapSettles', WHERE WHAT IT READS IS OF BULK AT MOST 1048576: true; the input reads as it did. -/
def heapSettlesUptoRow : OpenClaim := { program := "ytapfiokijapomaa", sum := "891ba5b6f40b78c4ec1e853fedcff63fd29885f5785840ba5946a6114e1197a9", func := "pritchel/pritchellaw01.HeapSettles", spec := "heapSettles", apart := false, narrowed := true }
def HeapSettlesUptoSaid : Prop := heapSettlesUptoRow.holds Try.pinned (OpenSpec.upto heapSettlesSpec)

/-- 'pritchellaw01.HeapBurns', WHERE WHAT IT READS IS OF BULK AT MOST 1048576: true; the input reads as it did. -/
def heapBurnsUptoRow : OpenClaim := { program := "ytapfiokijapomaa", sum := "891ba5b6f40b78c4ec1e853fedcff63fd29885f5785840ba5946a6114e1197a9", func := "pritchel/pritchellaw01.HeapBurns", spec := "heapBurns", apart := false, narrowed := true }
def HeapBurnsUptoSaid : Prop := heapBurnsUptoRow.holds Try.pinned (OpenSpec.upto heapBurnsSpec)

/-- 'pritchellaw01.HeapSums', WHERE WHAT IT READS IS OF BULK AT MOST 1048576: true; the input reads as it did. -/
def heapSumsUptoRow : OpenClaim := { program := "ytapfiokijapomaa", sum := "891ba5b6f40b78c4ec1e853fedcff63fd29885f5785840ba5946a6114e1197a9", func := "pritchel/pritchellaw01.HeapSums", spec := "heapSums", apart := false, narrowed := true }
def HeapSumsUptoSaid : Prop := heapSumsUptoRow.holds Try.pinned (OpenSpec.upto heapSumsSpec)

/-- 'pritchellaw01.HeapAgains', WHERE WHAT IT READS IS OF BULK AT MOST 1048576: true; the input reads as it did. -/
def heapAgainsUptoRow : OpenClaim := { program := "ytapfiokijapomaa", sum := "891ba5b6f40b78c4ec1e853fedcff63fd29885f5785840ba5946a6114e1197a9", func := "pritchel/pritchellaw01.HeapAgains", spec := "heapAgains", recurses := true, apart := false, narrowed := true }
def HeapAgainsUptoSaid : Prop := heapAgainsUptoRow.holds Try.pinned (OpenSpec.upto heapAgainsSpec)

/-- 'pritchellaw01.HeapGroups', WHERE WHAT IT READS IS OF BULK AT MOST 1048576: true; the input reads as it did. -/
def heapGroupsUptoRow : OpenClaim := { program := "ytapfiokijapomaa", sum := "891ba5b6f40b78c4ec1e853fedcff63fd29885f5785840ba5946a6114e1197a9", func := "pritchel/pritchellaw01.HeapGroups", spec := "heapGroups", recurses := true, apart := false, narrowed := true }
def HeapGroupsUptoSaid : Prop := heapGroupsUptoRow.holds Try.pinned (OpenSpec.upto heapGroupsSpec)

/-- 'pritchellaw01.HeapLevels', WHERE WHAT IT READS IS OF BULK AT MOST 1048576: true; the input reads as it did. -/
def heapLevelsUptoRow : OpenClaim := { program := "ytapfiokijapomaa", sum := "891ba5b6f40b78c4ec1e853fedcff63fd29885f5785840ba5946a6114e1197a9", func := "pritchel/pritchellaw01.HeapLevels", spec := "heapLevels", apart := false, narrowed := true }
def HeapLevelsUptoSaid : Prop := heapLevelsUptoRow.holds Try.pinned (OpenSpec.upto heapLevelsSpec)

/-- 'pritchellaw01.HeapAny', WHERE WHAT IT READS IS OF BULK AT MOST 1048576: true; the input reads as it did. -/
def heapAnyUptoRow : OpenClaim := { program := "ytapfiokijapomaa", sum := "891ba5b6f40b78c4ec1e853fedcff63fd29885f5785840ba5946a6114e1197a9", func := "pritchel/pritchellaw01.HeapAny", spec := "heapAny", apart := false, narrowed := true }
def HeapAnyUptoSaid : Prop := heapAnyUptoRow.holds Try.pinned (OpenSpec.upto heapAnySpec)

/-- 'pritchellaw01.HeapTrees', WHERE WHAT IT READS IS OF BULK AT MOST 1048576: true; the input reads as it did. -/
def heapTreesUptoRow : OpenClaim := { program := "ytapfiokijapomaa", sum := "891ba5b6f40b78c4ec1e853fedcff63fd29885f5785840ba5946a6114e1197a9", func := "pritchel/pritchellaw01.HeapTrees", spec := "heapTrees", apart := false, narrowed := true }
def HeapTreesUptoSaid : Prop := heapTreesUptoRow.holds Try.pinned (OpenSpec.upto heapTreesSpec)

/-- 'pritchellaw01.HeapGroup', WHERE WHAT IT READS IS OF BULK AT MOST 1048576: true; the input reads as it did. -/
def heapGroupUptoRow : OpenClaim := { program := "ytapfiokijapomaa", sum := "891ba5b6f40b78c4ec1e853fedcff63fd29885f5785840ba5946a6114e1197a9", func := "pritchel/pritchellaw01.HeapGroup", spec := "heapGroup", apart := false, narrowed := true }
def HeapGroupUptoSaid : Prop := heapGroupUptoRow.holds Try.pinned (OpenSpec.upto heapGroupSpec)

/-- 'pritchellaw01.HeapMost', WHERE WHAT IT READS IS OF BULK AT MOST 1048576: true; the input reads as it did. -/
def heapMostUptoRow : OpenClaim := { program := "ytapfiokijapomaa", sum := "891ba5b6f40b78c4ec1e853fedcff63fd29885f5785840ba5946a6114e1197a9", func := "pritchel/pritchellaw01.HeapMost", spec := "heapMost", apart := false, narrowed := true }
def HeapMostUptoSaid : Prop := heapMostUptoRow.holds Try.pinned (OpenSpec.upto heapMostSpec)

/-- 'pritchellaw01.HeapDhar', WHERE WHAT IT READS IS OF BULK AT MOST 1048576: true; the input reads as it did. -/
def heapDharUptoRow : OpenClaim := { program := "ytapfiokijapomaa", sum := "891ba5b6f40b78c4ec1e853fedcff63fd29885f5785840ba5946a6114e1197a9", func := "pritchel/pritchellaw01.HeapDhar", spec := "heapDhar", apart := false, narrowed := true }
def HeapDharUptoSaid : Prop := heapDharUptoRow.holds Try.pinned (OpenSpec.upto heapDharSpec)

/-- 'pritchellaw01.HeapDual', WHERE WHAT IT READS IS OF BULK AT MOST 1048576: true; the input reads as it did. -/
def heapDualUptoRow : OpenClaim := { program := "ytapfiokijapomaa", sum := "891ba5b6f40b78c4ec1e853fedcff63fd29885f5785840ba5946a6114e1197a9", func := "pritchel/pritchellaw01.HeapDual", spec := "heapDual", apart := false, narrowed := true }
def HeapDualUptoSaid : Prop := heapDualUptoRow.holds Try.pinned (OpenSpec.upto heapDualSpec)

end Rows
end Go.Proofs.Ytapfiokijapomaa
