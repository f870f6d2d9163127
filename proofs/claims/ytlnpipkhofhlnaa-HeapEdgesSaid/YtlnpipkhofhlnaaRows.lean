/-
  No cell of these rows narrows 'for every input' (looked for: loops, veiled, ifaces, maps, wideKeys, modest, calm, conditions, laid).
  DERIVED. THE GIVEN ROWS OF THIS SEAT. 6 by the template 'for every input the law returns true; each argument reads behind the call as it read before'; 0 by the template 'total and deterministic' (their statements: YtlnpipkhofhlnaaTotals.lean).
  GIVEN WITH THE SEED: the statements are not yours to turn. If you find one false, say at which input.
  Laid BY PROGRAM, IN A SANDBOX (cutbox-rows.mjs): the forced cells as the released guide's own fill.sh prints them over the translation 18f51b4f61a5b5b3… (all of the seat's roots in one cut). By AI agents, Wed Nov 11 2026. No macro, syntax, notation, axiom, sorry.
-/
import Derived.Test.YtlnpipkhofhlnaaChecked
import GoSem.Claim
import GoSem.ClaimJoined
import GoSem.ClaimMapViews
import Derived.JoinedTies
import Derived.KernelRfl
namespace Go.Proofs.Ytlnpipkhofhlnaa
/- THE CELL 'sum', in the pinned program and in every row, IS THE sha256 OF THE DUMP (.gsa) THAT YtlnpipkhofhlnaaProg.lean LOADS. Nothing in Lean hashes anything: it is a label: what it is worth is what the hold of that sum in a sandbox is worth. -/
noncomputable def Try.pinned : Pinned := { name := "ytlnpipkhofhlnaa", sum := "18f51b4f61a5b5b3f6f3c9d8247966ddedeffdba35351614aad4c5652b7c67b5", checked := Try.checked }
namespace Rows
def none {H : Type} : Left H := { results := [], args := [] }

/-- 'pritchellaw01.HeapAgains': WHATEVER THE INPUT: true; the input reads as it did. -/
def heapAgainsSpec : ChangeSpec := { name := "heapAgains", fn := fun _ => fun
  | [d1, d2] => { results := [.lit (.bool true)], args := [d1, d2] }
  | _ => none }
def heapAgainsRow : OpenClaim := { program := "ytlnpipkhofhlnaa", sum := "18f51b4f61a5b5b3f6f3c9d8247966ddedeffdba35351614aad4c5652b7c67b5", func := "pritchel/pritchellaw01.HeapAgains", spec := "heapAgains", recurses := true, apart := false }
def HeapAgainsSaid : Prop := heapAgainsRow.holds Try.pinned (OpenSpec.ofChange heapAgainsSpec)

/-- ITS FALSE NEIGHBOUR: 'it returns false'. Refute it at one input. -/
def heapAgainsWrong : ChangeSpec := { name := "heapAgains", fn := fun _ => fun
  | [d1, d2] => { results := [.lit (.bool false)], args := [d1, d2] }
  | _ => none }
def HeapAgainsWrongFalsely : Prop := heapAgainsRow.holds Try.pinned (OpenSpec.ofChange heapAgainsWrong)

/-- 'pritchellaw01.HeapLevels': WHATEVER THE INPUT: true; the input reads as it did. -/
def heapLevelsSpec : ChangeSpec := { name := "heapLevels", fn := fun _ => fun
  | [d] => { results := [.lit (.bool true)], args := [d] }
  | _ => none }
def heapLevelsRow : OpenClaim := { program := "ytlnpipkhofhlnaa", sum := "18f51b4f61a5b5b3f6f3c9d8247966ddedeffdba35351614aad4c5652b7c67b5", func := "pritchel/pritchellaw01.HeapLevels", spec := "heapLevels", apart := false }
def HeapLevelsSaid : Prop := heapLevelsRow.holds Try.pinned (OpenSpec.ofChange heapLevelsSpec)

/-- ITS FALSE NEIGHBOUR: 'it returns false'. Refute it at one input. -/
def heapLevelsWrong : ChangeSpec := { name := "heapLevels", fn := fun _ => fun
  | [d] => { results := [.lit (.bool false)], args := [d] }
  | _ => none }
def HeapLevelsWrongFalsely : Prop := heapLevelsRow.holds Try.pinned (OpenSpec.ofChange heapLevelsWrong)

/-- 'pritchellaw01.HeapDhar': WHATEVER THE INPUT: true; the input reads as it did. -/
def heapDharSpec : ChangeSpec := { name := "heapDhar", fn := fun _ => fun
  | [d1, d2, d3] => { results := [.lit (.bool true)], args := [d1, d2, d3] }
  | _ => none }
def heapDharRow : OpenClaim := { program := "ytlnpipkhofhlnaa", sum := "18f51b4f61a5b5b3f6f3c9d8247966ddedeffdba35351614aad4c5652b7c67b5", func := "pritchel/pritchellaw01.HeapDhar", spec := "heapDhar", apart := false }
def HeapDharSaid : Prop := heapDharRow.holds Try.pinned (OpenSpec.ofChange heapDharSpec)

/-- ITS FALSE NEIGHBOUR: 'it returns false'. Refute it at one input. -/
def heapDharWrong : ChangeSpec := { name := "heapDhar", fn := fun _ => fun
  | [d1, d2, d3] => { results := [.lit (.bool false)], args := [d1, d2, d3] }
  | _ => none }
def HeapDharWrongFalsely : Prop := heapDharRow.holds Try.pinned (OpenSpec.ofChange heapDharWrong)

/-- 'pritchellaw01.HeapDual': WHATEVER THE INPUT: true; the input reads as it did. -/
def heapDualSpec : ChangeSpec := { name := "heapDual", fn := fun _ => fun
  | [d1, d2] => { results := [.lit (.bool true)], args := [d1, d2] }
  | _ => none }
def heapDualRow : OpenClaim := { program := "ytlnpipkhofhlnaa", sum := "18f51b4f61a5b5b3f6f3c9d8247966ddedeffdba35351614aad4c5652b7c67b5", func := "pritchel/pritchellaw01.HeapDual", spec := "heapDual", apart := false }
def HeapDualSaid : Prop := heapDualRow.holds Try.pinned (OpenSpec.ofChange heapDualSpec)

/-- ITS FALSE NEIGHBOUR: 'it returns false'. Refute it at one input. -/
def heapDualWrong : ChangeSpec := { name := "heapDual", fn := fun _ => fun
  | [d1, d2] => { results := [.lit (.bool false)], args := [d1, d2] }
  | _ => none }
def HeapDualWrongFalsely : Prop := heapDualRow.holds Try.pinned (OpenSpec.ofChange heapDualWrong)

/-- 'pritchellaw01.HeapAlike': WHATEVER THE INPUT: true; the input reads as it did. -/
def heapAlikeSpec : ChangeSpec := { name := "heapAlike", fn := fun _ => fun
  | [d1, d2] => { results := [.lit (.bool true)], args := [d1, d2] }
  | _ => none }
def heapAlikeRow : OpenClaim := { program := "ytlnpipkhofhlnaa", sum := "18f51b4f61a5b5b3f6f3c9d8247966ddedeffdba35351614aad4c5652b7c67b5", func := "pritchel/pritchellaw01.HeapAlike", spec := "heapAlike", recurses := true, apart := false }
def HeapAlikeSaid : Prop := heapAlikeRow.holds Try.pinned (OpenSpec.ofChange heapAlikeSpec)

/-- ITS FALSE NEIGHBOUR: 'it returns false'. Refute it at one input. -/
def heapAlikeWrong : ChangeSpec := { name := "heapAlike", fn := fun _ => fun
  | [d1, d2] => { results := [.lit (.bool false)], args := [d1, d2] }
  | _ => none }
def HeapAlikeWrongFalsely : Prop := heapAlikeRow.holds Try.pinned (OpenSpec.ofChange heapAlikeWrong)

/-- 'pritchellaw01.HeapEdges': WHATEVER THE INPUT: true; the input reads as it did. -/
def heapEdgesSpec : ChangeSpec := { name := "heapEdges", fn := fun _ => fun
  | [d1, d2] => { results := [.lit (.bool true)], args := [d1, d2] }
  | _ => none }
def heapEdgesRow : OpenClaim := { program := "ytlnpipkhofhlnaa", sum := "18f51b4f61a5b5b3f6f3c9d8247966ddedeffdba35351614aad4c5652b7c67b5", func := "pritchel/pritchellaw01.HeapEdges", spec := "heapEdges", apart := false }
def HeapEdgesSaid : Prop := heapEdgesRow.holds Try.pinned (OpenSpec.ofChange heapEdgesSpec)

/-- ITS FALSE NEIGHBOUR: 'it returns false'. Refute it at one input. -/
def heapEdgesWrong : ChangeSpec := { name := "heapEdges", fn := fun _ => fun
  | [d1, d2] => { results := [.lit (.bool false)], args := [d1, d2] }
  | _ => none }
def HeapEdgesWrongFalsely : Prop := heapEdgesRow.holds Try.pinned (OpenSpec.ofChange heapEdgesWrong)

/- THE SECOND FORM. 'bulk': how many values and letters a reading holds, each counted each time it is reached (what is shared counts as often as it is met; a slice's spare places count too). A statement '..UptoSaid' is the law's where the arguments, and the package variables that the reading takes, are together of bulk at most 1048576: NARROWER than '..Said'. Prove '..Said' where nothing that the law and all that it calls make is longer than what came in: it says more and counts as full. Else prove '..UptoSaid'. A law counts once. -/
mutual
def uptoBulk {H : Type} : DataW H → Nat
  | .lit (.string bytes) => bytes.length + 1
  | .lit _ => 1
  | .nil => 1
  | .ptr d => uptoBulk d + 1
  | .slice elems spare => uptoBulkAll elems + uptoBulkAll spare + 1
  | .agg parts => uptoBulkAll parts + 1
  | .iface _ d => uptoBulk d + 1
  | .map entries => uptoBulkEntries entries + 1
  | .held _ => 1
def uptoBulkAll {H : Type} : List (DataW H) → Nat
  | [] => 0
  | d :: r => uptoBulk d + uptoBulkAll r
def uptoBulkEntries {H : Type} : List (Lit × DataW H) → Nat
  | [] => 0
  | x :: r => uptoBulkEntry x + uptoBulkEntries r
def uptoBulkEntry {H : Type} : Lit × DataW H → Nat
  | (.string bytes, d) => bytes.length + uptoBulk d + 1
  | (_, d) => uptoBulk d + 1
 end
def uptoSmall : (H : Type) → List (DataW H) → Bool := fun _ ds => decide (uptoBulkAll ds ≤ 1048576)
def OpenSpec.upto (s : _root_.Go.ChangeSpec) : _root_.Go.OpenSpec := { _root_.Go.OpenSpec.ofChange s with cond := some uptoSmall }

/-- 'pritchellaw01.HeapAgains', WHERE WHAT IT READS IS OF BULK AT MOST 1048576: true; the input reads as it did. -/
def heapAgainsUptoRow : OpenClaim := { program := "ytlnpipkhofhlnaa", sum := "18f51b4f61a5b5b3f6f3c9d8247966ddedeffdba35351614aad4c5652b7c67b5", func := "pritchel/pritchellaw01.HeapAgains", spec := "heapAgains", recurses := true, apart := false, narrowed := true }
def HeapAgainsUptoSaid : Prop := heapAgainsUptoRow.holds Try.pinned (OpenSpec.upto heapAgainsSpec)

/-- 'pritchellaw01.HeapLevels', WHERE WHAT IT READS IS OF BULK AT MOST 1048576: true; the input reads as it did. -/
def heapLevelsUptoRow : OpenClaim := { program := "ytlnpipkhofhlnaa", sum := "18f51b4f61a5b5b3f6f3c9d8247966ddedeffdba35351614aad4c5652b7c67b5", func := "pritchel/pritchellaw01.HeapLevels", spec := "heapLevels", apart := false, narrowed := true }
def HeapLevelsUptoSaid : Prop := heapLevelsUptoRow.holds Try.pinned (OpenSpec.upto heapLevelsSpec)

/-- 'pritchellaw01.HeapDhar', WHERE WHAT IT READS IS OF BULK AT MOST 1048576: true; the input reads as it did. -/
def heapDharUptoRow : OpenClaim := { program := "ytlnpipkhofhlnaa", sum := "18f51b4f61a5b5b3f6f3c9d8247966ddedeffdba35351614aad4c5652b7c67b5", func := "pritchel/pritchellaw01.HeapDhar", spec := "heapDhar", apart := false, narrowed := true }
def HeapDharUptoSaid : Prop := heapDharUptoRow.holds Try.pinned (OpenSpec.upto heapDharSpec)

/-- 'pritchellaw01.HeapDual', WHERE WHAT IT READS IS OF BULK AT MOST 1048576: true; the input reads as it did. -/
def heapDualUptoRow : OpenClaim := { program := "ytlnpipkhofhlnaa", sum := "18f51b4f61a5b5b3f6f3c9d8247966ddedeffdba35351614aad4c5652b7c67b5", func := "pritchel/pritchellaw01.HeapDual", spec := "heapDual", apart := false, narrowed := true }
def HeapDualUptoSaid : Prop := heapDualUptoRow.holds Try.pinned (OpenSpec.upto heapDualSpec)

/-- 'pritchellaw01.HeapAlike', WHERE WHAT IT READS IS OF BULK AT MOST 1048576: true; the input reads as it did. -/
def heapAlikeUptoRow : OpenClaim := { program := "ytlnpipkhofhlnaa", sum := "18f51b4f61a5b5b3f6f3c9d8247966ddedeffdba35351614aad4c5652b7c67b5", func := "pritchel/pritchellaw01.HeapAlike", spec := "heapAlike", recurses := true, apart := false, narrowed := true }
def HeapAlikeUptoSaid : Prop := heapAlikeUptoRow.holds Try.pinned (OpenSpec.upto heapAlikeSpec)

/-- 'pritchellaw01.HeapEdges', WHERE WHAT IT READS IS OF BULK AT MOST 1048576: true; the input reads as it did. -/
def heapEdgesUptoRow : OpenClaim := { program := "ytlnpipkhofhlnaa", sum := "18f51b4f61a5b5b3f6f3c9d8247966ddedeffdba35351614aad4c5652b7c67b5", func := "pritchel/pritchellaw01.HeapEdges", spec := "heapEdges", apart := false, narrowed := true }
def HeapEdgesUptoSaid : Prop := heapEdgesUptoRow.holds Try.pinned (OpenSpec.upto heapEdgesSpec)

end Rows
end Go.Proofs.Ytlnpipkhofhlnaa
