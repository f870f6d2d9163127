/-
  No cell of these rows narrows 'for every input' (looked for: loops, veiled, ifaces, maps, wideKeys, modest, calm, conditions, laid).
  DERIVED. THE GIVEN ROWS OF THIS SEAT. 7 by the template 'for every input the law returns true; each argument reads behind the call as it read before'; 0 by the template 'total and deterministic' (their statements: YtjcgplocifmolaaTotals.lean).
  GIVEN WITH THE SEED: the statements are not yours to turn. If you find one false, say at which input.
  Laid BY PROGRAM, IN A SANDBOX (cutbox-rows.mjs): the forced cells as the released guide's own fill.sh prints them over the translation 1a3fe0f225d1a409… (all of the seat's roots in one cut). By AI agents, Wed Nov 11 2026. No macro, syntax, notation, axiom, sorry.
-/
import Derived.Test.YtjcgplocifmolaaChecked
import GoSem.Claim
import GoSem.ClaimJoined
import GoSem.ClaimMapViews
import Derived.JoinedTies
import Derived.KernelRfl
namespace Go.Proofs.Ytjcgplocifmolaa
/- THE CELL 'sum', in the pinned program and in every row, IS THE sha256 OF THE DUMP (.gsa) THAT YtjcgplocifmolaaProg.lean LOADS. Nothing in Lean hashes anything: it is a label: what it is worth is what the hold of that sum in a sandbox is worth. -/
noncomputable def Try.pinned : Pinned := { name := "ytjcgplocifmolaa", sum := "1a3fe0f225d1a409f34d70db62242947d5ea7ac3b462e5923a0c7334ef292f47", checked := Try.checked }
namespace Rows
def none {H : Type} : Left H := { results := [], args := [] }

/-- 'pritchellaw09.MarkSizes': WHATEVER THE INPUT: true; the input reads as it did. -/
def markSizesSpec : ChangeSpec := { name := "markSizes", fn := fun _ => fun
  | [d1, d2] => { results := [.lit (.bool true)], args := [d1, d2] }
  | _ => none }
def markSizesRow : OpenClaim := { program := "ytjcgplocifmolaa", sum := "1a3fe0f225d1a409f34d70db62242947d5ea7ac3b462e5923a0c7334ef292f47", func := "pritchel/pritchellaw09.MarkSizes", spec := "markSizes", inPlace := ["math/bits.Add64"], recurses := true, named := ["math/bits.divideError", "math/bits.overflowError"], apart := false }
def MarkSizesSaid : Prop := markSizesRow.holds Try.pinned (OpenSpec.ofChange markSizesSpec)

/-- ITS FALSE NEIGHBOUR: 'it returns false'. Refute it at one input. -/
def markSizesWrong : ChangeSpec := { name := "markSizes", fn := fun _ => fun
  | [d1, d2] => { results := [.lit (.bool false)], args := [d1, d2] }
  | _ => none }
def MarkSizesWrongFalsely : Prop := markSizesRow.holds Try.pinned (OpenSpec.ofChange markSizesWrong)

/-- 'pritchellaw09.MarkCommons': WHATEVER THE INPUT: true; the input reads as it did. -/
def markCommonsSpec : ChangeSpec := { name := "markCommons", fn := fun _ => fun
  | [d1, d2] => { results := [.lit (.bool true)], args := [d1, d2] }
  | _ => none }
def markCommonsRow : OpenClaim := { program := "ytjcgplocifmolaa", sum := "1a3fe0f225d1a409f34d70db62242947d5ea7ac3b462e5923a0c7334ef292f47", func := "pritchel/pritchellaw09.MarkCommons", spec := "markCommons", recurses := true, apart := false }
def MarkCommonsSaid : Prop := markCommonsRow.holds Try.pinned (OpenSpec.ofChange markCommonsSpec)

/-- ITS FALSE NEIGHBOUR: 'it returns false'. Refute it at one input. -/
def markCommonsWrong : ChangeSpec := { name := "markCommons", fn := fun _ => fun
  | [d1, d2] => { results := [.lit (.bool false)], args := [d1, d2] }
  | _ => none }
def MarkCommonsWrongFalsely : Prop := markCommonsRow.holds Try.pinned (OpenSpec.ofChange markCommonsWrong)

/-- 'pritchellaw09.MarkFounds': WHATEVER THE INPUT: true; the input reads as it did. -/
def markFoundsSpec : ChangeSpec := { name := "markFounds", fn := fun _ => fun
  | [d1, d2] => { results := [.lit (.bool true)], args := [d1, d2] }
  | _ => none }
def markFoundsRow : OpenClaim := { program := "ytjcgplocifmolaa", sum := "1a3fe0f225d1a409f34d70db62242947d5ea7ac3b462e5923a0c7334ef292f47", func := "pritchel/pritchellaw09.MarkFounds", spec := "markFounds", recurses := true, apart := false }
def MarkFoundsSaid : Prop := markFoundsRow.holds Try.pinned (OpenSpec.ofChange markFoundsSpec)

/-- ITS FALSE NEIGHBOUR: 'it returns false'. Refute it at one input. -/
def markFoundsWrong : ChangeSpec := { name := "markFounds", fn := fun _ => fun
  | [d1, d2] => { results := [.lit (.bool false)], args := [d1, d2] }
  | _ => none }
def MarkFoundsWrongFalsely : Prop := markFoundsRow.holds Try.pinned (OpenSpec.ofChange markFoundsWrong)

/-- 'pritchellaw09.MarkApart': WHATEVER THE INPUT: true; the input reads as it did. -/
def markApartSpec : ChangeSpec := { name := "markApart", fn := fun _ => fun
  | [d1, d2, d3] => { results := [.lit (.bool true)], args := [d1, d2, d3] }
  | _ => none }
def markApartRow : OpenClaim := { program := "ytjcgplocifmolaa", sum := "1a3fe0f225d1a409f34d70db62242947d5ea7ac3b462e5923a0c7334ef292f47", func := "pritchel/pritchellaw09.MarkApart", spec := "markApart", recurses := true, apart := false }
def MarkApartSaid : Prop := markApartRow.holds Try.pinned (OpenSpec.ofChange markApartSpec)

/-- ITS FALSE NEIGHBOUR: 'it returns false'. Refute it at one input. -/
def markApartWrong : ChangeSpec := { name := "markApart", fn := fun _ => fun
  | [d1, d2, d3] => { results := [.lit (.bool false)], args := [d1, d2, d3] }
  | _ => none }
def MarkApartWrongFalsely : Prop := markApartRow.holds Try.pinned (OpenSpec.ofChange markApartWrong)

/-- 'pritchellaw09.MarkAll': WHATEVER THE INPUT: true; the input reads as it did. -/
def markAllSpec : ChangeSpec := { name := "markAll", fn := fun _ => fun
  | [d] => { results := [.lit (.bool true)], args := [d] }
  | _ => none }
def markAllRow : OpenClaim := { program := "ytjcgplocifmolaa", sum := "1a3fe0f225d1a409f34d70db62242947d5ea7ac3b462e5923a0c7334ef292f47", func := "pritchel/pritchellaw09.MarkAll", spec := "markAll", inPlace := ["math/bits.Add64"], recurses := true, named := ["math/bits.divideError", "math/bits.overflowError"], apart := false }
def MarkAllSaid : Prop := markAllRow.holds Try.pinned (OpenSpec.ofChange markAllSpec)

/-- ITS FALSE NEIGHBOUR: 'it returns false'. Refute it at one input. -/
def markAllWrong : ChangeSpec := { name := "markAll", fn := fun _ => fun
  | [d] => { results := [.lit (.bool false)], args := [d] }
  | _ => none }
def MarkAllWrongFalsely : Prop := markAllRow.holds Try.pinned (OpenSpec.ofChange markAllWrong)

/-- 'pritchellaw09.MarkBetween': WHATEVER THE INPUT: true; the input reads as it did. -/
def markBetweenSpec : ChangeSpec := { name := "markBetween", fn := fun _ => fun
  | [d1, d2, d3] => { results := [.lit (.bool true)], args := [d1, d2, d3] }
  | _ => none }
def markBetweenRow : OpenClaim := { program := "ytjcgplocifmolaa", sum := "1a3fe0f225d1a409f34d70db62242947d5ea7ac3b462e5923a0c7334ef292f47", func := "pritchel/pritchellaw09.MarkBetween", spec := "markBetween", recurses := true, apart := false }
def MarkBetweenSaid : Prop := markBetweenRow.holds Try.pinned (OpenSpec.ofChange markBetweenSpec)

/-- ITS FALSE NEIGHBOUR: 'it returns false'. Refute it at one input. -/
def markBetweenWrong : ChangeSpec := { name := "markBetween", fn := fun _ => fun
  | [d1, d2, d3] => { results := [.lit (.bool false)], args := [d1, d2, d3] }
  | _ => none }
def MarkBetweenWrongFalsely : Prop := markBetweenRow.holds Try.pinned (OpenSpec.ofChange markBetweenWrong)

/-- 'pritchellaw09.MarkMirrored': WHATEVER THE INPUT: true; the input reads as it did. -/
def markMirroredSpec : ChangeSpec := { name := "markMirrored", fn := fun _ => fun
  | [d1, d2, d3] => { results := [.lit (.bool true)], args := [d1, d2, d3] }
  | _ => none }
def markMirroredRow : OpenClaim := { program := "ytjcgplocifmolaa", sum := "1a3fe0f225d1a409f34d70db62242947d5ea7ac3b462e5923a0c7334ef292f47", func := "pritchel/pritchellaw09.MarkMirrored", spec := "markMirrored", recurses := true, apart := false }
def MarkMirroredSaid : Prop := markMirroredRow.holds Try.pinned (OpenSpec.ofChange markMirroredSpec)

/-- ITS FALSE NEIGHBOUR: 'it returns false'. Refute it at one input. -/
def markMirroredWrong : ChangeSpec := { name := "markMirrored", fn := fun _ => fun
  | [d1, d2, d3] => { results := [.lit (.bool false)], args := [d1, d2, d3] }
  | _ => none }
def MarkMirroredWrongFalsely : Prop := markMirroredRow.holds Try.pinned (OpenSpec.ofChange markMirroredWrong)

/- THE SECOND FORM. 'bulk': how many values and letters a reading holds, each counted each time it is reached (what is shared counts as often as it is met; a slice's spare places count too). A statement '..UptoSaid' is the law's where the arguments, and the package variables that the reading takes, are together of bulk at most 1048576: NARROWER than '..Said'. Prove '..Said' where nothing that the law and all that it calls make is longer than what came in: it says more and counts as full. Else prove '..UptoSaid'. A law counts once. -/
mutual
def uptoBulk {H : Type} : DataW H → Nat
  | .lit (.string bytes) => bytes.length + 1
  | .lit _ => 1
  | .nil => 1
  | .ptr d => uptoBulk d + 1
  | .slice elems spare => uptoBulkAll elems + uptoBulkAll spare + 1
  | .agg parts => uptoBulkAll parts + 1
  | .iface _ d => uptoBulk d + 1
  | .map entries => uptoBulkEntries entries + 1
  | .held _ => 1
def uptoBulkAll {H : Type} : List (DataW H) → Nat
  | [] => 0
  | d :: r => uptoBulk d + uptoBulkAll r
def uptoBulkEntries {H : Type} : List (Lit × DataW H) → Nat
  | [] => 0
  | x :: r => uptoBulkEntry x + uptoBulkEntries r
def uptoBulkEntry {H : Type} : Lit × DataW H → Nat
  | (.string bytes, d) => bytes.length + uptoBulk d + 1
  | (_, d) => uptoBulk d + 1
 end
def uptoSmall : (H : Type) → List (DataW H) → Bool := fun _ ds => decide (uptoBulkAll ds ≤ 1048576)
def OpenSpec.upto (s : _root_.Go.ChangeSpec) : _root_.Go.OpenSpec := { _root_.Go.OpenSpec.ofChange s with cond := some uptoSmall }

/-- 'pritchellaw09.MarkSizes', WHERE WHAT IT READS IS OF BULK AT MOST 1048576: true; the input reads as it did. -/
def markSizesUptoRow : OpenClaim := { program := "ytjcgplocifmolaa", sum := "1a3fe0f225d1a409f34d70db62242947d5ea7ac3b462e5923a0c7334ef292f47", func := "pritchel/pritchellaw09.MarkSizes", spec := "markSizes", inPlace := ["math/bits.Add64"], recurses := true, named := ["math/bits.divideError", "math/bits.overflowError"], apart := false, narrowed := true }
def MarkSizesUptoSaid : Prop := markSizesUptoRow.holds Try.pinned (OpenSpec.upto markSizesSpec)

/-- 'pritchellaw09.MarkCommons', WHERE WHAT IT READS IS OF BULK AT MOST 1048576: true; the input reads as it did. -/
def markCommonsUptoRow : OpenClaim := { program := "ytjcgplocifmolaa", sum := "1a3fe0f225d1a409f34d70db62242947d5ea7ac3b462e5923a0c7334ef292f47", func := "pritchel/pritchellaw09.MarkCommons", spec := "markCommons", recurses := true, apart := false, narrowed := true }
def MarkCommonsUptoSaid : Prop := markCommonsUptoRow.holds Try.pinned (OpenSpec.upto markCommonsSpec)

/-- 'pritchellaw09.MarkFounds', WHERE WHAT IT READS IS OF BULK AT MOST 1048576: true; the input reads as it did. -/
def markFoundsUptoRow : OpenClaim := { program := "ytjcgplocifmolaa", sum := "1a3fe0f225d1a409f34d70db62242947d5ea7ac3b462e5923a0c7334ef292f47", func := "pritchel/pritchellaw09.MarkFounds", spec := "markFounds", recurses := true, apart := false, narrowed := true }
def MarkFoundsUptoSaid : Prop := markFoundsUptoRow.holds Try.pinned (OpenSpec.upto markFoundsSpec)

/-- 'pritchellaw09.MarkApart', WHERE WHAT IT READS IS OF BULK AT MOST 1048576: true; the input reads as it did. -/
def markApartUptoRow : OpenClaim := { program := "ytjcgplocifmolaa", sum := "1a3fe0f225d1a409f34d70db62242947d5ea7ac3b462e5923a0c7334ef292f47", func := "pritchel/pritchellaw09.MarkApart", spec := "markApart", recurses := true, apart := false, narrowed := true }
def MarkApartUptoSaid : Prop := markApartUptoRow.holds Try.pinned (OpenSpec.upto markApartSpec)

/-- 'pritchellaw09.MarkAll', WHERE WHAT IT READS IS OF BULK AT MOST 1048576: true; the input reads as it did. -/
def markAllUptoRow : OpenClaim := { program := "ytjcgplocifmolaa", sum := "1a3fe0f225d1a409f34d70db62242947d5ea7ac3b462e5923a0c7334ef292f47", func := "pritchel/pritchellaw09.MarkAll", spec := "markAll", inPlace := ["math/bits.Add64"], recurses := true, named := ["math/bits.divideError", "math/bits.overflowError"], apart := false, narrowed := true }
def MarkAllUptoSaid : Prop := markAllUptoRow.holds Try.pinned (OpenSpec.upto markAllSpec)

/-- 'pritchellaw09.MarkBetween', WHERE WHAT IT READS IS OF BULK AT MOST 1048576: true; the input reads as it did. -/
def markBetweenUptoRow : OpenClaim := { program := "ytjcgplocifmolaa", sum := "1a3fe0f225d1a409f34d70db62242947d5ea7ac3b462e5923a0c7334ef292f47", func := "pritchel/pritchellaw09.MarkBetween", spec := "markBetween", recurses := true, apart := false, narrowed := true }
def MarkBetweenUptoSaid : Prop := markBetweenUptoRow.holds Try.pinned (OpenSpec.upto markBetweenSpec)

/-- 'pritchellaw09.MarkMirrored', WHERE WHAT IT READS IS OF BULK AT MOST 1048576: true; the input reads as it did. -/
def markMirroredUptoRow : OpenClaim := { program := "ytjcgplocifmolaa", sum := "1a3fe0f225d1a409f34d70db62242947d5ea7ac3b462e5923a0c7334ef292f47", func := "pritchel/pritchellaw09.MarkMirrored", spec := "markMirrored", recurses := true, apart := false, narrowed := true }
def MarkMirroredUptoSaid : Prop := markMirroredUptoRow.holds Try.pinned (OpenSpec.upto markMirroredSpec)

end Rows
end Go.Proofs.Ytjcgplocifmolaa
