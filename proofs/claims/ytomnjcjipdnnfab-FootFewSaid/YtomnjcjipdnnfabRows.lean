/-
  No cell of these rows narrows 'for every input' (looked for: loops, veiled, ifaces, maps, wideKeys, modest, calm, conditions, laid).
  DERIVED. THE GIVEN ROWS OF THIS SEAT. 3 by the template 'for every input the law returns true; each argument reads behind the call as it read before'; 0 by the template 'total and deterministic' (their statements: YtomnjcjipdnnfabTotals.lean).
  GIVEN WITH THE SEED: the statements are not yours to turn. If you find one false, say at which input.
  Laid BY PROGRAM, IN A SANDBOX (cutbox-rows.mjs): the forced cells as the released guide's own fill.sh prints them over the translation 7635aa0b91f2dbcf… (all of the seat's roots in one cut). By AI agents, Wed Nov 11 2026. No macro, syntax, notation, axiom, sorry.
-/
import Derived.Test.YtomnjcjipdnnfabChecked
import GoSem.Claim
import GoSem.ClaimJoined
import GoSem.ClaimMapViews
import Derived.JoinedTies
import Derived.KernelRfl
namespace Go.Proofs.Ytomnjcjipdnnfab
/- THE CELL 'sum', in the pinned program and in every row, IS THE sha256 OF THE DUMP (.gsa) THAT YtomnjcjipdnnfabProg.lean LOADS. Nothing in Lean hashes anything: it is a label: what it is worth is what the hold of that sum in a sandbox is worth. -/
noncomputable def Try.pinned : Pinned := { name := "ytomnjcjipdnnfab", sum := "7635aa0b91f2dbcf76d19c7db30016198096d54bc2cb620b400db4f41fd8e2b1", checked := Try.checked }
namespace Rows
def none {H : Type} : Left H := { results := [], args := [] }

/-- 'pritchellaw02.FootLimits': WHATEVER THE INPUT: true; the input reads as it did. -/
def footLimitsSpec : ChangeSpec := { name := "footLimits", fn := fun _ => fun
  | [d1, d2, d3] => { results := [.lit (.bool true)], args := [d1, d2, d3] }
  | _ => none }
def footLimitsRow : OpenClaim := { program := "ytomnjcjipdnnfab", sum := "7635aa0b91f2dbcf76d19c7db30016198096d54bc2cb620b400db4f41fd8e2b1", func := "pritchel/pritchellaw02.FootLimits", spec := "footLimits", unfollowed := true, recurses := true, apart := false }
def FootLimitsSaid : Prop := footLimitsRow.holds Try.pinned (OpenSpec.ofChange footLimitsSpec)

/-- ITS FALSE NEIGHBOUR: 'it returns false'. Refute it at one input. -/
def footLimitsWrong : ChangeSpec := { name := "footLimits", fn := fun _ => fun
  | [d1, d2, d3] => { results := [.lit (.bool false)], args := [d1, d2, d3] }
  | _ => none }
def FootLimitsWrongFalsely : Prop := footLimitsRow.holds Try.pinned (OpenSpec.ofChange footLimitsWrong)

/-- 'pritchellaw02.FootFew': WHATEVER THE INPUT: true; the input reads as it did. -/
def footFewSpec : ChangeSpec := { name := "footFew", fn := fun _ => fun
  | [d1, d2, d3] => { results := [.lit (.bool true)], args := [d1, d2, d3] }
  | _ => none }
def footFewRow : OpenClaim := { program := "ytomnjcjipdnnfab", sum := "7635aa0b91f2dbcf76d19c7db30016198096d54bc2cb620b400db4f41fd8e2b1", func := "pritchel/pritchellaw02.FootFew", spec := "footFew", unfollowed := true, recurses := true, apart := false }
def FootFewSaid : Prop := footFewRow.holds Try.pinned (OpenSpec.ofChange footFewSpec)

/-- ITS FALSE NEIGHBOUR: 'it returns false'. Refute it at one input. -/
def footFewWrong : ChangeSpec := { name := "footFew", fn := fun _ => fun
  | [d1, d2, d3] => { results := [.lit (.bool false)], args := [d1, d2, d3] }
  | _ => none }
def FootFewWrongFalsely : Prop := footFewRow.holds Try.pinned (OpenSpec.ofChange footFewWrong)

/-- 'pritchellaw02.FootAround': WHATEVER THE INPUT: true; the input reads as it did. -/
def footAroundSpec : ChangeSpec := { name := "footAround", fn := fun _ => fun
  | [d1, d2, d3] => { results := [.lit (.bool true)], args := [d1, d2, d3] }
  | _ => none }
def footAroundRow : OpenClaim := { program := "ytomnjcjipdnnfab", sum := "7635aa0b91f2dbcf76d19c7db30016198096d54bc2cb620b400db4f41fd8e2b1", func := "pritchel/pritchellaw02.FootAround", spec := "footAround", unfollowed := true, recurses := true, apart := false }
def FootAroundSaid : Prop := footAroundRow.holds Try.pinned (OpenSpec.ofChange footAroundSpec)

/-- ITS FALSE NEIGHBOUR: 'it returns false'. Refute it at one input. -/
def footAroundWrong : ChangeSpec := { name := "footAround", fn := fun _ => fun
  | [d1, d2, d3] => { results := [.lit (.bool false)], args := [d1, d2, d3] }
  | _ => none }
def FootAroundWrongFalsely : Prop := footAroundRow.holds Try.pinned (OpenSpec.ofChange footAroundWrong)

/- THE SECOND FORM. 'bulk': how many values and letters a reading holds, each counted each time it is reached (what is shared counts as often as it is met; a slice's spare places count too). A statement '..UptoSaid' is the law's where the arguments, and the package variables that the reading takes, are together of bulk at most 1048576: NARROWER than '..Said'. Prove '..Said' where nothing that the law and all that it calls make is longer than what came in: it says more and counts as full. Else prove '..UptoSaid'. A law counts once. -/
mutual
def uptoBulk {H : Type} : DataW H → Nat
  | .lit (.string bytes) => bytes.length + 1
  | .lit _ => 1
  | .nil => 1
  | .ptr d => uptoBulk d + 1
  | .slice elems spare => uptoBulkAll elems + uptoBulkAll spare + 1
  | .agg parts => uptoBulkAll parts + 1
  | .iface _ d => uptoBulk d + 1
  | .map entries => uptoBulkEntries entries + 1
  | .held _ => 1
def uptoBulkAll {H : Type} : List (DataW H) → Nat
  | [] => 0
  | d :: r => uptoBulk d + uptoBulkAll r
def uptoBulkEntries {H : Type} : List (Lit × DataW H) → Nat
  | [] => 0
  | x :: r => uptoBulkEntry x + uptoBulkEntries r
def uptoBulkEntry {H : Type} : Lit × DataW H → Nat
  | (.string bytes, d) => bytes.length + uptoBulk d + 1
  | (_, d) => uptoBulk d + 1
 end
def uptoSmall : (H : Type) → List (DataW H) → Bool := fun _ ds => decide (uptoBulkAll ds ≤ 1048576)
def OpenSpec.upto (s : _root_.Go.ChangeSpec) : _root_.Go.OpenSpec := { _root_.Go.OpenSpec.ofChange s with cond := some uptoSmall }

/-- 'pritchellaw02.FootLimits', WHERE WHAT IT READS IS OF BULK AT MOST 1048576: true; the input reads as it did. -/
def footLimitsUptoRow : OpenClaim := { program := "ytomnjcjipdnnfab", sum := "7635aa0b91f2dbcf76d19c7db30016198096d54bc2cb620b400db4f41fd8e2b1", func := "pritchel/pritchellaw02.FootLimits", spec := "footLimits", unfollowed := true, recurses := true, apart := false, narrowed := true }
def FootLimitsUptoSaid : Prop := footLimitsUptoRow.holds Try.pinned (OpenSpec.upto footLimitsSpec)

/-- 'pritchellaw02.FootFew', WHERE WHAT IT READS IS OF BULK AT MOST 1048576: true; the input reads as it did. -/
def footFewUptoRow : OpenClaim := { program := "ytomnjcjipdnnfab", sum := "7635aa0b91f2dbcf76d19c7db30016198096d54bc2cb620b400db4f41fd8e2b1", func := "pritchel/pritchellaw02.FootFew", spec := "footFew", unfollowed := true, recurses := true, apart := false, narrowed := true }
def FootFewUptoSaid : Prop := footFewUptoRow.holds Try.pinned (OpenSpec.upto footFewSpec)

/-- 'pritchellaw02.FootAround', WHERE WHAT IT READS IS OF BULK AT MOST 1048576: true; the input reads as it did. -/
def footAroundUptoRow : OpenClaim := { program := "ytomnjcjipdnnfab", sum := "7635aa0b91f2dbcf76d19c7db30016198096d54bc2cb620b400db4f41fd8e2b1", func := "pritchel/pritchellaw02.FootAround", spec := "footAround", unfollowed := true, recurses := true, apart := false, narrowed := true }
def FootAroundUptoSaid : Prop := footAroundUptoRow.holds Try.pinned (OpenSpec.upto footAroundSpec)

end Rows
end Go.Proofs.Ytomnjcjipdnnfab
