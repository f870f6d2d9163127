/-
  No cell of these rows narrows 'for every input' (looked for: loops, veiled, ifaces, maps, wideKeys, modest, calm, conditions, laid).
  DERIVED. THE GIVEN ROWS OF THIS SEAT. 9 by the template 'for every input the law returns true; each argument reads behind the call as it read before'; 0 by the template 'total and deterministic' (their statements: YtjjeoloifggdpaaTotals.lean).
  GIVEN WITH THE SEED: the statements are not yours to turn. If you find one false, say at which input.
  Laid BY PROGRAM, IN A SANDBOX (cutbox-rows.mjs): the forced cells as the released guide's own fill.sh prints them over the translation 3e4747274f3650a2… (all of the seat's roots in one cut). By AI agents, Wed Nov 11 2026. No macro, syntax, notation, axiom, sorry.
-/
import Derived.Test.YtjjeoloifggdpaaChecked
import GoSem.Claim
import GoSem.ClaimJoined
import GoSem.ClaimMapViews
import Derived.JoinedTies
import Derived.KernelRfl
namespace Go.Proofs.Ytjjeoloifggdpaa
/- THE CELL 'sum', in the pinned program and in every row, IS THE sha256 OF THE DUMP (.gsa) THAT YtjjeoloifggdpaaProg.lean LOADS. Nothing in Lean hashes anything: it is a label: what it is worth is what the hold of that sum in a sandbox is worth. -/
noncomputable def Try.pinned : Pinned := { name := "ytjjeoloifggdpaa", sum := "3e4747274f3650a2230e028a1f15afafbbd4d2c6ad80dd87c71d98c9e83e3df6", checked := Try.checked }
namespace Rows
def none {H : Type} : Left H := { results := [], args := [] }

/-- 'pritchellaw10.ForgeNews': WHATEVER THE INPUT: true; the input reads as it did. -/
def forgeNewsSpec : ChangeSpec := { name := "forgeNews", fn := fun _ => fun
  | [d1, d2] => { results := [.lit (.bool true)], args := [d1, d2] }
  | _ => none }
def forgeNewsRow : OpenClaim := { program := "ytjjeoloifggdpaa", sum := "3e4747274f3650a2230e028a1f15afafbbd4d2c6ad80dd87c71d98c9e83e3df6", func := "pritchel/pritchellaw10.ForgeNews", spec := "forgeNews", unfollowed := true, recurses := true, apart := false }
def ForgeNewsSaid : Prop := forgeNewsRow.holds Try.pinned (OpenSpec.ofChange forgeNewsSpec)

/-- ITS FALSE NEIGHBOUR: 'it returns false'. Refute it at one input. -/
def forgeNewsWrong : ChangeSpec := { name := "forgeNews", fn := fun _ => fun
  | [d1, d2] => { results := [.lit (.bool false)], args := [d1, d2] }
  | _ => none }
def ForgeNewsWrongFalsely : Prop := forgeNewsRow.holds Try.pinned (OpenSpec.ofChange forgeNewsWrong)

/-- 'pritchellaw10.ForgePlays': WHATEVER THE INPUT: true; the input reads as it did. -/
def forgePlaysSpec : ChangeSpec := { name := "forgePlays", fn := fun _ => fun
  | [d1, d2, d3] => { results := [.lit (.bool true)], args := [d1, d2, d3] }
  | _ => none }
def forgePlaysRow : OpenClaim := { program := "ytjjeoloifggdpaa", sum := "3e4747274f3650a2230e028a1f15afafbbd4d2c6ad80dd87c71d98c9e83e3df6", func := "pritchel/pritchellaw10.ForgePlays", spec := "forgePlays", unfollowed := true, recurses := true, apart := false }
def ForgePlaysSaid : Prop := forgePlaysRow.holds Try.pinned (OpenSpec.ofChange forgePlaysSpec)

/-- ITS FALSE NEIGHBOUR: 'it returns false'. Refute it at one input. -/
def forgePlaysWrong : ChangeSpec := { name := "forgePlays", fn := fun _ => fun
  | [d1, d2, d3] => { results := [.lit (.bool false)], args := [d1, d2, d3] }
  | _ => none }
def ForgePlaysWrongFalsely : Prop := forgePlaysRow.holds Try.pinned (OpenSpec.ofChange forgePlaysWrong)

/-- 'pritchellaw10.ForgeOne': WHATEVER THE INPUT: true; the input reads as it did. -/
def forgeOneSpec : ChangeSpec := { name := "forgeOne", fn := fun _ => fun
  | [d] => { results := [.lit (.bool true)], args := [d] }
  | _ => none }
def forgeOneRow : OpenClaim := { program := "ytjjeoloifggdpaa", sum := "3e4747274f3650a2230e028a1f15afafbbd4d2c6ad80dd87c71d98c9e83e3df6", func := "pritchel/pritchellaw10.ForgeOne", spec := "forgeOne", unfollowed := true, recurses := true, apart := false }
def ForgeOneSaid : Prop := forgeOneRow.holds Try.pinned (OpenSpec.ofChange forgeOneSpec)

/-- ITS FALSE NEIGHBOUR: 'it returns false'. Refute it at one input. -/
def forgeOneWrong : ChangeSpec := { name := "forgeOne", fn := fun _ => fun
  | [d] => { results := [.lit (.bool false)], args := [d] }
  | _ => none }
def ForgeOneWrongFalsely : Prop := forgeOneRow.holds Try.pinned (OpenSpec.ofChange forgeOneWrong)

/-- 'pritchellaw10.ForgeAll': WHATEVER THE INPUT: true; the input reads as it did. -/
def forgeAllSpec : ChangeSpec := { name := "forgeAll", fn := fun _ => fun
  | [d1, d2] => { results := [.lit (.bool true)], args := [d1, d2] }
  | _ => none }
def forgeAllRow : OpenClaim := { program := "ytjjeoloifggdpaa", sum := "3e4747274f3650a2230e028a1f15afafbbd4d2c6ad80dd87c71d98c9e83e3df6", func := "pritchel/pritchellaw10.ForgeAll", spec := "forgeAll", unfollowed := true, recurses := true, apart := false }
def ForgeAllSaid : Prop := forgeAllRow.holds Try.pinned (OpenSpec.ofChange forgeAllSpec)

/-- ITS FALSE NEIGHBOUR: 'it returns false'. Refute it at one input. -/
def forgeAllWrong : ChangeSpec := { name := "forgeAll", fn := fun _ => fun
  | [d1, d2] => { results := [.lit (.bool false)], args := [d1, d2] }
  | _ => none }
def ForgeAllWrongFalsely : Prop := forgeAllRow.holds Try.pinned (OpenSpec.ofChange forgeAllWrong)

/-- 'pritchellaw10.ForgeFew': WHATEVER THE INPUT: true; the input reads as it did. -/
def forgeFewSpec : ChangeSpec := { name := "forgeFew", fn := fun _ => fun
  | [d] => { results := [.lit (.bool true)], args := [d] }
  | _ => none }
def forgeFewRow : OpenClaim := { program := "ytjjeoloifggdpaa", sum := "3e4747274f3650a2230e028a1f15afafbbd4d2c6ad80dd87c71d98c9e83e3df6", func := "pritchel/pritchellaw10.ForgeFew", spec := "forgeFew", unfollowed := true, recurses := true, apart := false }
def ForgeFewSaid : Prop := forgeFewRow.holds Try.pinned (OpenSpec.ofChange forgeFewSpec)

/-- ITS FALSE NEIGHBOUR: 'it returns false'. Refute it at one input. -/
def forgeFewWrong : ChangeSpec := { name := "forgeFew", fn := fun _ => fun
  | [d] => { results := [.lit (.bool false)], args := [d] }
  | _ => none }
def ForgeFewWrongFalsely : Prop := forgeFewRow.holds Try.pinned (OpenSpec.ofChange forgeFewWrong)

/-- 'pritchellaw10.ForgeAsked': WHATEVER THE INPUT: true; the input reads as it did. -/
def forgeAskedSpec : ChangeSpec := { name := "forgeAsked", fn := fun _ => fun
  | [d] => { results := [.lit (.bool true)], args := [d] }
  | _ => none }
def forgeAskedRow : OpenClaim := { program := "ytjjeoloifggdpaa", sum := "3e4747274f3650a2230e028a1f15afafbbd4d2c6ad80dd87c71d98c9e83e3df6", func := "pritchel/pritchellaw10.ForgeAsked", spec := "forgeAsked", unfollowed := true, recurses := true, apart := false }
def ForgeAskedSaid : Prop := forgeAskedRow.holds Try.pinned (OpenSpec.ofChange forgeAskedSpec)

/-- ITS FALSE NEIGHBOUR: 'it returns false'. Refute it at one input. -/
def forgeAskedWrong : ChangeSpec := { name := "forgeAsked", fn := fun _ => fun
  | [d] => { results := [.lit (.bool false)], args := [d] }
  | _ => none }
def ForgeAskedWrongFalsely : Prop := forgeAskedRow.holds Try.pinned (OpenSpec.ofChange forgeAskedWrong)

/-- 'pritchellaw10.ForgeCloned': WHATEVER THE INPUT: true; the input reads as it did. -/
def forgeClonedSpec : ChangeSpec := { name := "forgeCloned", fn := fun _ => fun
  | [d1, d2] => { results := [.lit (.bool true)], args := [d1, d2] }
  | _ => none }
def forgeClonedRow : OpenClaim := { program := "ytjjeoloifggdpaa", sum := "3e4747274f3650a2230e028a1f15afafbbd4d2c6ad80dd87c71d98c9e83e3df6", func := "pritchel/pritchellaw10.ForgeCloned", spec := "forgeCloned", unfollowed := true, recurses := true, apart := false }
def ForgeClonedSaid : Prop := forgeClonedRow.holds Try.pinned (OpenSpec.ofChange forgeClonedSpec)

/-- ITS FALSE NEIGHBOUR: 'it returns false'. Refute it at one input. -/
def forgeClonedWrong : ChangeSpec := { name := "forgeCloned", fn := fun _ => fun
  | [d1, d2] => { results := [.lit (.bool false)], args := [d1, d2] }
  | _ => none }
def ForgeClonedWrongFalsely : Prop := forgeClonedRow.holds Try.pinned (OpenSpec.ofChange forgeClonedWrong)

/-- 'pritchellaw10.ForgeOwn': WHATEVER THE INPUT: true; the input reads as it did. -/
def forgeOwnSpec : ChangeSpec := { name := "forgeOwn", fn := fun _ => fun
  | [d] => { results := [.lit (.bool true)], args := [d] }
  | _ => none }
def forgeOwnRow : OpenClaim := { program := "ytjjeoloifggdpaa", sum := "3e4747274f3650a2230e028a1f15afafbbd4d2c6ad80dd87c71d98c9e83e3df6", func := "pritchel/pritchellaw10.ForgeOwn", spec := "forgeOwn", unfollowed := true, recurses := true, apart := false }
def ForgeOwnSaid : Prop := forgeOwnRow.holds Try.pinned (OpenSpec.ofChange forgeOwnSpec)

/-- ITS FALSE NEIGHBOUR: 'it returns false'. Refute it at one input. -/
def forgeOwnWrong : ChangeSpec := { name := "forgeOwn", fn := fun _ => fun
  | [d] => { results := [.lit (.bool false)], args := [d] }
  | _ => none }
def ForgeOwnWrongFalsely : Prop := forgeOwnRow.holds Try.pinned (OpenSpec.ofChange forgeOwnWrong)

/-- 'pritchellaw10.ForgeNobody': WHATEVER THE INPUT: true; the input reads as it did. -/
def forgeNobodySpec : ChangeSpec := { name := "forgeNobody", fn := fun _ => fun
  | [d1, d2] => { results := [.lit (.bool true)], args := [d1, d2] }
  | _ => none }
def forgeNobodyRow : OpenClaim := { program := "ytjjeoloifggdpaa", sum := "3e4747274f3650a2230e028a1f15afafbbd4d2c6ad80dd87c71d98c9e83e3df6", func := "pritchel/pritchellaw10.ForgeNobody", spec := "forgeNobody", unfollowed := true, recurses := true, apart := false }
def ForgeNobodySaid : Prop := forgeNobodyRow.holds Try.pinned (OpenSpec.ofChange forgeNobodySpec)

/-- ITS FALSE NEIGHBOUR: 'it returns false'. Refute it at one input. -/
def forgeNobodyWrong : ChangeSpec := { name := "forgeNobody", fn := fun _ => fun
  | [d1, d2] => { results := [.lit (.bool false)], args := [d1, d2] }
  | _ => none }
def ForgeNobodyWrongFalsely : Prop := forgeNobodyRow.holds Try.pinned (OpenSpec.ofChange forgeNobodyWrong)

/- THE SECOND FORM. 'bulk': how many values and letters a reading holds, each counted each time it is reached (what is shared counts as often as it is met; a slice's spare places count too). A statement '..UptoSaid' is the law's where the arguments, and the package variables that the reading takes, are together of bulk at most 1048576: NARROWER than '..Said'. Prove '..Said' where nothing that the law and all that it calls make is longer than what came in: it says more and counts as full. Else prove '..UptoSaid'. A law counts once. -/
mutual
def uptoBulk {H : Type} : DataW H → Nat
  | .lit (.string bytes) => bytes.length + 1
  | .lit _ => 1
  | .nil => 1
  | .ptr d => uptoBulk d + 1
  | .slice elems spare => uptoBulkAll elems + uptoBulkAll spare + 1
  | .agg parts => uptoBulkAll parts + 1
  | .iface _ d => uptoBulk d + 1
  | .map entries => uptoBulkEntries entries + 1
  | .held _ => 1
def uptoBulkAll {H : Type} : List (DataW H) → Nat
  | [] => 0
  | d :: r => uptoBulk d + uptoBulkAll r
def uptoBulkEntries {H : Type} : List (Lit × DataW H) → Nat
  | [] => 0
  | x :: r => uptoBulkEntry x + uptoBulkEntries r
def uptoBulkEntry {H : Type} : Lit × DataW H → Nat
  | (.string bytes, d) => bytes.length + uptoBulk d + 1
  | (_, d) => uptoBulk d + 1
 end
def uptoSmall : (H : Type) → List (DataW H) → Bool := fun _ ds => decide (uptoBulkAll ds ≤ 1048576)
def OpenSpec.upto (s : _root_.Go.ChangeSpec) : _root_.Go.OpenSpec := { _root_.Go.OpenSpec.ofChange s with cond := some uptoSmall }

/-- 'pritchellaw10.ForgeNews', WHERE WHAT IT READS IS OF BULK AT MOST 1048576: true; the input reads as it did. -/
def forgeNewsUptoRow : OpenClaim := { program := "ytjjeoloifggdpaa", sum := "3e4747274f3650a2230e028a1f15afafbbd4d2c6ad80dd87c71d98c9e83e3df6", func := "pritchel/pritchellaw10.ForgeNews", spec := "forgeNews", unfollowed := true, recurses := true, apart := false, narrowed := true }
def ForgeNewsUptoSaid : Prop := forgeNewsUptoRow.holds Try.pinned (OpenSpec.upto forgeNewsSpec)

/-- 'pritchellaw10.ForgePlays', WHERE WHAT IT READS IS OF BULK AT MOST 1048576: true; the input reads as it did. -/
def forgePlaysUptoRow : OpenClaim := { program := "ytjjeoloifggdpaa", sum := "3e4747274f3650a2230e028a1f15afafbbd4d2c6ad80dd87c71d98c9e83e3df6", func := "pritchel/pritchellaw10.ForgePlays", spec := "forgePlays", unfollowed := true, recurses := true, apart := false, narrowed := true }
def ForgePlaysUptoSaid : Prop := forgePlaysUptoRow.holds Try.pinned (OpenSpec.upto forgePlaysSpec)

/-- 'pritchellaw10.ForgeOne', WHERE WHAT IT READS IS OF BULK AT MOST 1048576: true; the input reads as it did. -/
def forgeOneUptoRow : OpenClaim := { program := "ytjjeoloifggdpaa", sum := "3e4747274f3650a2230e028a1f15afafbbd4d2c6ad80dd87c71d98c9e83e3df6", func := "pritchel/pritchellaw10.ForgeOne", spec := "forgeOne", unfollowed := true, recurses := true, apart := false, narrowed := true }
def ForgeOneUptoSaid : Prop := forgeOneUptoRow.holds Try.pinned (OpenSpec.upto forgeOneSpec)

/-- 'pritchellaw10.ForgeAll', WHERE WHAT IT READS IS OF BULK AT MOST 1048576: true; the input reads as it did. -/
def forgeAllUptoRow : OpenClaim := { program := "ytjjeoloifggdpaa", sum := "3e4747274f3650a2230e028a1f15afafbbd4d2c6ad80dd87c71d98c9e83e3df6", func := "pritchel/pritchellaw10.ForgeAll", spec := "forgeAll", unfollowed := true, recurses := true, apart := false, narrowed := true }
def ForgeAllUptoSaid : Prop := forgeAllUptoRow.holds Try.pinned (OpenSpec.upto forgeAllSpec)

/-- 'pritchellaw10.ForgeFew', WHERE WHAT IT READS IS OF BULK AT MOST 1048576: true; the input reads as it did. -/
def forgeFewUptoRow : OpenClaim := { program := "ytjjeoloifggdpaa", sum := "3e4747274f3650a2230e028a1f15afafbbd4d2c6ad80dd87c71d98c9e83e3df6", func := "pritchel/pritchellaw10.ForgeFew", spec := "forgeFew", unfollowed := true, recurses := true, apart := false, narrowed := true }
def ForgeFewUptoSaid : Prop := forgeFewUptoRow.holds Try.pinned (OpenSpec.upto forgeFewSpec)

/-- 'pritchellaw10.ForgeAsked', WHERE WHAT IT READS IS OF BULK AT MOST 1048576: true; the input reads as it did. -/
def forgeAskedUptoRow : OpenClaim := { program := "ytjjeoloifggdpaa", sum := "3e4747274f3650a2230e028a1f15afafbbd4d2c6ad80dd87c71d98c9e83e3df6", func := "pritchel/pritchellaw10.ForgeAsked", spec := "forgeAsked", unfollowed := true, recurses := true, apart := false, narrowed := true }
def ForgeAskedUptoSaid : Prop := forgeAskedUptoRow.holds Try.pinned (OpenSpec.upto forgeAskedSpec)

/-- 'pritchellaw10.ForgeCloned', WHERE WHAT IT READS IS OF BULK AT MOST 1048576: true; the input reads as it did. -/
def forgeClonedUptoRow : OpenClaim := { program := "ytjjeoloifggdpaa", sum := "3e4747274f3650a2230e028a1f15afafbbd4d2c6ad80dd87c71d98c9e83e3df6", func := "pritchel/pritchellaw10.ForgeCloned", spec := "forgeCloned", unfollowed := true, recurses := true, apart := false, narrowed := true }
def ForgeClonedUptoSaid : Prop := forgeClonedUptoRow.holds Try.pinned (OpenSpec.upto forgeClonedSpec)

/-- 'pritchellaw10.ForgeOwn', WHERE WHAT IT READS IS OF BULK AT MOST 1048576: true; the input reads as it did. -/
def forgeOwnUptoRow : OpenClaim := { program := "ytjjeoloifggdpaa", sum := "3e4747274f3650a2230e028a1f15afafbbd4d2c6ad80dd87c71d98c9e83e3df6", func := "pritchel/pritchellaw10.ForgeOwn", spec := "forgeOwn", unfollowed := true, recurses := true, apart := false, narrowed := true }
def ForgeOwnUptoSaid : Prop := forgeOwnUptoRow.holds Try.pinned (OpenSpec.upto forgeOwnSpec)

/-- 'pritchellaw10.ForgeNobody', WHERE WHAT IT READS IS OF BULK AT MOST 1048576: true; the input reads as it did. -/
def forgeNobodyUptoRow : OpenClaim := { program := "ytjjeoloifggdpaa", sum := "3e4747274f3650a2230e028a1f15afafbbd4d2c6ad80dd87c71d98c9e83e3df6", func := "pritchel/pritchellaw10.ForgeNobody", spec := "forgeNobody", unfollowed := true, recurses := true, apart := false, narrowed := true }
def ForgeNobodyUptoSaid : Prop := forgeNobodyUptoRow.holds Try.pinned (OpenSpec.upto forgeNobodySpec)

end Rows
end Go.Proofs.Ytjjeoloifggdpaa
