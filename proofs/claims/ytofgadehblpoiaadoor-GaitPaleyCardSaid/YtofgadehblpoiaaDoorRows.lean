/-
  NARROWER THAN 'FOR EVERY INPUT', by the rows' own cells (each row's printed sentence says how): GaitLikes: laid · GaitSylvesters: laid · GaitMatrices: laid · GaitTransforms: laid · GaitBents: laid · GaitBarker: laid · GaitGolay: laid · GaitPaley: laid · GaitRight: laid · GaitTwice: laid · GaitBent: laid · GaitChanged: laid.
  DERIVED. THE GIVEN ROWS OF THIS SEAT. 12 by the template 'for every input the law returns true; each argument reads behind the call as it read before'; 0 by the template 'total and deterministic' (their statements: YtofgadehblpoiaaDoorTotals.lean).
  GIVEN WITH THE SEED: the statements are not yours to turn. If you find one false, say at which input.
  Laid BY PROGRAM, IN A SANDBOX (cutbox-rows.mjs): the forced cells as the released guide's own fill.sh prints them over the translation ec74a58cca6bacce… (all of the seat's roots in one cut). By AI agents, Wed Nov 11 2026. No macro, syntax, notation, axiom, sorry.
-/
import Derived.Test.YtofgadehblpoiaaDoorChecked
import GoSem.PinnedTables
import GoSem.Claim
import GoSem.ClaimJoined
import GoSem.ClaimMapViews
import Derived.JoinedTies
import Derived.KernelRfl
namespace Go.Proofs.YtofgadehblpoiaaDoor
/- THE CELL 'sum', in the pinned program and in every row, IS THE sha256 OF THE DUMP (.gsa) THAT YtofgadehblpoiaaDoorProg.lean LOADS. Nothing in Lean hashes anything: it is a label: what it is worth is what the hold of that sum in a sandbox is worth. -/
noncomputable def Tryd.pinned : Pinned := { name := "ytofgadehblpoiaadoor", sum := "ec74a58cca6bacced563a8a16b669166e1a7168a8f2735255a3900b61c0fb629", checked := Tryd.checked }
namespace Rows
def none {H : Type} : Left H := { results := [], args := [] }

/- WHAT THE LISTED PACKAGE-LEVEL VARIABLES READ AS WHEN THE CALL BEGINS. Each datum BY PROGRAM (the guide's laid-datum.mjs) off the statement by which the dump's own 'gosem.cut.vars' lays the variable. In a bare row this is a premise. The card (YtofgadehblpoiaaDoorCards.lean) ties it to the program's text. -/
def laid_math_bits_deBruijn32tab {H : Type} : DataW H := .agg [.lit (.int .u8 0), .lit (.int .u8 1), .lit (.int .u8 28), .lit (.int .u8 2), .lit (.int .u8 29), .lit (.int .u8 14), .lit (.int .u8 24), .lit (.int .u8 3), .lit (.int .u8 30), .lit (.int .u8 22), .lit (.int .u8 20), .lit (.int .u8 15), .lit (.int .u8 25), .lit (.int .u8 17), .lit (.int .u8 4), .lit (.int .u8 8), .lit (.int .u8 31), .lit (.int .u8 27), .lit (.int .u8 13), .lit (.int .u8 23), .lit (.int .u8 21), .lit (.int .u8 19), .lit (.int .u8 16), .lit (.int .u8 7), .lit (.int .u8 26), .lit (.int .u8 12), .lit (.int .u8 18), .lit (.int .u8 6), .lit (.int .u8 11), .lit (.int .u8 5), .lit (.int .u8 10), .lit (.int .u8 9)]
def laid_math_bits_deBruijn64tab {H : Type} : DataW H := .agg [.lit (.int .u8 0), .lit (.int .u8 1), .lit (.int .u8 56), .lit (.int .u8 2), .lit (.int .u8 57), .lit (.int .u8 49), .lit (.int .u8 28), .lit (.int .u8 3), .lit (.int .u8 61), .lit (.int .u8 58), .lit (.int .u8 42), .lit (.int .u8 50), .lit (.int .u8 38), .lit (.int .u8 29), .lit (.int .u8 17), .lit (.int .u8 4), .lit (.int .u8 62), .lit (.int .u8 47), .lit (.int .u8 59), .lit (.int .u8 36), .lit (.int .u8 45), .lit (.int .u8 43), .lit (.int .u8 51), .lit (.int .u8 22), .lit (.int .u8 53), .lit (.int .u8 39), .lit (.int .u8 33), .lit (.int .u8 30), .lit (.int .u8 24), .lit (.int .u8 18), .lit (.int .u8 12), .lit (.int .u8 5), .lit (.int .u8 63), .lit (.int .u8 55), .lit (.int .u8 48), .lit (.int .u8 27), .lit (.int .u8 60), .lit (.int .u8 41), .lit (.int .u8 37), .lit (.int .u8 16), .lit (.int .u8 46), .lit (.int .u8 35), .lit (.int .u8 44), .lit (.int .u8 21), .lit (.int .u8 52), .lit (.int .u8 32), .lit (.int .u8 23), .lit (.int .u8 11), .lit (.int .u8 54), .lit (.int .u8 26), .lit (.int .u8 40), .lit (.int .u8 15), .lit (.int .u8 34), .lit (.int .u8 20), .lit (.int .u8 31), .lit (.int .u8 10), .lit (.int .u8 25), .lit (.int .u8 14), .lit (.int .u8 19), .lit (.int .u8 9), .lit (.int .u8 13), .lit (.int .u8 8), .lit (.int .u8 7), .lit (.int .u8 6)]
def laid_internal_strconv_uint64pow10 {H : Type} : DataW H := .agg [.lit (.int .u64 1), .lit (.int .u64 10), .lit (.int .u64 100), .lit (.int .u64 1000), .lit (.int .u64 10000), .lit (.int .u64 100000), .lit (.int .u64 1000000), .lit (.int .u64 10000000), .lit (.int .u64 100000000), .lit (.int .u64 1000000000), .lit (.int .u64 10000000000), .lit (.int .u64 100000000000), .lit (.int .u64 1000000000000), .lit (.int .u64 10000000000000), .lit (.int .u64 100000000000000), .lit (.int .u64 1000000000000000), .lit (.int .u64 10000000000000000), .lit (.int .u64 100000000000000000), .lit (.int .u64 1000000000000000000), .lit (.int .u64 10000000000000000000)]
def laid_unicode_utf8_acceptRanges {H : Type} : DataW H := .agg [.agg [.lit (.int .u8 128), .lit (.int .u8 191)], .agg [.lit (.int .u8 160), .lit (.int .u8 191)], .agg [.lit (.int .u8 128), .lit (.int .u8 159)], .agg [.lit (.int .u8 144), .lit (.int .u8 191)], .agg [.lit (.int .u8 128), .lit (.int .u8 143)], .agg [.lit (.int .u8 0), .lit (.int .u8 0)], .agg [.lit (.int .u8 0), .lit (.int .u8 0)], .agg [.lit (.int .u8 0), .lit (.int .u8 0)], .agg [.lit (.int .u8 0), .lit (.int .u8 0)], .agg [.lit (.int .u8 0), .lit (.int .u8 0)], .agg [.lit (.int .u8 0), .lit (.int .u8 0)], .agg [.lit (.int .u8 0), .lit (.int .u8 0)], .agg [.lit (.int .u8 0), .lit (.int .u8 0)], .agg [.lit (.int .u8 0), .lit (.int .u8 0)], .agg [.lit (.int .u8 0), .lit (.int .u8 0)], .agg [.lit (.int .u8 0), .lit (.int .u8 0)]]
/-- One of Go's own tables, pinned by name: the form's constant. -/
def laid_unicode_utf8_first : DataW Unit := Go.Pinned.utf8First

/-- 'pritchellaw05.GaitLikes': WHATEVER THE INPUT: true; the input reads as it did. -/
def gaitLikesSpec : ChangeSpec := { name := "gaitLikes", fn := fun _ => fun
  | [d] => { results := [.lit (.bool true)], args := [d] }
  | _ => none }
def gaitLikesRow : OpenClaim := { program := "ytofgadehblpoiaadoor", sum := "ec74a58cca6bacced563a8a16b669166e1a7168a8f2735255a3900b61c0fb629", func := "pritchel/pritchellaw05.GaitLikes", spec := "gaitLikes", inPlace := ["internal/bytealg.IndexByteString", "internal/bytealg.IndexString"], unfollowed := true, recurses := true, named := ["unicode/utf8.first", "unicode/utf8.acceptRanges", "internal/strconv.uint64pow10", "math/bits.deBruijn32tab", "math/bits.deBruijn64tab", "internal/bytealg.MaxLen"], apart := false, laid := [("math/bits.deBruijn32tab", laid_math_bits_deBruijn32tab), ("math/bits.deBruijn64tab", laid_math_bits_deBruijn64tab), ("internal/strconv.uint64pow10", laid_internal_strconv_uint64pow10), ("unicode/utf8.acceptRanges", laid_unicode_utf8_acceptRanges), ("unicode/utf8.first", laid_unicode_utf8_first)] }
def GaitLikesSaid : Prop := gaitLikesRow.holds Tryd.pinned (OpenSpec.ofChange gaitLikesSpec)

/-- ITS FALSE NEIGHBOUR: 'it returns false'. Refute it at one input. -/
def gaitLikesWrong : ChangeSpec := { name := "gaitLikes", fn := fun _ => fun
  | [d] => { results := [.lit (.bool false)], args := [d] }
  | _ => none }
def GaitLikesWrongFalsely : Prop := gaitLikesRow.holds Tryd.pinned (OpenSpec.ofChange gaitLikesWrong)

/-- 'pritchellaw05.GaitSylvesters': WHATEVER THE INPUT: true; the input reads as it did. -/
def gaitSylvestersSpec : ChangeSpec := { name := "gaitSylvesters", fn := fun _ => fun
  | [d] => { results := [.lit (.bool true)], args := [d] }
  | _ => none }
def gaitSylvestersRow : OpenClaim := { program := "ytofgadehblpoiaadoor", sum := "ec74a58cca6bacced563a8a16b669166e1a7168a8f2735255a3900b61c0fb629", func := "pritchel/pritchellaw05.GaitSylvesters", spec := "gaitSylvesters", inPlace := ["internal/bytealg.IndexByteString", "internal/bytealg.IndexString"], unfollowed := true, recurses := true, named := ["unicode/utf8.first", "unicode/utf8.acceptRanges", "internal/strconv.uint64pow10", "math/bits.deBruijn32tab", "math/bits.deBruijn64tab", "internal/bytealg.MaxLen"], apart := false, laid := [("math/bits.deBruijn32tab", laid_math_bits_deBruijn32tab), ("math/bits.deBruijn64tab", laid_math_bits_deBruijn64tab), ("internal/strconv.uint64pow10", laid_internal_strconv_uint64pow10), ("unicode/utf8.acceptRanges", laid_unicode_utf8_acceptRanges), ("unicode/utf8.first", laid_unicode_utf8_first)] }
def GaitSylvestersSaid : Prop := gaitSylvestersRow.holds Tryd.pinned (OpenSpec.ofChange gaitSylvestersSpec)

/-- ITS FALSE NEIGHBOUR: 'it returns false'. Refute it at one input. -/
def gaitSylvestersWrong : ChangeSpec := { name := "gaitSylvesters", fn := fun _ => fun
  | [d] => { results := [.lit (.bool false)], args := [d] }
  | _ => none }
def GaitSylvestersWrongFalsely : Prop := gaitSylvestersRow.holds Tryd.pinned (OpenSpec.ofChange gaitSylvestersWrong)

/-- 'pritchellaw05.GaitMatrices': WHATEVER THE INPUT: true; the input reads as it did. -/
def gaitMatricesSpec : ChangeSpec := { name := "gaitMatrices", fn := fun _ => fun
  | [d] => { results := [.lit (.bool true)], args := [d] }
  | _ => none }
def gaitMatricesRow : OpenClaim := { program := "ytofgadehblpoiaadoor", sum := "ec74a58cca6bacced563a8a16b669166e1a7168a8f2735255a3900b61c0fb629", func := "pritchel/pritchellaw05.GaitMatrices", spec := "gaitMatrices", inPlace := ["internal/bytealg.IndexByteString", "internal/bytealg.IndexString"], unfollowed := true, recurses := true, named := ["unicode/utf8.first", "unicode/utf8.acceptRanges", "internal/strconv.uint64pow10", "math/bits.deBruijn32tab", "math/bits.deBruijn64tab", "internal/bytealg.MaxLen"], apart := false, laid := [("math/bits.deBruijn32tab", laid_math_bits_deBruijn32tab), ("math/bits.deBruijn64tab", laid_math_bits_deBruijn64tab), ("internal/strconv.uint64pow10", laid_internal_strconv_uint64pow10), ("unicode/utf8.acceptRanges", laid_unicode_utf8_acceptRanges), ("unicode/utf8.first", laid_unicode_utf8_first)] }
def GaitMatricesSaid : Prop := gaitMatricesRow.holds Tryd.pinned (OpenSpec.ofChange gaitMatricesSpec)

/-- ITS FALSE NEIGHBOUR: 'it returns false'. Refute it at one input. -/
def gaitMatricesWrong : ChangeSpec := { name := "gaitMatrices", fn := fun _ => fun
  | [d] => { results := [.lit (.bool false)], args := [d] }
  | _ => none }
def GaitMatricesWrongFalsely : Prop := gaitMatricesRow.holds Tryd.pinned (OpenSpec.ofChange gaitMatricesWrong)

/-- 'pritchellaw05.GaitTransforms': WHATEVER THE INPUT: true; the input reads as it did. -/
def gaitTransformsSpec : ChangeSpec := { name := "gaitTransforms", fn := fun _ => fun
  | [d] => { results := [.lit (.bool true)], args := [d] }
  | _ => none }
def gaitTransformsRow : OpenClaim := { program := "ytofgadehblpoiaadoor", sum := "ec74a58cca6bacced563a8a16b669166e1a7168a8f2735255a3900b61c0fb629", func := "pritchel/pritchellaw05.GaitTransforms", spec := "gaitTransforms", inPlace := ["internal/bytealg.IndexByteString", "internal/bytealg.IndexString"], unfollowed := true, recurses := true, named := ["unicode/utf8.first", "unicode/utf8.acceptRanges", "internal/strconv.uint64pow10", "math/bits.deBruijn32tab", "math/bits.deBruijn64tab", "internal/bytealg.MaxLen"], apart := false, laid := [("math/bits.deBruijn32tab", laid_math_bits_deBruijn32tab), ("math/bits.deBruijn64tab", laid_math_bits_deBruijn64tab), ("internal/strconv.uint64pow10", laid_internal_strconv_uint64pow10), ("unicode/utf8.acceptRanges", laid_unicode_utf8_acceptRanges), ("unicode/utf8.first", laid_unicode_utf8_first)] }
def GaitTransformsSaid : Prop := gaitTransformsRow.holds Tryd.pinned (OpenSpec.ofChange gaitTransformsSpec)

/-- ITS FALSE NEIGHBOUR: 'it returns false'. Refute it at one input. -/
def gaitTransformsWrong : ChangeSpec := { name := "gaitTransforms", fn := fun _ => fun
  | [d] => { results := [.lit (.bool false)], args := [d] }
  | _ => none }
def GaitTransformsWrongFalsely : Prop := gaitTransformsRow.holds Tryd.pinned (OpenSpec.ofChange gaitTransformsWrong)

/-- 'pritchellaw05.GaitBents': WHATEVER THE INPUT: true; the input reads as it did. -/
def gaitBentsSpec : ChangeSpec := { name := "gaitBents", fn := fun _ => fun
  | [d] => { results := [.lit (.bool true)], args := [d] }
  | _ => none }
def gaitBentsRow : OpenClaim := { program := "ytofgadehblpoiaadoor", sum := "ec74a58cca6bacced563a8a16b669166e1a7168a8f2735255a3900b61c0fb629", func := "pritchel/pritchellaw05.GaitBents", spec := "gaitBents", inPlace := ["internal/bytealg.IndexByteString", "internal/bytealg.IndexString"], unfollowed := true, recurses := true, named := ["unicode/utf8.first", "unicode/utf8.acceptRanges", "math/bits.deBruijn32tab", "math/bits.deBruijn64tab", "internal/strconv.uint64pow10", "internal/bytealg.MaxLen"], apart := false, laid := [("math/bits.deBruijn32tab", laid_math_bits_deBruijn32tab), ("math/bits.deBruijn64tab", laid_math_bits_deBruijn64tab), ("internal/strconv.uint64pow10", laid_internal_strconv_uint64pow10), ("unicode/utf8.acceptRanges", laid_unicode_utf8_acceptRanges), ("unicode/utf8.first", laid_unicode_utf8_first)] }
def GaitBentsSaid : Prop := gaitBentsRow.holds Tryd.pinned (OpenSpec.ofChange gaitBentsSpec)

/-- ITS FALSE NEIGHBOUR: 'it returns false'. Refute it at one input. -/
def gaitBentsWrong : ChangeSpec := { name := "gaitBents", fn := fun _ => fun
  | [d] => { results := [.lit (.bool false)], args := [d] }
  | _ => none }
def GaitBentsWrongFalsely : Prop := gaitBentsRow.holds Tryd.pinned (OpenSpec.ofChange gaitBentsWrong)

/-- 'pritchellaw05.GaitBarker': WHATEVER THE INPUT: true; the input reads as it did. -/
def gaitBarkerSpec : ChangeSpec := { name := "gaitBarker", fn := fun _ => fun
  | [d1, d2] => { results := [.lit (.bool true)], args := [d1, d2] }
  | _ => none }
def gaitBarkerRow : OpenClaim := { program := "ytofgadehblpoiaadoor", sum := "ec74a58cca6bacced563a8a16b669166e1a7168a8f2735255a3900b61c0fb629", func := "pritchel/pritchellaw05.GaitBarker", spec := "gaitBarker", inPlace := ["internal/bytealg.IndexByteString", "internal/bytealg.IndexString"], unfollowed := true, recurses := true, named := ["unicode/utf8.first", "unicode/utf8.acceptRanges", "internal/strconv.uint64pow10", "math/bits.deBruijn32tab", "math/bits.deBruijn64tab", "internal/bytealg.MaxLen"], apart := false, laid := [("math/bits.deBruijn32tab", laid_math_bits_deBruijn32tab), ("math/bits.deBruijn64tab", laid_math_bits_deBruijn64tab), ("internal/strconv.uint64pow10", laid_internal_strconv_uint64pow10), ("unicode/utf8.acceptRanges", laid_unicode_utf8_acceptRanges), ("unicode/utf8.first", laid_unicode_utf8_first)] }
def GaitBarkerSaid : Prop := gaitBarkerRow.holds Tryd.pinned (OpenSpec.ofChange gaitBarkerSpec)

/-- ITS FALSE NEIGHBOUR: 'it returns false'. Refute it at one input. -/
def gaitBarkerWrong : ChangeSpec := { name := "gaitBarker", fn := fun _ => fun
  | [d1, d2] => { results := [.lit (.bool false)], args := [d1, d2] }
  | _ => none }
def GaitBarkerWrongFalsely : Prop := gaitBarkerRow.holds Tryd.pinned (OpenSpec.ofChange gaitBarkerWrong)

/-- 'pritchellaw05.GaitGolay': WHATEVER THE INPUT: true; the input reads as it did. -/
def gaitGolaySpec : ChangeSpec := { name := "gaitGolay", fn := fun _ => fun
  | [d1, d2] => { results := [.lit (.bool true)], args := [d1, d2] }
  | _ => none }
def gaitGolayRow : OpenClaim := { program := "ytofgadehblpoiaadoor", sum := "ec74a58cca6bacced563a8a16b669166e1a7168a8f2735255a3900b61c0fb629", func := "pritchel/pritchellaw05.GaitGolay", spec := "gaitGolay", inPlace := ["internal/bytealg.IndexByteString", "internal/bytealg.IndexString"], unfollowed := true, recurses := true, named := ["unicode/utf8.first", "unicode/utf8.acceptRanges", "internal/strconv.uint64pow10", "math/bits.deBruijn32tab", "math/bits.deBruijn64tab", "internal/bytealg.MaxLen"], apart := false, laid := [("math/bits.deBruijn32tab", laid_math_bits_deBruijn32tab), ("math/bits.deBruijn64tab", laid_math_bits_deBruijn64tab), ("internal/strconv.uint64pow10", laid_internal_strconv_uint64pow10), ("unicode/utf8.acceptRanges", laid_unicode_utf8_acceptRanges), ("unicode/utf8.first", laid_unicode_utf8_first)] }
def GaitGolaySaid : Prop := gaitGolayRow.holds Tryd.pinned (OpenSpec.ofChange gaitGolaySpec)

/-- ITS FALSE NEIGHBOUR: 'it returns false'. Refute it at one input. -/
def gaitGolayWrong : ChangeSpec := { name := "gaitGolay", fn := fun _ => fun
  | [d1, d2] => { results := [.lit (.bool false)], args := [d1, d2] }
  | _ => none }
def GaitGolayWrongFalsely : Prop := gaitGolayRow.holds Tryd.pinned (OpenSpec.ofChange gaitGolayWrong)

/-- 'pritchellaw05.GaitPaley': WHATEVER THE INPUT: true; the input reads as it did. -/
def gaitPaleySpec : ChangeSpec := { name := "gaitPaley", fn := fun _ => fun
  | [d1, d2] => { results := [.lit (.bool true)], args := [d1, d2] }
  | _ => none }
def gaitPaleyRow : OpenClaim := { program := "ytofgadehblpoiaadoor", sum := "ec74a58cca6bacced563a8a16b669166e1a7168a8f2735255a3900b61c0fb629", func := "pritchel/pritchellaw05.GaitPaley", spec := "gaitPaley", inPlace := ["internal/bytealg.IndexByteString", "internal/bytealg.IndexString"], unfollowed := true, recurses := true, named := ["unicode/utf8.first", "unicode/utf8.acceptRanges", "internal/strconv.uint64pow10", "math/bits.deBruijn32tab", "math/bits.deBruijn64tab", "internal/bytealg.MaxLen"], apart := false, laid := [("math/bits.deBruijn32tab", laid_math_bits_deBruijn32tab), ("math/bits.deBruijn64tab", laid_math_bits_deBruijn64tab), ("internal/strconv.uint64pow10", laid_internal_strconv_uint64pow10), ("unicode/utf8.acceptRanges", laid_unicode_utf8_acceptRanges), ("unicode/utf8.first", laid_unicode_utf8_first)] }
def GaitPaleySaid : Prop := gaitPaleyRow.holds Tryd.pinned (OpenSpec.ofChange gaitPaleySpec)

/-- ITS FALSE NEIGHBOUR: 'it returns false'. Refute it at one input. -/
def gaitPaleyWrong : ChangeSpec := { name := "gaitPaley", fn := fun _ => fun
  | [d1, d2] => { results := [.lit (.bool false)], args := [d1, d2] }
  | _ => none }
def GaitPaleyWrongFalsely : Prop := gaitPaleyRow.holds Tryd.pinned (OpenSpec.ofChange gaitPaleyWrong)

/-- 'pritchellaw05.GaitRight': WHATEVER THE INPUT: true; the input reads as it did. -/
def gaitRightSpec : ChangeSpec := { name := "gaitRight", fn := fun _ => fun
  | [d1, d2] => { results := [.lit (.bool true)], args := [d1, d2] }
  | _ => none }
def gaitRightRow : OpenClaim := { program := "ytofgadehblpoiaadoor", sum := "ec74a58cca6bacced563a8a16b669166e1a7168a8f2735255a3900b61c0fb629", func := "pritchel/pritchellaw05.GaitRight", spec := "gaitRight", inPlace := ["internal/bytealg.IndexByteString", "internal/bytealg.IndexString"], unfollowed := true, recurses := true, named := ["unicode/utf8.first", "unicode/utf8.acceptRanges", "internal/strconv.uint64pow10", "math/bits.deBruijn32tab", "math/bits.deBruijn64tab", "internal/bytealg.MaxLen"], apart := false, laid := [("math/bits.deBruijn32tab", laid_math_bits_deBruijn32tab), ("math/bits.deBruijn64tab", laid_math_bits_deBruijn64tab), ("internal/strconv.uint64pow10", laid_internal_strconv_uint64pow10), ("unicode/utf8.acceptRanges", laid_unicode_utf8_acceptRanges), ("unicode/utf8.first", laid_unicode_utf8_first)] }
def GaitRightSaid : Prop := gaitRightRow.holds Tryd.pinned (OpenSpec.ofChange gaitRightSpec)

/-- ITS FALSE NEIGHBOUR: 'it returns false'. Refute it at one input. -/
def gaitRightWrong : ChangeSpec := { name := "gaitRight", fn := fun _ => fun
  | [d1, d2] => { results := [.lit (.bool false)], args := [d1, d2] }
  | _ => none }
def GaitRightWrongFalsely : Prop := gaitRightRow.holds Tryd.pinned (OpenSpec.ofChange gaitRightWrong)

/-- 'pritchellaw05.GaitTwice': WHATEVER THE INPUT: true; the input reads as it did. -/
def gaitTwiceSpec : ChangeSpec := { name := "gaitTwice", fn := fun _ => fun
  | [d1, d2] => { results := [.lit (.bool true)], args := [d1, d2] }
  | _ => none }
def gaitTwiceRow : OpenClaim := { program := "ytofgadehblpoiaadoor", sum := "ec74a58cca6bacced563a8a16b669166e1a7168a8f2735255a3900b61c0fb629", func := "pritchel/pritchellaw05.GaitTwice", spec := "gaitTwice", inPlace := ["internal/bytealg.IndexByteString", "internal/bytealg.IndexString"], unfollowed := true, recurses := true, named := ["unicode/utf8.first", "unicode/utf8.acceptRanges", "internal/strconv.uint64pow10", "math/bits.deBruijn32tab", "math/bits.deBruijn64tab", "internal/bytealg.MaxLen"], apart := false, laid := [("math/bits.deBruijn32tab", laid_math_bits_deBruijn32tab), ("math/bits.deBruijn64tab", laid_math_bits_deBruijn64tab), ("internal/strconv.uint64pow10", laid_internal_strconv_uint64pow10), ("unicode/utf8.acceptRanges", laid_unicode_utf8_acceptRanges), ("unicode/utf8.first", laid_unicode_utf8_first)] }
def GaitTwiceSaid : Prop := gaitTwiceRow.holds Tryd.pinned (OpenSpec.ofChange gaitTwiceSpec)

/-- ITS FALSE NEIGHBOUR: 'it returns false'. Refute it at one input. -/
def gaitTwiceWrong : ChangeSpec := { name := "gaitTwice", fn := fun _ => fun
  | [d1, d2] => { results := [.lit (.bool false)], args := [d1, d2] }
  | _ => none }
def GaitTwiceWrongFalsely : Prop := gaitTwiceRow.holds Tryd.pinned (OpenSpec.ofChange gaitTwiceWrong)

/-- 'pritchellaw05.GaitBent': WHATEVER THE INPUT: true; the input reads as it did. -/
def gaitBentSpec : ChangeSpec := { name := "gaitBent", fn := fun _ => fun
  | [d1, d2, d3] => { results := [.lit (.bool true)], args := [d1, d2, d3] }
  | _ => none }
def gaitBentRow : OpenClaim := { program := "ytofgadehblpoiaadoor", sum := "ec74a58cca6bacced563a8a16b669166e1a7168a8f2735255a3900b61c0fb629", func := "pritchel/pritchellaw05.GaitBent", spec := "gaitBent", inPlace := ["internal/bytealg.IndexByteString", "internal/bytealg.IndexString"], unfollowed := true, recurses := true, named := ["unicode/utf8.first", "unicode/utf8.acceptRanges", "math/bits.deBruijn32tab", "math/bits.deBruijn64tab", "internal/strconv.uint64pow10", "internal/bytealg.MaxLen"], apart := false, laid := [("math/bits.deBruijn32tab", laid_math_bits_deBruijn32tab), ("math/bits.deBruijn64tab", laid_math_bits_deBruijn64tab), ("internal/strconv.uint64pow10", laid_internal_strconv_uint64pow10), ("unicode/utf8.acceptRanges", laid_unicode_utf8_acceptRanges), ("unicode/utf8.first", laid_unicode_utf8_first)] }
def GaitBentSaid : Prop := gaitBentRow.holds Tryd.pinned (OpenSpec.ofChange gaitBentSpec)

/-- ITS FALSE NEIGHBOUR: 'it returns false'. Refute it at one input. -/
def gaitBentWrong : ChangeSpec := { name := "gaitBent", fn := fun _ => fun
  | [d1, d2, d3] => { results := [.lit (.bool false)], args := [d1, d2, d3] }
  | _ => none }
def GaitBentWrongFalsely : Prop := gaitBentRow.holds Tryd.pinned (OpenSpec.ofChange gaitBentWrong)

/-- 'pritchellaw05.GaitChanged': WHATEVER THE INPUT: true; the input reads as it did. -/
def gaitChangedSpec : ChangeSpec := { name := "gaitChanged", fn := fun _ => fun
  | [d] => { results := [.lit (.bool true)], args := [d] }
  | _ => none }
def gaitChangedRow : OpenClaim := { program := "ytofgadehblpoiaadoor", sum := "ec74a58cca6bacced563a8a16b669166e1a7168a8f2735255a3900b61c0fb629", func := "pritchel/pritchellaw05.GaitChanged", spec := "gaitChanged", inPlace := ["internal/bytealg.IndexByteString", "internal/bytealg.IndexString"], unfollowed := true, recurses := true, named := ["unicode/utf8.first", "unicode/utf8.acceptRanges", "internal/strconv.uint64pow10", "math/bits.deBruijn32tab", "math/bits.deBruijn64tab", "internal/bytealg.MaxLen"], apart := false, laid := [("math/bits.deBruijn32tab", laid_math_bits_deBruijn32tab), ("math/bits.deBruijn64tab", laid_math_bits_deBruijn64tab), ("internal/strconv.uint64pow10", laid_internal_strconv_uint64pow10), ("unicode/utf8.acceptRanges", laid_unicode_utf8_acceptRanges), ("unicode/utf8.first", laid_unicode_utf8_first)] }
def GaitChangedSaid : Prop := gaitChangedRow.holds Tryd.pinned (OpenSpec.ofChange gaitChangedSpec)

/-- ITS FALSE NEIGHBOUR: 'it returns false'. Refute it at one input. -/
def gaitChangedWrong : ChangeSpec := { name := "gaitChanged", fn := fun _ => fun
  | [d] => { results := [.lit (.bool false)], args := [d] }
  | _ => none }
def GaitChangedWrongFalsely : Prop := gaitChangedRow.holds Tryd.pinned (OpenSpec.ofChange gaitChangedWrong)

/- THE SECOND FORM. 'bulk': how many values and letters a reading holds, each counted each time it is reached (what is shared counts as often as it is met; a slice's spare places count too). A statement '..UptoSaid' is the law's where the arguments, and the package variables that the reading takes, are together of bulk at most 1048576: NARROWER than '..Said'. Prove '..Said' where nothing that the law and all that it calls make is longer than what came in: it says more and counts as full. Else prove '..UptoSaid'. A law counts once. -/
mutual
def uptoBulk {H : Type} : DataW H → Nat
  | .lit (.string bytes) => bytes.length + 1
  | .lit _ => 1
  | .nil => 1
  | .ptr d => uptoBulk d + 1
  | .slice elems spare => uptoBulkAll elems + uptoBulkAll spare + 1
  | .agg parts => uptoBulkAll parts + 1
  | .iface _ d => uptoBulk d + 1
  | .map entries => uptoBulkEntries entries + 1
  | .held _ => 1
def uptoBulkAll {H : Type} : List (DataW H) → Nat
  | [] => 0
  | d :: r => uptoBulk d + uptoBulkAll r
def uptoBulkEntries {H : Type} : List (Lit × DataW H) → Nat
  | [] => 0
  | x :: r => uptoBulkEntry x + uptoBulkEntries r
def uptoBulkEntry {H : Type} : Lit × DataW H → Nat
  | (.string bytes, d) => bytes.length + uptoBulk d + 1
  | (_, d) => uptoBulk d + 1
 end
def uptoSmall : (H : Type) → List (DataW H) → Bool := fun _ ds => decide (uptoBulkAll ds ≤ 1048576)
def OpenSpec.upto (s : _root_.Go.ChangeSpec) : _root_.Go.OpenSpec := { _root_.Go.OpenSpec.ofChange s with cond := some uptoSmall }

/-- 'pritchellaw05.GaitLikes', WHERE WHAT IT READS IS OF BULK AT MOST 1048576: true; the input reads as it did. -/
def gaitLikesUptoRow : OpenClaim := { program := "ytofgadehblpoiaadoor", sum := "ec74a58cca6bacced563a8a16b669166e1a7168a8f2735255a3900b61c0fb629", func := "pritchel/pritchellaw05.GaitLikes", spec := "gaitLikes", inPlace := ["internal/bytealg.IndexByteString", "internal/bytealg.IndexString"], unfollowed := true, recurses := true, named := ["unicode/utf8.first", "unicode/utf8.acceptRanges", "internal/strconv.uint64pow10", "math/bits.deBruijn32tab", "math/bits.deBruijn64tab", "internal/bytealg.MaxLen"], apart := false, laid := [("math/bits.deBruijn32tab", laid_math_bits_deBruijn32tab), ("math/bits.deBruijn64tab", laid_math_bits_deBruijn64tab), ("internal/strconv.uint64pow10", laid_internal_strconv_uint64pow10), ("unicode/utf8.acceptRanges", laid_unicode_utf8_acceptRanges), ("unicode/utf8.first", laid_unicode_utf8_first)], narrowed := true }
def GaitLikesUptoSaid : Prop := gaitLikesUptoRow.holds Tryd.pinned (OpenSpec.upto gaitLikesSpec)

/-- 'pritchellaw05.GaitSylvesters', WHERE WHAT IT READS IS OF BULK AT MOST 1048576: true; the input reads as it did. -/
def gaitSylvestersUptoRow : OpenClaim := { program := "ytofgadehblpoiaadoor", sum := "ec74a58cca6bacced563a8a16b669166e1a7168a8f2735255a3900b61c0fb629", func := "pritchel/pritchellaw05.GaitSylvesters", spec := "gaitSylvesters", inPlace := ["internal/bytealg.IndexByteString", "internal/bytealg.IndexString"], unfollowed := true, recurses := true, named := ["unicode/utf8.first", "unicode/utf8.acceptRanges", "internal/strconv.uint64pow10", "math/bits.deBruijn32tab", "math/bits.deBruijn64tab", "internal/bytealg.MaxLen"], apart := false, laid := [("math/bits.deBruijn32tab", laid_math_bits_deBruijn32tab), ("math/bits.deBruijn64tab", laid_math_bits_deBruijn64tab), ("internal/strconv.uint64pow10", laid_internal_strconv_uint64pow10), ("unicode/utf8.acceptRanges", laid_unicode_utf8_acceptRanges), ("unicode/utf8.first", laid_unicode_utf8_first)], narrowed := true }
def GaitSylvestersUptoSaid : Prop := gaitSylvestersUptoRow.holds Tryd.pinned (OpenSpec.upto gaitSylvestersSpec)

/-- 'pritchellaw05.GaitMatrices', WHERE WHAT IT READS IS OF BULK AT MOST 1048576: true; the input reads as it did. -/
def gaitMatricesUptoRow : OpenClaim := { program := "ytofgadehblpoiaadoor", sum := "ec74a58cca6bacced563a8a16b669166e1a7168a8f2735255a3900b61c0fb629", func := "pritchel/pritchellaw05.GaitMatrices", spec := "gaitMatrices", inPlace := ["internal/bytealg.IndexByteString", "internal/bytealg.IndexString"], unfollowed := true, recurses := true, named := ["unicode/utf8.first", "unicode/utf8.acceptRanges", "internal/strconv.uint64pow10", "math/bits.deBruijn32tab", "math/bits.deBruijn64tab", "internal/bytealg.MaxLen"], apart := false, laid := [("math/bits.deBruijn32tab", laid_math_bits_deBruijn32tab), ("math/bits.deBruijn64tab", laid_math_bits_deBruijn64tab), ("internal/strconv.uint64pow10", laid_internal_strconv_uint64pow10), ("unicode/utf8.acceptRanges", laid_unicode_utf8_acceptRanges), ("unicode/utf8.first", laid_unicode_utf8_first)], narrowed := true }
def GaitMatricesUptoSaid : Prop := gaitMatricesUptoRow.holds Tryd.pinned (OpenSpec.upto gaitMatricesSpec)

/-- 'pritchellaw05.GaitTransforms', WHERE WHAT IT READS IS OF BULK AT MOST 1048576: true; the input reads as it did. -/
def gaitTransformsUptoRow : OpenClaim := { program := "ytofgadehblpoiaadoor", sum := "ec74a58cca6bacced563a8a16b669166e1a7168a8f2735255a3900b61c0fb629", func := "pritchel/pritchellaw05.GaitTransforms", spec := "gaitTransforms", inPlace := ["internal/bytealg.IndexByteString", "internal/bytealg.IndexString"], unfollowed := true, recurses := true, named := ["unicode/utf8.first", "unicode/utf8.acceptRanges", "internal/strconv.uint64pow10", "math/bits.deBruijn32tab", "math/bits.deBruijn64tab", "internal/bytealg.MaxLen"], apart := false, laid := [("math/bits.deBruijn32tab", laid_math_bits_deBruijn32tab), ("math/bits.deBruijn64tab", laid_math_bits_deBruijn64tab), ("internal/strconv.uint64pow10", laid_internal_strconv_uint64pow10), ("unicode/utf8.acceptRanges", laid_unicode_utf8_acceptRanges), ("unicode/utf8.first", laid_unicode_utf8_first)], narrowed := true }
def GaitTransformsUptoSaid : Prop := gaitTransformsUptoRow.holds Tryd.pinned (OpenSpec.upto gaitTransformsSpec)

/-- 'pritchellaw05.GaitBents', WHERE WHAT IT READS IS OF BULK AT MOST 1048576: true; the input reads as it did. -/
def gaitBentsUptoRow : OpenClaim := { program := "ytofgadehblpoiaadoor", sum := "ec74a58cca6bacced563a8a16b669166e1a7168a8f2735255a3900b61c0fb629", func := "pritchel/pritchellaw05.GaitBents", spec := "gaitBents", inPlace := ["internal/bytealg.IndexByteString", "internal/bytealg.IndexString"], unfollowed := true, recurses := true, named := ["unicode/utf8.first", "unicode/utf8.acceptRanges", "math/bits.deBruijn32tab", "math/bits.deBruijn64tab", "internal/strconv.uint64pow10", "internal/bytealg.MaxLen"], apart := false, laid := [("math/bits.deBruijn32tab", laid_math_bits_deBruijn32tab), ("math/bits.deBruijn64tab", laid_math_bits_deBruijn64tab), ("internal/strconv.uint64pow10", laid_internal_strconv_uint64pow10), ("unicode/utf8.acceptRanges", laid_unicode_utf8_acceptRanges), ("unicode/utf8.first", laid_unicode_utf8_first)], narrowed := true }
def GaitBentsUptoSaid : Prop := gaitBentsUptoRow.holds Tryd.pinned (OpenSpec.upto gaitBentsSpec)

/-- 'pritchellaw05.GaitBarker', WHERE WHAT IT READS IS OF BULK AT MOST 1048576: true; the input reads as it did. -/
def gaitBarkerUptoRow : OpenClaim := { program := "ytofgadehblpoiaadoor", sum := "ec74a58cca6bacced563a8a16b669166e1a7168a8f2735255a3900b61c0fb629", func := "pritchel/pritchellaw05.GaitBarker", spec := "gaitBarker", inPlace := ["internal/bytealg.IndexByteString", "internal/bytealg.IndexString"], unfollowed := true, recurses := true, named := ["unicode/utf8.first", "unicode/utf8.acceptRanges", "internal/strconv.uint64pow10", "math/bits.deBruijn32tab", "math/bits.deBruijn64tab", "internal/bytealg.MaxLen"], apart := false, laid := [("math/bits.deBruijn32tab", laid_math_bits_deBruijn32tab), ("math/bits.deBruijn64tab", laid_math_bits_deBruijn64tab), ("internal/strconv.uint64pow10", laid_internal_strconv_uint64pow10), ("unicode/utf8.acceptRanges", laid_unicode_utf8_acceptRanges), ("unicode/utf8.first", laid_unicode_utf8_first)], narrowed := true }
def GaitBarkerUptoSaid : Prop := gaitBarkerUptoRow.holds Tryd.pinned (OpenSpec.upto gaitBarkerSpec)

/-- 'pritchellaw05.GaitGolay', WHERE WHAT IT READS IS OF BULK AT MOST 1048576: true; the input reads as it did. -/
def gaitGolayUptoRow : OpenClaim := { program := "ytofgadehblpoiaadoor", sum := "ec74a58cca6bacced563a8a16b669166e1a7168a8f2735255a3900b61c0fb629", func := "pritchel/pritchellaw05.GaitGolay", spec := "gaitGolay", inPlace := ["internal/bytealg.IndexByteString", "internal/bytealg.IndexString"], unfollowed := true, recurses := true, named := ["unicode/utf8.first", "unicode/utf8.acceptRanges", "internal/strconv.uint64pow10", "math/bits.deBruijn32tab", "math/bits.deBruijn64tab", "internal/bytealg.MaxLen"], apart := false, laid := [("math/bits.deBruijn32tab", laid_math_bits_deBruijn32tab), ("math/bits.deBruijn64tab", laid_math_bits_deBruijn64tab), ("internal/strconv.uint64pow10", laid_internal_strconv_uint64pow10), ("unicode/utf8.acceptRanges", laid_unicode_utf8_acceptRanges), ("unicode/utf8.first", laid_unicode_utf8_first)], narrowed := true }
def GaitGolayUptoSaid : Prop := gaitGolayUptoRow.holds Tryd.pinned (OpenSpec.upto gaitGolaySpec)

/-- 'pritchellaw05.GaitPaley', WHERE WHAT IT READS IS OF BULK AT MOST 1048576: true; the input reads as it did. -/
def gaitPaleyUptoRow : OpenClaim := { program := "ytofgadehblpoiaadoor", sum := "ec74a58cca6bacced563a8a16b669166e1a7168a8f2735255a3900b61c0fb629", func := "pritchel/pritchellaw05.GaitPaley", spec := "gaitPaley", inPlace := ["internal/bytealg.IndexByteString", "internal/bytealg.IndexString"], unfollowed := true, recurses := true, named := ["unicode/utf8.first", "unicode/utf8.acceptRanges", "internal/strconv.uint64pow10", "math/bits.deBruijn32tab", "math/bits.deBruijn64tab", "internal/bytealg.MaxLen"], apart := false, laid := [("math/bits.deBruijn32tab", laid_math_bits_deBruijn32tab), ("math/bits.deBruijn64tab", laid_math_bits_deBruijn64tab), ("internal/strconv.uint64pow10", laid_internal_strconv_uint64pow10), ("unicode/utf8.acceptRanges", laid_unicode_utf8_acceptRanges), ("unicode/utf8.first", laid_unicode_utf8_first)], narrowed := true }
def GaitPaleyUptoSaid : Prop := gaitPaleyUptoRow.holds Tryd.pinned (OpenSpec.upto gaitPaleySpec)

/-- 'pritchellaw05.GaitRight', WHERE WHAT IT READS IS OF BULK AT MOST 1048576: true; the input reads as it did. -/
def gaitRightUptoRow : OpenClaim := { program := "ytofgadehblpoiaadoor", sum := "ec74a58cca6bacced563a8a16b669166e1a7168a8f2735255a3900b61c0fb629", func := "pritchel/pritchellaw05.GaitRight", spec := "gaitRight", inPlace := ["internal/bytealg.IndexByteString", "internal/bytealg.IndexString"], unfollowed := true, recurses := true, named := ["unicode/utf8.first", "unicode/utf8.acceptRanges", "internal/strconv.uint64pow10", "math/bits.deBruijn32tab", "math/bits.deBruijn64tab", "internal/bytealg.MaxLen"], apart := false, laid := [("math/bits.deBruijn32tab", laid_math_bits_deBruijn32tab), ("math/bits.deBruijn64tab", laid_math_bits_deBruijn64tab), ("internal/strconv.uint64pow10", laid_internal_strconv_uint64pow10), ("unicode/utf8.acceptRanges", laid_unicode_utf8_acceptRanges), ("unicode/utf8.first", laid_unicode_utf8_first)], narrowed := true }
def GaitRightUptoSaid : Prop := gaitRightUptoRow.holds Tryd.pinned (OpenSpec.upto gaitRightSpec)

/-- 'pritchellaw05.GaitTwice', WHERE WHAT IT READS IS OF BULK AT MOST 1048576: true; the input reads as it did. -/
def gaitTwiceUptoRow : OpenClaim := { program := "ytofgadehblpoiaadoor", sum := "ec74a58cca6bacced563a8a16b669166e1a7168a8f2735255a3900b61c0fb629", func := "pritchel/pritchellaw05.GaitTwice", spec := "gaitTwice", inPlace := ["internal/bytealg.IndexByteString", "internal/bytealg.IndexString"], unfollowed := true, recurses := true, named := ["unicode/utf8.first", "unicode/utf8.acceptRanges", "internal/strconv.uint64pow10", "math/bits.deBruijn32tab", "math/bits.deBruijn64tab", "internal/bytealg.MaxLen"], apart := false, laid := [("math/bits.deBruijn32tab", laid_math_bits_deBruijn32tab), ("math/bits.deBruijn64tab", laid_math_bits_deBruijn64tab), ("internal/strconv.uint64pow10", laid_internal_strconv_uint64pow10), ("unicode/utf8.acceptRanges", laid_unicode_utf8_acceptRanges), ("unicode/utf8.first", laid_unicode_utf8_first)], narrowed := true }
def GaitTwiceUptoSaid : Prop := gaitTwiceUptoRow.holds Tryd.pinned (OpenSpec.upto gaitTwiceSpec)

/-- 'pritchellaw05.GaitBent', WHERE WHAT IT READS IS OF BULK AT MOST 1048576: true; the input reads as it did. -/
def gaitBentUptoRow : OpenClaim := { program := "ytofgadehblpoiaadoor", sum := "ec74a58cca6bacced563a8a16b669166e1a7168a8f2735255a3900b61c0fb629", func := "pritchel/pritchellaw05.GaitBent", spec := "gaitBent", inPlace := ["internal/bytealg.IndexByteString", "internal/bytealg.IndexString"], unfollowed := true, recurses := true, named := ["unicode/utf8.first", "unicode/utf8.acceptRanges", "math/bits.deBruijn32tab", "math/bits.deBruijn64tab", "internal/strconv.uint64pow10", "internal/bytealg.MaxLen"], apart := false, laid := [("math/bits.deBruijn32tab", laid_math_bits_deBruijn32tab), ("math/bits.deBruijn64tab", laid_math_bits_deBruijn64tab), ("internal/strconv.uint64pow10", laid_internal_strconv_uint64pow10), ("unicode/utf8.acceptRanges", laid_unicode_utf8_acceptRanges), ("unicode/utf8.first", laid_unicode_utf8_first)], narrowed := true }
def GaitBentUptoSaid : Prop := gaitBentUptoRow.holds Tryd.pinned (OpenSpec.upto gaitBentSpec)

/-- 'pritchellaw05.GaitChanged', WHERE WHAT IT READS IS OF BULK AT MOST 1048576: true; the input reads as it did. -/
def gaitChangedUptoRow : OpenClaim := { program := "ytofgadehblpoiaadoor", sum := "ec74a58cca6bacced563a8a16b669166e1a7168a8f2735255a3900b61c0fb629", func := "pritchel/pritchellaw05.GaitChanged", spec := "gaitChanged", inPlace := ["internal/bytealg.IndexByteString", "internal/bytealg.IndexString"], unfollowed := true, recurses := true, named := ["unicode/utf8.first", "unicode/utf8.acceptRanges", "internal/strconv.uint64pow10", "math/bits.deBruijn32tab", "math/bits.deBruijn64tab", "internal/bytealg.MaxLen"], apart := false, laid := [("math/bits.deBruijn32tab", laid_math_bits_deBruijn32tab), ("math/bits.deBruijn64tab", laid_math_bits_deBruijn64tab), ("internal/strconv.uint64pow10", laid_internal_strconv_uint64pow10), ("unicode/utf8.acceptRanges", laid_unicode_utf8_acceptRanges), ("unicode/utf8.first", laid_unicode_utf8_first)], narrowed := true }
def GaitChangedUptoSaid : Prop := gaitChangedUptoRow.holds Tryd.pinned (OpenSpec.upto gaitChangedSpec)

end Rows
end Go.Proofs.YtofgadehblpoiaaDoor
