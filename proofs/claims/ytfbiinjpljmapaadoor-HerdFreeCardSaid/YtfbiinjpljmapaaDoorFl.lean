/-
  The tables that the rows list, laid in a witness's world.
-/
import Derived.Test.YtfbiinjpljmapaaDoorRows
import Derived.Test.YtfbiinjpljmapaaDoorFr
import Derived.Lay
import Derived.MakeChecks
import GoSem.ClaimSeven
namespace Go.Proofs.YtfbiinjpljmapaaDoor
open Go.ChangeShapes Go.WideShapes Go.ChangeAt Go.RowKit Go.Deep Go.Joins

def laidL : List (String × DataW Unit) := [("math/bits.deBruijn32tab", Rows.laid_math_bits_deBruijn32tab), ("math/bits.deBruijn64tab", Rows.laid_math_bits_deBruijn64tab), ("internal/strconv.uint64pow10", Rows.laid_internal_strconv_uint64pow10), ("strconv.ErrRange", Rows.laid_strconv_ErrRange), ("strconv.ErrSyntax", Rows.laid_strconv_ErrSyntax)]
theorem laidL_plain (W : World) : laidMetH Tryd.prog laidL W = laidMet Tryd.prog laidL W := MakeChecks.laidMetH_plain _ _ _ (by kernel_rfl)
theorem laidL_shape (os : Os) (args : Array Value) : ((World.laidAll Tryd.prog os laidL).forCall (fun _ _ => 0) ⟨#[], args, []⟩).Shaped Tryd.prog := World.shaped_of_ZipB (by kernel_rfl) (by kernel_rfl)
theorem laidL_met (os : Os) (args : Array Value) : laidMetH Tryd.prog laidL ((World.laidAll Tryd.prog os laidL).forCall (fun _ _ => 0) ⟨#[], args, []⟩).memory := by
  rw [laidL_plain]
  exact laidMet_laidAll _ (by kernel_rfl) (by kernel_rfl)
theorem seatMain : Tryd.pinned.checked.prog.mainIs = some ((true, "e06d064c3dedd24d7d52f5da6fc787d99b0f8a0f7d47858f42c81312bb3bcef0").1, (true, "e06d064c3dedd24d7d52f5da6fc787d99b0f8a0f7d47858f42c81312bb3bcef0").2.toList) := by kernel_rfl
theorem seatLooks : true = Tryd.pinned.checked.prog.looks [] := by kernel_rfl
end Go.Proofs.YtfbiinjpljmapaaDoor
