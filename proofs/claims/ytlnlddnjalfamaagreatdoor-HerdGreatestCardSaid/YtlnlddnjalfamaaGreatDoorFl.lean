/-
  The tables that the rows list, laid in a witness's world.
-/
import Derived.Test.YtlnlddnjalfamaaGreatDoorRows
import Derived.Test.YtlnlddnjalfamaaGreatDoorFr
import Derived.Lay
import Derived.MakeChecks
import GoSem.ClaimSeven
namespace Go.Proofs.YtlnlddnjalfamaaGreatDoor
open Go.ChangeShapes Go.WideShapes Go.ChangeAt Go.RowKit Go.Deep Go.Joins

def laidL : List (String × DataW Unit) := [("math/bits.deBruijn32tab", Rows.laid_math_bits_deBruijn32tab), ("math/bits.deBruijn64tab", Rows.laid_math_bits_deBruijn64tab), ("internal/strconv.uint64pow10", Rows.laid_internal_strconv_uint64pow10), ("strconv.ErrRange", Rows.laid_strconv_ErrRange), ("strconv.ErrSyntax", Rows.laid_strconv_ErrSyntax)]
theorem laidL_plain (W : World) : laidMetH Tryz.prog laidL W = laidMet Tryz.prog laidL W := MakeChecks.laidMetH_plain _ _ _ (by kernel_rfl)
theorem laidL_shape (os : Os) (args : Array Value) : ((World.laidAll Tryz.prog os laidL).forCall (fun _ _ => 0) ⟨#[], args, []⟩).Shaped Tryz.prog := World.shaped_of_ZipB (by kernel_rfl) (by kernel_rfl)
theorem laidL_met (os : Os) (args : Array Value) : laidMetH Tryz.prog laidL ((World.laidAll Tryz.prog os laidL).forCall (fun _ _ => 0) ⟨#[], args, []⟩).memory := by
  rw [laidL_plain]
  exact laidMet_laidAll _ (by kernel_rfl) (by kernel_rfl)
theorem seatMain : Tryz.pinned.checked.prog.mainIs = some ((true, "9131c6ad1db1294394276b0e4f422a9fe8ebced5af87f2a7c57bb67428f806d8").1, (true, "9131c6ad1db1294394276b0e4f422a9fe8ebced5af87f2a7c57bb67428f806d8").2.toList) := by kernel_rfl
theorem seatLooks : true = Tryz.pinned.checked.prog.looks [] := by kernel_rfl
end Go.Proofs.YtlnlddnjalfamaaGreatDoor
