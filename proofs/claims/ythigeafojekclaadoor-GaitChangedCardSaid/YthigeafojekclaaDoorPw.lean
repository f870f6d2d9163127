/-
  The tables that the rows list: the powers of 10.
-/
import Derived.Test.YthigeafojekclaaDoorFl
import Derived.Test.YthigeafojekclaaDoorUg
namespace Go.Proofs.YthigeafojekclaaDoor
open Go.ChangeShapes Go.WideShapes Go.ChangeAt Go.RowKit Go.Deep Go.Joins

theorem pow_of_laid {W : World} (hL : laidMet Tryd.prog laidL W) : PowAt W := by
  have hL1 := laidMet.tail hL
  have hL2 : laidMet Tryd.prog (("internal/strconv.uint64pow10", Lib.tabData .u64 Lib.pow10Tab) :: laidL.tail.tail.tail) W := laidMet.tail hL1
  exact Lib.tabIs_of_head (g := 2) (by kernel_rfl) (by kernel_rfl) (n := 20) (e := 107) (t := 122) (by kernel_rfl) (by kernel_rfl) (by kernel_rfl) (by kernel_rfl) hL2
end Go.Proofs.YthigeafojekclaaDoor
