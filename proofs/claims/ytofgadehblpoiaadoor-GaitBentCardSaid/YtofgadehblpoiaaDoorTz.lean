/-
  The tables that the rows list: the cells of the table of trailing zeros.
-/
import Derived.Test.YtofgadehblpoiaaDoorFl
import Derived.Test.YtofgadehblpoiaaDoorZc
import Derived.Lib.LaidTab
import Derived.Stop.LaidErr
namespace Go.Proofs.YtofgadehblpoiaaDoor
open Go.ChangeShapes Go.WideShapes Go.ChangeAt Go.RowKit Go.Deep Go.Joins

def tzList : List Int := [0, 1, 56, 2, 57, 49, 28, 3, 61, 58, 42, 50, 38, 29, 17, 4, 62, 47, 59, 36, 45, 43, 51, 22, 53, 39, 33, 30, 24, 18, 12, 5, 63, 55, 48, 27, 60, 41, 37, 16, 46, 35, 44, 21, 52, 32, 23, 11, 54, 26, 40, 15, 34, 20, 31, 10, 25, 14, 19, 9, 13, 8, 7, 6]
theorem tz_of_laid {W : World} (hL : laidMet Tryd.prog laidL W) : TzAt W := by
  have hL2 : laidMet Tryd.prog (("math/bits.deBruijn64tab", Lib.tabData .u8 tzList) :: laidL.tail.tail) W := laidMet.tail hL
  have hT := Lib.tabIs_of_head (g := 1) (by kernel_rfl) (by kernel_rfl) (n := 64) (e := 5) (t := 137) (by kernel_rfl) Tryd.underlying5 (by kernel_rfl) (by kernel_rfl) hL2
  intro k hk
  have hc := hT.cell (g := 1) (by kernel_rfl) (2 ^ k * 285870213051353865 % 18446744073709551616 / 288230376151711744)
  have : k = 0 ∨ k = 1 ∨ k = 2 ∨ k = 3 ∨ k = 4 ∨ k = 5 ∨ k = 6 := by omega
  rcases this with rfl | rfl | rfl | rfl | rfl | rfl | rfl <;> exact hc (by decide)
end Go.Proofs.YtofgadehblpoiaaDoor
