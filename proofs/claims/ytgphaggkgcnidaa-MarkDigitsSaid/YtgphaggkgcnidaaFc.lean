/-
  The argument Code; Code.fits.
-/
import Derived.Test.YtgphaggkgcnidaaFr
import Derived.Test.YtgphaggkgcnidaaDc
namespace Go.Proofs.Ytgphaggkgcnidaa
open Go.ChangeShapes Go.WideShapes Go.ChangeAt Go.RowKit Go.Deep Go.Joins Go.ChangeMaps

section
variable {H : Type} {enc : TypeId × Value → H}
set_option maxRecDepth 100000 in
theorem code_arg {w : World} {r : Go.Reach} {b0 : Nat} {v : Value} {d : DataW H} {p : List MemPlace} (hv : Value.okWide Try.prog w r b0 60 v) (h : DataW.Trod enc Try.prog w 0 (fun _ => true) true 60 v d p) :
    ∃ n q a b : Int, v = .agg #[.int .i64 n, .int .i64 q, .int .i64 a, .int .i64 b] ∧ (-9223372036854775808 ≤ n ∧ n ≤ 9223372036854775807) ∧ -9223372036854775808 ≤ q ∧ q ≤ 9223372036854775807 := by
  obtain ⟨c0, c1, c2, c3, y0, y1, y2, y3, n0, rfl, _, _, t0, t1, t2, t3⟩ := open_agg4 Try.underlying60 (by kernel_rfl) (by kernel_rfl) hv h
  obtain ⟨n, e0, _, w0⟩ := DataW.trod_int Try.underlying3 t0
  obtain ⟨q, e1, _, w1⟩ := DataW.trod_int Try.underlying3 t1
  obtain ⟨a, e2, _, _⟩ := DataW.trod_int Try.underlying3 t2
  obtain ⟨b, e3, _, _⟩ := DataW.trod_int Try.underlying3 t3
  simp at e0 e1 e2 e3
  subst e0 e1 e2 e3
  exact ⟨n, q, a, b, rfl, bounds_i64 w0, bounds_i64 w1⟩
end
end Go.Proofs.Ytgphaggkgcnidaa
