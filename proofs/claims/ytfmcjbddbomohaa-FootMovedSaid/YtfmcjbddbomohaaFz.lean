/-
  How an argument of the laws reads: an array of three small numbers.
-/
import Derived.Test.YtfmcjbddbomohaaFg
namespace Go.Proofs.Ytfmcjbddbomohaa
open Go.ChangeShapes Go.WideShapes Go.ChangeAt Go.RowKit Go.Deep Go.Joins

set_option maxRecDepth 100000 in
theorem z3_arg {H : Type} {enc : TypeId × Value → H} {w : World} {r : Go.Reach} {b0 : Nat} {v : Value} {d : DataW H} {p : List MemPlace} (hv : Value.okWide Try.prog w r b0 76 v) (h : DataW.Trod enc Try.prog w 0 (fun _ => true) true 76 v d p) :
    ∃ z0 z1 z2 : Int, v = .agg #[.int .i8 z0, .int .i8 z1, .int .i8 z2] ∧ (-128 ≤ z0 ∧ z0 ≤ 127) ∧ (-128 ≤ z1 ∧ z1 ≤ 127) ∧ (-128 ≤ z2 ∧ z2 ≤ 127) := by
  have hC : Try.prog.cellsOf 76 = 3 := by kernel_rfl
  have hC1 : Try.prog.cellsOf 75 = 1 := by kernel_rfl
  simp only [Value.okWide, Try.underlying76] at hv
  obtain ⟨cs, rfl, hsz, _⟩ := hv
  rw [hC] at hsz
  obtain ⟨m, hm⟩ := h
  obtain ⟨xs, k, _, _, hlen, hxl, hf⟩ := DataW.trod_array Try.underlying76 hm
  have hl : cs.toList.length = 3 := by simpa using hsz
  have hg : ∀ j (hj : j < 3), ∃ z : Int, cs[j]'(by omega) = .int .i8 z ∧ -128 ≤ z ∧ z ≤ 127 := fun j hj => by
    have h1 := hf j hj
    rw [hC1, Nat.mul_one] at h1
    have hone : ((Value.agg cs).cells.toList.drop j).take 1 = [cs[j]'(by omega)] := by
      have hj' : j < cs.toList.length := by omega
      show (cs.toList.drop j).take 1 = _
      rw [List.drop_eq_getElem_cons hj']; rfl
    rw [hone] at h1
    have hys : xs[j]? = some (xs[j]'(by omega)) := List.getElem?_eq_getElem (by omega)
    obtain ⟨z, hz1, _, hz3⟩ := DataW.trod_int Try.underlying75 (h1.trans hys)
    simp at hz1
    exact ⟨z, hz1, bounds_i8 hz3⟩
  obtain ⟨z0, e0, b0⟩ := hg 0 (by omega)
  obtain ⟨z1, e1, b1⟩ := hg 1 (by omega)
  obtain ⟨z2, e2, b2⟩ := hg 2 (by omega)
  refine ⟨z0, z1, z2, ?_, b0, b1, b2⟩
  congr 1
  apply Array.ext
  · simpa using hsz
  · intro i h1 h2
    have : i = 0 ∨ i = 1 ∨ i = 2 := by omega
    rcases this with rfl | rfl | rfl
    · exact e0
    · exact e1
    · exact e2
end Go.Proofs.Ytfmcjbddbomohaa
