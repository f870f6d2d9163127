/-
  How an argument reads that is an array of two bytes.
-/
import Derived.Test.YtlnpipkhofhlnaaFg
namespace Go.Proofs.Ytlnpipkhofhlnaa
open Go.ChangeShapes Go.WideShapes Go.ChangeAt Go.RowKit Go.Deep Go.Joins

section
variable {H : Type} {enc : TypeId × Value → H}
set_option maxRecDepth 100000 in
theorem two_arg {w : World} {r : Go.Reach} {b0 : Nat} {v : Value} {d : DataW H} {p : List MemPlace} (hv : Value.okWide Try.prog w r b0 69 v) (h : DataW.Trod enc Try.prog w 0 (fun _ => true) true 69 v d p) :
    ∃ x y : Nat, v = .agg #[.int .u8 x, .int .u8 y] ∧ x < 256 ∧ y < 256 := by
  simp only [Value.okWide, Try.underlying69] at hv
  obtain ⟨cs, rfl, hsz, _⟩ := hv
  have hC : Try.prog.cellsOf 69 = 2 := by kernel_rfl
  have hC1 : Try.prog.cellsOf 5 = 1 := by kernel_rfl
  obtain ⟨c0, c1, rfl⟩ := array2 (hsz.trans hC)
  obtain ⟨m, hm⟩ := h
  have ht : DataW.trod enc Try.prog w 0 (fun _ => true) true m 69 [c0, c1] = some (d, p) := by simpa [Value.cells] using hm
  obtain ⟨xs, k, _, _, hlen, hxl, hf⟩ := DataW.trod_array Try.underlying69 ht
  have hg : ∀ j, j < 2 → ∃ z : Nat, z < 256 ∧ (([c0, c1].drop j).take 1) = [Value.int .u8 (z : Int)] := fun j hj => by
    have h1 := hf j hj
    rw [hC1, Nat.mul_one] at h1
    have hone : (([c0, c1].drop j).take 1) = [[c0, c1][j]'(by simp; omega)] := by
      rw [List.drop_eq_getElem_cons (by simp; omega)]; rfl
    rw [hone] at h1
    have hys : xs[j]? = some (xs[j]'(by omega)) := List.getElem?_eq_getElem (by omega)
    obtain ⟨z, hz1, _, hz3⟩ := DataW.trod_int Try.underlying5 (h1.trans hys)
    obtain ⟨k, hk1, hk2⟩ := u8_nat hz3
    refine ⟨k, hk2, ?_⟩
    rw [hone, hz1, hk1]
  obtain ⟨x, hx, ex⟩ := hg 0 (by omega)
  obtain ⟨y, hy, ey⟩ := hg 1 (by omega)
  simp at ex ey
  exact ⟨x, y, by rw [ex, ey], hx, hy⟩
end
end Go.Proofs.Ytlnpipkhofhlnaa
