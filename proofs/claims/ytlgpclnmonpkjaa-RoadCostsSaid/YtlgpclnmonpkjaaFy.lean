/-
  How the argument of type Land reads: a road, spots and ints in one struct.
-/
import Derived.Test.YtlgpclnmonpkjaaFz
import Derived.Deep.Strs
namespace Go.Proofs.Ytlgpclnmonpkjaa
open Go.ChangeShapes Go.WideShapes Go.ChangeAt Go.RowKit Go.Deep Go.Joins

section
variable {H : Type} {enc : TypeId × Value → H}
set_option maxRecDepth 100000 in
theorem land_arg {w : World} {r : Reach} {b0 : Nat} {v : Value} {d : DataW H} {p : List MemPlace} (hv : Value.okWide Try.prog w r b0 48 v) (h : DataW.Trod enc Try.prog w 0 (fun _ => true) true 48 v d p) :
    ∃ (aO : Option Addr) (nO cO : Nat) (fO : Nat → Int) (aL : Option Addr) (nL cL : Nat) (fL : Nat → Int) (aS : Option Addr) (nS cS : Nat) (A B : Nat → Int) (aC : Option Addr) (nC cC : Nat) (fC : Nat → Int),
      v = .agg #[.slice aO nO cO, .slice aL nL cL, .slice aS nS cS, .slice aC nC cC] ∧ (nO ≤ cO ∧ (aO = none → cO = 0) ∧ cO ≤ maxLen ∧ IntsAt w (.slice aO nO cO) nO fO) ∧ (nL ≤ cL ∧ (aL = none → cL = 0) ∧ cL ≤ maxLen ∧ IntsAt w (.slice aL nL cL) nL fL) ∧
      (nS ≤ cS ∧ (aS = none → cS = 0) ∧ cS ≤ maxLen ∧ PairsAt w (.slice aS nS cS) nS A B) ∧ nC ≤ cC ∧ (aC = none → cC = 0) ∧ cC ≤ maxLen ∧ IntsAt w (.slice aC nC cC) nC fC := by
  obtain ⟨cs, rfl, hsz⟩ := okWide_struct Try.underlying48 hv
  obtain ⟨c0, c1, c2, c3, rfl⟩ := array4 (hsz.trans (by kernel_rfl))
  obtain ⟨fuel, hf⟩ := h
  obtain ⟨y0, y1, y2, n, hx, _, h0, h1, h2⟩ := trod_struct3 Try.underlying48 hf
  have k0 : Try.prog.cellsOf 24 = 2 := by kernel_rfl
  have k1 : Try.prog.cellsOf 36 = 1 := by kernel_rfl
  have k2 : Try.prog.cellsOf 22 = 1 := by kernel_rfl
  have g0 : DataW.trod enc Try.prog w 0 (fun _ => true) true n 24 [c0, c1] = some y0 := by simpa [Value.cells, k0] using h0
  have g1 : DataW.trod enc Try.prog w 0 (fun _ => true) true n 36 [c2] = some y1 := by simpa [Value.cells, k1] using h1
  have g2 : DataW.trod enc Try.prog w 0 (fun _ => true) true n 22 [c3] = some y2 := by simpa [Value.cells, k2] using h2
  obtain ⟨z0, z1, n2, hx2, _, t0, t1⟩ := trod_struct2 Try.underlying24 g0
  have s0 : DataW.trod enc Try.prog w 0 (fun _ => true) true n2 22 [c0] = some z0 := by simpa [k2] using t0
  have s1 : DataW.trod enc Try.prog w 0 (fun _ => true) true n2 22 [c1] = some z1 := by simpa [k2] using t1
  obtain ⟨aO, nO, cO, fO, rfl, r1⟩ := ints_open s0
  obtain ⟨aL, nL, cL, fL, rfl, r2⟩ := ints_open s1
  obtain ⟨aS, nS, cS, A, B, rfl, r3⟩ := spots_open g1
  obtain ⟨aC, nC, cC, fC, rfl, r4⟩ := ints_open g2
  exact ⟨aO, nO, cO, fO, aL, nL, cL, fL, aS, nS, cS, A, B, aC, nC, cC, fC, rfl, r1, r2, r3, r4⟩
end
end Go.Proofs.Ytlgpclnmonpkjaa
