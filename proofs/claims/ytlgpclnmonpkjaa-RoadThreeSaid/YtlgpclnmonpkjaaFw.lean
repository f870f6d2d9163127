/-
  How an argument reads that is an array of three pairs of bytes.
-/
import Derived.Test.YtlgpclnmonpkjaaFx
import Derived.Test.YtlgpclnmonpkjaaYd
namespace Go.Proofs.Ytlgpclnmonpkjaa
open Go.ChangeShapes Go.WideShapes Go.ChangeAt Go.RowKit Go.Deep Go.Joins

section
variable {H : Type} {enc : TypeId × Value → H}
set_option maxRecDepth 100000 in
theorem pair8_open {w : World} {n : Nat} {c0 c1 : Value} {y : DataW H × List MemPlace} (ht : DataW.trod enc Try.prog w 0 (fun _ => true) true n 82 [c0, c1] = some y) :
    ∃ x y : Nat, c0 = .int .u8 x ∧ c1 = .int .u8 y ∧ x < 256 ∧ y < 256 := by
  have hC1 : Try.prog.cellsOf 5 = 1 := by kernel_rfl
  obtain ⟨xs, k, _, _, hlen, hxl, hf⟩ := DataW.trod_array Try.underlying82 ht
  have hg : ∀ j, j < 2 → ∃ z : Nat, z < 256 ∧ (([c0, c1].drop j).take 1) = [Value.int .u8 (z : Int)] := fun j hj => by
    have h1 := hf j hj
    rw [hC1, Nat.mul_one] at h1
    have hone : (([c0, c1].drop j).take 1) = [[c0, c1][j]'(by simp; omega)] := by
      rw [List.drop_eq_getElem_cons (by simp; omega)]; rfl
    rw [hone] at h1
    have hys : xs[j]? = some (xs[j]'(by omega)) := List.getElem?_eq_getElem (by omega)
    obtain ⟨z, hz1, _, hz3⟩ := DataW.trod_int Try.underlying5 (h1.trans hys)
    obtain ⟨k, hk1, hk2⟩ := u8_nat hz3
    refine ⟨k, hk2, ?_⟩
    rw [hone, hz1, hk1]
  obtain ⟨x, hx, ex⟩ := hg 0 (by omega)
  obtain ⟨y, hy, ey⟩ := hg 1 (by omega)
  simp at ex ey
  exact ⟨x, y, ex, ey, hx, hy⟩
theorem array6 {α : Type} {cs : Array α} (h : cs.size = 6) : ∃ c0 c1 c2 c3 c4 c5, cs = #[c0, c1, c2, c3, c4, c5] := by
  obtain ⟨l⟩ := cs
  match l, h with
  | [c0, c1, c2, c3, c4, c5], _ => exact ⟨c0, c1, c2, c3, c4, c5, rfl⟩
set_option maxRecDepth 100000 in
theorem six8_arg {w : World} {r : Go.Reach} {b0 : Nat} {v : Value} {d : DataW H} {p : List MemPlace} (hv : Value.okWide Try.prog w r b0 83 v) (h : DataW.Trod enc Try.prog w 0 (fun _ => true) true 83 v d p) :
    ∃ s : Nat → Nat, v = six8 s ∧ ∀ i, i < 6 → s i < 256 := by
  simp only [Value.okWide, Try.underlying83] at hv
  obtain ⟨cs, rfl, hsz, _⟩ := hv
  have hC : Try.prog.cellsOf 83 = 6 := by kernel_rfl
  have hC2 : Try.prog.cellsOf 82 = 2 := by kernel_rfl
  obtain ⟨c0, c1, c2, c3, c4, c5, rfl⟩ := array6 (hsz.trans hC)
  obtain ⟨m, hm⟩ := h
  have ht : DataW.trod enc Try.prog w 0 (fun _ => true) true m 83 [c0, c1, c2, c3, c4, c5] = some (d, p) := by simpa [Value.cells] using hm
  obtain ⟨xs, k, _, _, hlen, hxl, hf⟩ := DataW.trod_array Try.underlying83 ht
  have e0 : xs[0]? = some (xs[0]'(by omega)) := List.getElem?_eq_getElem (by omega)
  have e1 : xs[1]? = some (xs[1]'(by omega)) := List.getElem?_eq_getElem (by omega)
  have e2 : xs[2]? = some (xs[2]'(by omega)) := List.getElem?_eq_getElem (by omega)
  have f0 := (hf 0 (by omega)).trans e0
  have f1 := (hf 1 (by omega)).trans e1
  have f2 := (hf 2 (by omega)).trans e2
  rw [hC2] at f0 f1 f2
  have g0 : DataW.trod enc Try.prog w 0 (fun _ => true) true k 82 [c0, c1] = some (xs[0]'(by omega)) := f0
  have g1 : DataW.trod enc Try.prog w 0 (fun _ => true) true k 82 [c2, c3] = some (xs[1]'(by omega)) := f1
  have g2 : DataW.trod enc Try.prog w 0 (fun _ => true) true k 82 [c4, c5] = some (xs[2]'(by omega)) := f2
  obtain ⟨a0, b0, rfl, rfl, ha0, hb0⟩ := pair8_open g0
  obtain ⟨a1, b1, rfl, rfl, ha1, hb1⟩ := pair8_open g1
  obtain ⟨a2, b2, rfl, rfl, ha2, hb2⟩ := pair8_open g2
  refine ⟨fun i => if i = 0 then a0 else if i = 1 then b0 else if i = 2 then a1 else if i = 3 then b1 else if i = 4 then a2 else b2, rfl, fun i hi => ?_⟩
  have : i = 0 ∨ i = 1 ∨ i = 2 ∨ i = 3 ∨ i = 4 ∨ i = 5 := by omega
  rcases this with rfl | rfl | rfl | rfl | rfl | rfl <;> simp <;> assumption
end
end Go.Proofs.Ytlgpclnmonpkjaa
