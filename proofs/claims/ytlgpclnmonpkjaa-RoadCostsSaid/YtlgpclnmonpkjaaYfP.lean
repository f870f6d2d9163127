/-
  RoadCosts: for every input, whatever memory it lies in, the law returns true and changes no argument. No condition.
-/
import Derived.Test.YtlgpclnmonpkjaaFy
import Derived.Test.YtlgpclnmonpkjaaYf
namespace Go.Proofs.Ytlgpclnmonpkjaa.roadCosts
open Go.ChangeShapes Go.WideShapes Go.ChangeAt Go.RowKit Go.Deep Go.Joins
set_option linter.unusedVariables false

set_option maxRecDepth 100000 in
theorem lifted (os : Os) (started : os.Started) (H : Type) (enc : TypeId × Value → H) :
    ReturnsInHanded {} Try.checked os 7 .any (Rows.roadCostsSpec.pre6 enc Try.prog Try.f7 Rows.roadCostsRow.domain false) (Rows.roadCostsSpec.post enc Try.prog Try.f7 false true false false) := by
  refine returnsInHanded_of_change (C := Try.checked) own started (by kernel_rfl) Try.func7
    (ChangeSpec.witness6 (enc := enc) (C := Try.checked) false ⟨#[], #[.agg #[.slice none 0 0, .slice none 0 0, .slice none 0 0, .slice none 0 0], .slice none 0 0], []⟩ 8 (by kernel_rfl) (by kernel_rfl) (by kernel_rfl) (by kernel_rfl)) ?_
  intro W base args ds gs before hval0 hW hcnd _
  have hval : ∀ (j : Nat) t v, Try.f7.params[j]? = some t → args[j]? = some v → Value.okWide Try.prog W .any base t v := hval0
  have hW' := hW
  obtain ⟨p, q, hA0, hV, rfl, hfz, hnd⟩ := hW
  have hA : DataW.TrodAll enc Try.prog W 0 (fun _ => true) true Try.f7.params.toList args.toList ds p := hA0
  rw [Try.params7] at hA hval
  obtain ⟨v0, vs0, d0, ds0, p0, q0, hargs, rfl, rfl, h0, r0⟩ := trodAll_cons hA
  obtain ⟨v1, vs1, d1, ds1, p1, q1, rfl, rfl, rfl, h1, r1⟩ := trodAll_cons r0
  obtain ⟨rfl, rfl, rfl⟩ := trodAll_nil r1
  obtain rfl : args = #[v0, v1] := by cases args; simp_all
  obtain ⟨rfl, rfl⟩ := trodVars_none hV
  have k0 := h0
  have lt0 : ∀ x ∈ p0, x.block < W.heap.size := by obtain ⟨m, hm⟩ := k0; exact DataW.trod_lt m _ _ _ hm
  have k1 := h1
  have lt1 : ∀ x ∈ p1, x.block < W.heap.size := by obtain ⟨m, hm⟩ := k1; exact DataW.trod_lt m _ _ _ hm
  obtain ⟨aO0, nO0, cO0, fO0, aL0, nL0, cL0, fL0, aS0, nS0, cS0, A0, B0, aC0, nC0, cC0, fC0, rfl, ⟨hO10, hO20, hO30, hO0⟩, ⟨hL10, hL20, hL30, hL0⟩, ⟨hS10, hS20, hS30, hS0⟩, hC10, hC20, hC30, hC0⟩ := land_arg (hval 0 48 v0 rfl rfl) h0
  obtain ⟨a1, l1, cap1, f1, rfl, hl1, hnil1, hcap1, hE1⟩ := ints_arg (hval 1 22 v1 rfl rfl) h1
  clear hA0 hval0
  refine (RoadCosts_any W aO0 nO0 cO0 fO0 aL0 nL0 cL0 fL0 aS0 nS0 cS0 A0 B0 aC0 nC0 cC0 fC0 hO0 hO10 hO20 hO30 hL0 hL10 hL20 hL30 hS0 hS10 hS20 hS30 hC0 hC10 hC20 hC30 a1 l1 cap1 f1 hE1 hl1 hnil1 hcap1).mono fun e W' ⟨he, bel0⟩ => ?_
  have bel := Kept.since bel0
  subst he
  exact ⟨_, rfl, _, _, _, [], _, [], hW', trodAll_mk1 (shut_bool Try.underlying4 _), (trodAll_cons_mk (Below.trod laidOut (by kernel_rfl) (of_decide_eq_true (by kernel_rfl)) k0 bel lt0) (trodAll_cons_mk (Below.trod laidOut (by kernel_rfl) (of_decide_eq_true (by kernel_rfl)) k1 bel lt1) trodAll_mk0)), rfl, bel.frame _, fun h => by cases h⟩

theorem over : Rows.roadCostsRow.holds Try.pinned (OpenSpec.ofChange Rows.roadCostsSpec) :=
  OpenClaim.holds_of_wide 7 Try.f7 rfl rfl rfl rfl rfl rfl rfl ⟨rfl, rfl, rfl, rfl, rfl⟩ rfl rfl rfl rfl rfl (by kernel_rfl) Try.func7 (by kernel_rfl)
    (of_decide_eq_true (by kernel_rfl)) (by unfold Func.isWrapper; first | (rw [if_pos (by decide +kernel)]; kernel_rfl) | (rw [if_neg (by decide +kernel)]; exact ⟨rfl, rfl⟩))
    (fun os started H enc _ => lifted os started H enc)

/-- The statement. -/
theorem proved : Rows.RoadCostsSaid := over
end Go.Proofs.Ytlgpclnmonpkjaa.roadCosts
