/-
  RoadServes: for every input, whatever memory it lies in, the law returns true and changes no argument. No condition.
-/
import Derived.Test.YtlgpclnmonpkjaaFy
import Derived.Test.YtlgpclnmonpkjaaYc
namespace Go.Proofs.Ytlgpclnmonpkjaa.roadServes
open Go.ChangeShapes Go.WideShapes Go.ChangeAt Go.RowKit Go.Deep Go.Joins
set_option linter.unusedVariables false

set_option maxRecDepth 100000 in
theorem lifted (os : Os) (started : os.Started) (H : Type) (enc : TypeId × Value → H) :
    ReturnsInHanded {} Try.checked os 5 .any (Rows.roadServesSpec.pre6 enc Try.prog Try.f5 Rows.roadServesRow.domain false) (Rows.roadServesSpec.post enc Try.prog Try.f5 false true false false) := by
  refine returnsInHanded_of_change (C := Try.checked) own started (by kernel_rfl) Try.func5
    (ChangeSpec.witness6 (enc := enc) (C := Try.checked) false ⟨#[], #[.agg #[.slice none 0 0, .slice none 0 0, .slice none 0 0, .slice none 0 0]], []⟩ 8 (by kernel_rfl) (by kernel_rfl) (by kernel_rfl) (by kernel_rfl)) ?_
  intro W base args ds gs before hval0 hW hcnd _
  have hval : ∀ (j : Nat) t v, Try.f5.params[j]? = some t → args[j]? = some v → Value.okWide Try.prog W .any base t v := hval0
  have hW' := hW
  obtain ⟨p, q, hA0, hV, rfl, hfz, hnd⟩ := hW
  have hA : DataW.TrodAll enc Try.prog W 0 (fun _ => true) true Try.f5.params.toList args.toList ds p := hA0
  rw [Try.params5] at hA hval
  obtain ⟨v0, vs0, d0, ds0, p0, q0, hargs, rfl, rfl, h0, r0⟩ := trodAll_cons hA
  obtain ⟨rfl, rfl, rfl⟩ := trodAll_nil r0
  obtain rfl : args = #[v0] := by cases args; simp_all
  obtain ⟨rfl, rfl⟩ := trodVars_none hV
  have k0 := h0
  have lt0 : ∀ x ∈ p0, x.block < W.heap.size := by obtain ⟨m, hm⟩ := k0; exact DataW.trod_lt m _ _ _ hm
  obtain ⟨aO0, nO0, cO0, fO0, aL0, nL0, cL0, fL0, aS0, nS0, cS0, A0, B0, aC0, nC0, cC0, fC0, rfl, ⟨hO10, hO20, hO30, hO0⟩, ⟨hL10, hL20, hL30, hL0⟩, ⟨hS10, hS20, hS30, hS0⟩, hC10, hC20, hC30, hC0⟩ := land_arg (hval 0 48 v0 rfl rfl) h0
  clear hA0 hval0
  refine (RoadServes_any W aO0 nO0 cO0 fO0 aL0 nL0 cL0 fL0 aS0 nS0 cS0 A0 B0 aC0 nC0 cC0 fC0 hO0 hO10 hO20 hO30 hL0 hL10 hL20 hL30 hS0 hS10 hS20 hS30 hC0 hC10 hC20 hC30).mono fun e W' ⟨he, bel0⟩ => ?_
  have bel := Kept.since bel0
  subst he
  exact ⟨_, rfl, _, _, _, [], _, [], hW', trodAll_mk1 (shut_bool Try.underlying4 _), (trodAll_cons_mk (Below.trod laidOut (by kernel_rfl) (of_decide_eq_true (by kernel_rfl)) k0 bel lt0) trodAll_mk0), rfl, bel.frame _, fun h => by cases h⟩

theorem over : Rows.roadServesRow.holds Try.pinned (OpenSpec.ofChange Rows.roadServesSpec) :=
  OpenClaim.holds_of_wide 5 Try.f5 rfl rfl rfl rfl rfl rfl rfl ⟨rfl, rfl, rfl, rfl, rfl⟩ rfl rfl rfl rfl rfl (by kernel_rfl) Try.func5 (by kernel_rfl)
    (of_decide_eq_true (by kernel_rfl)) (by unfold Func.isWrapper; first | (rw [if_pos (by decide +kernel)]; kernel_rfl) | (rw [if_neg (by decide +kernel)]; exact ⟨rfl, rfl⟩))
    (fun os started H enc _ => lifted os started H enc)

/-- The statement. -/
theorem proved : Rows.RoadServesSaid := over
end Go.Proofs.Ytlgpclnmonpkjaa.roadServes
