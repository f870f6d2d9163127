/-
  The reference's Abs.
-/
import Derived.Test.YtomnjcjipdnnfaaNt
namespace Go.Proofs.Ytomnjcjipdnnfaa
open Go.RowKit Go.Deep

set_option maxRecDepth 100000 in
set_option maxHeartbeats 4000000 in
theorem Abs_any (w : World) (v : Value) (z y : Int) (hZ : ZAt w v z) (hy : y = (z.natAbs : Int)) :
    Calls Try.prog 83 #[v] w (ZPost w y) := by
  obtain ⟨m, sv, l, D, rfl, hS, hL, hm, hv, hl⟩ := hZ
  have HS := Lib.hid hS
  have HL := Lib.hid hL
  obtain ⟨a, cap, rfl, _⟩ := hS
  have hb := valZ_bd hL.1
  have hz : Hid (∀ w', Kept w w' → ZAt w' (.agg #[.bool false, .slice a l cap]) y) := fun w' k => ⟨false, _, l, D, rfl, HS.out.kept k, HL.out, (fun h => by cases h), by rw [hy, hv]; cases m <;> simp [sgnZ] <;> omega, hl⟩
  clear hL hy hv hb
  go_enter Try.func83, Try.ntmps83
  go_wp2_with fail
  exact bodyPost_ret (v := .agg #[.bool false, .slice a l cap]) (by simp [results, Try.results83, go_sem]) rfl ⟨_, rfl, hz.out _ (((Kept.refl w).alloc _).alloc _), ((Kept.refl w).alloc _).alloc _⟩
end Go.Proofs.Ytomnjcjipdnnfaa
