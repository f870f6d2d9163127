/-
  The reference's numbers of any size: Neg, Sign, Sub, Cmp.
-/
import Derived.Test.YtomnjcjipdnnfaaNd
namespace Go.Proofs.Ytomnjcjipdnnfaa
open Go.RowKit Go.Deep

theorem sgn_neg (m : Bool) (x : Int) : sgnZ (!m) x = - sgnZ m x := by cases m <;> simp [sgnZ]
theorem z_zero {D : Nat → Int} (m : Bool) : sgnZ m (valZ D 0) = 0 := by cases m <;> simp [sgnZ, valZ]
set_option maxRecDepth 100000 in
set_option maxHeartbeats 4000000 in
theorem Neg_any (w : World) (v : Value) (z : Int) (hZ : ZAt w v z) :
    Calls Try.prog 94 #[v] w (ZPost w (-z)) := by
  obtain ⟨m, sv, l, D, rfl, hS, hL, hm, rfl, hl⟩ := hZ
  have HS := Lib.hid hS
  have HL := Lib.hid hL
  obtain ⟨a, cap, rfl, _⟩ := hS
  clear hL
  by_cases h0 : l = 0
  · subst h0
    have hz : Hid (∀ w', Kept w w' → ZAt w' (.agg #[.bool false, .slice a 0 cap]) (- sgnZ m (valZ D 0))) := fun w' k => ⟨false, _, 0, D, rfl, HS.out.kept k, HL.out, (fun h => by cases h), by rw [z_zero, z_zero]; rfl, hl⟩
    cases m
    · clear hm
      go_enter Try.func94, Try.ntmps94
      go_wp2_with fail
      exact bodyPost_ret (v := .agg #[.bool false, .slice a 0 cap]) (by simp [results, Try.results94, go_sem]) rfl ⟨_, rfl, hz.out _ (((Kept.refl w).alloc _).alloc _), ((Kept.refl w).alloc _).alloc _⟩
    · exact absurd (hm rfl) (by omega)
  · have h1 : 0 < l := by omega
    have h2 : (0 : Int) < (l : Int) := by omega
    have hz : Hid (∀ w', Kept w w' → ZAt w' (.agg #[.bool (!m), .slice a l cap]) (- sgnZ m (valZ D l))) := fun w' k => ⟨!m, _, l, D, rfl, HS.out.kept k, HL.out, (fun _ => h1), by rw [sgn_neg], hl⟩
    cases m
    · clear hm
      go_enter Try.func94, Try.ntmps94
      go_wp2_with fail
      exact bodyPost_ret (v := .agg #[.bool true, .slice a l cap]) (by simp [results, Try.results94, go_sem]) rfl ⟨_, rfl, hz.out _ (((Kept.refl w).alloc _).alloc _), ((Kept.refl w).alloc _).alloc _⟩
    · clear hm
      go_enter Try.func94, Try.ntmps94
      go_wp2_with fail
      exact bodyPost_ret (v := .agg #[.bool false, .slice a l cap]) (by simp [results, Try.results94, go_sem]) rfl ⟨_, rfl, hz.out _ (((Kept.refl w).alloc _).alloc _), ((Kept.refl w).alloc _).alloc _⟩
set_option maxRecDepth 100000 in
set_option maxHeartbeats 4000000 in
theorem Sign_any (w : World) (v : Value) (z : Int) (hZ : ZAt w v z) :
    Calls Try.prog 67 #[v] w fun e w' => e = .returned (.int .i64 (signI z)) ∧ Kept w w' := by
  obtain ⟨m, sv, l, D, rfl, hS, hL, hm, rfl, hl⟩ := hZ
  obtain ⟨a, cap, rfl, _⟩ := hS
  have hb := valZ_bd hL.1
  have hz := lean_zero hL
  by_cases h0 : l = 0
  · subst h0
    rw [z_zero]
    clear hL hm hz hb
    cases m <;>
    · go_enter Try.func67, Try.ntmps67
      go_wp2_with fail
      go_ret
      exact ⟨rfl, (Kept.refl w).alloc _⟩
  · have h1 : (l : Int) ≠ 0 := by omega
    have h2 : ¬ (l : Int) = 0 := h1
    have h3 : 0 < valZ D l := by
      have : valZ D l ≠ 0 := fun h => h0 (hz.1 h)
      omega
    have hs : Hid (signI (sgnZ m (valZ D l)) = if m then -1 else 1) := by
      show _ = _
      cases m
      · simp only [sgnZ, signI, if_false, Bool.false_eq_true]; rw [if_neg (by omega), if_pos h3]
      · simp only [sgnZ, signI, if_true]; rw [if_pos (by omega)]
    clear hL hm hz hb h3
    cases m <;>
    · rw [hs.out]
      go_enter Try.func67, Try.ntmps67
      go_wp2_with fail
      go_ret
      exact ⟨rfl, (Kept.refl w).alloc _⟩
end Go.Proofs.Ytomnjcjipdnnfaa
