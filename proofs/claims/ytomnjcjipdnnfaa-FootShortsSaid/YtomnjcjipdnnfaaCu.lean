/-
  The law's cut: a copy of the first points of an outline.
-/
import Derived.Test.YtomnjcjipdnnfaaKb
namespace Go.Proofs.Ytomnjcjipdnnfaa
open Go.RowKit Go.Deep

set_option maxRecDepth 100000 in
set_option maxHeartbeats 1000000 in
theorem cut_any (w : World) (a : Option Addr) (l cap : Nat) (X Y : Nat → Int) (hL : PairsAt w (.slice a l cap) l X Y) (hl : l ≤ cap) (hnil : a = none → cap = 0) (hcap : cap ≤ maxLen) :
    Calls Try.prog 15 #[.slice a l cap] w (OwnPost w (min l 31) X Y) := by
  obtain ⟨a', b, o, cap', e, ha, hc⟩ := hL
  cases e
  unfold maxLen at hcap
  obtain ⟨i1, hi, hz0, hz1, hz2⟩ := info_parts Try.infoPoint
  have hO := own_zeroT w w.heap.size 78 2 (Nat.le_refl _)
  have hk0 : Kept w (w.alloc (.cells #[] 78)) := (Kept.refl w).alloc _
  have hs0 : w.heap.size ≤ (w.alloc (.cells #[] 78)).heap.size := by simp
  cases a with
  | none =>
    obtain rfl := hnil rfl
    obtain rfl : l = 0 := by omega
    go_enter Try.func15, Try.ntmps15
    go_wp2_with (first | (at_builtin; refine wpList_append_own_none rfl _ _ 22 rfl w.heap.size 78 i1 2 Try.underlying22 hi _ _ _ rfl hO rfl ?_))
    go_ret
    exact ⟨_, rfl, hO, hk0⟩
  | some ad =>
    have hsrc : ∀ m, m ≤ l → ∀ j u, (pairs X Y m)[j]? = some u → (w.alloc (.cells #[] 78)).cell? (ad.add j) = some u := fun m hm j u h => by
      have h0 : 0 < m := by
        rcases Nat.eq_zero_or_pos m with e | e
        · subst e; simp [pairs] at h
        · exact e
      have e := ha (by omega)
      cases e
      exact hk0.cellSome (pairs_src0 hc m hm j u h)
    have HS := Lib.hid hsrc
    clear hsrc hc ha
    by_cases h9 : 31 < l
    · have m9 : min l 31 = 31 := by omega
      rw [m9]
      have g1 : (31 : Int) < l := by omega
      have g2 : (31 : Int) ≤ cap := by omega
      go_enter Try.func15, Try.ntmps15
      go_wp2_with (first | (at_builtin; refine wpList_append_own _ rfl _ _ 22 rfl w.heap.size 78 i1 (.agg #[.int .i64 0, .int .i64 0]) 2 16 Try.underlying22 hi hz0 hz1 hz2 rfl (by decide) _ _ _ rfl hO ad 31 cap (pairs X Y 31) rfl (pairs_len _ _ _) (HS.out 31 (by omega)) (pairs_one _ _ _) (by decide) (by decide) hs0 ?_))
      intro v' w2 hO2 hgr _
      go_wp2_with fail
      go_ret
      exact ⟨_, rfl, by simpa using hO2, hk0.step (grew_X hgr hO) (fun i hi => by omega)⟩
    · have m9 : min l 31 = l := by omega
      rw [m9]
      have g1 : ¬ (31 : Int) < l := by omega
      have g2 : (l : Int) ≤ cap := by omega
      go_enter Try.func15, Try.ntmps15
      go_wp2_with (first | (at_builtin; refine wpList_append_own _ rfl _ _ 22 rfl w.heap.size 78 i1 (.agg #[.int .i64 0, .int .i64 0]) 2 16 Try.underlying22 hi hz0 hz1 hz2 rfl (by decide) _ _ _ rfl hO ad l cap (pairs X Y l) rfl (pairs_len _ _ _) (HS.out l (by omega)) (pairs_one _ _ _) (by unfold maxLen; omega) (by omega) hs0 ?_))
      intro v' w2 hO2 hgr _
      go_wp2_with fail
      go_ret
      exact ⟨_, rfl, by simpa using hO2, hk0.step (grew_X hgr hO) (fun i hi => by omega)⟩
end Go.Proofs.Ytomnjcjipdnnfaa
