/-
  The law's cut; the reference's in; the program's Distance.
-/
import Derived.Test.YtlgpclnmonpkjaaVd
namespace Go.Proofs.Ytlgpclnmonpkjaa
open Go.RowKit Go.Deep

theorem own_zeroT (w : World) (base t size : Nat) (hb : base ≤ w.heap.size) : (w.alloc (.cells #[] t)).ownsRow base t size (.slice (some ⟨w.heap.size, 0, none⟩) 0 0) 0 [] :=
  World.ownsRow_made (base := base) (e := t) (size := size) w #[] 0 hb (Nat.zero_le _) (by simp)
theorem intsL_len (f : Nat → Int) (n : Nat) : (intsL f n).length = n := by simp [intsL]
def CutPost (w : World) (n : Nat) (f : Nat → Int) (e : Ending) (w' : World) : Prop := ∃ v, e = .returned v ∧ w'.ownsRow w.heap.size 3 1 v n (intsL f n) ∧ Kept w w'
theorem IntsAt.of_intsL {w : World} {base : Nat} {v : Value} {n : Nat} {f : Nat → Int} (h : w.ownsRow base 3 1 v n (intsL f n)) : IntsAt w v n f :=
  (CellsAt.of_own h).congr fun i hi => by simp [intsL, List.getD, hi]
set_option maxRecDepth 100000 in
set_option maxHeartbeats 2000000 in
theorem cut_any (w : World) (a : Option Addr) (l cap n : Nat) (f : Nat → Int) (hL : IntsAt w (.slice a l cap) l f) (hl : l ≤ cap) (hnil : a = none → cap = 0) (hcap : cap ≤ maxLen) (hn : n ≤ 100) :
    Calls Try.prog 40 #[.slice a l cap, .int .i64 n] w (CutPost w (min l n) f) := by
  obtain ⟨a', b, o, cap', e, ha, hc⟩ := hL
  cases e
  unfold maxLen at hcap
  obtain ⟨i1, hi, hz0, hz1, hz2⟩ := info_parts Try.info3
  have hO := own_zeroT w w.heap.size 3 1 (Nat.le_refl _)
  have hk0 : Kept w (w.alloc (.cells #[] 3)) := (Kept.refl w).alloc _
  have hs0 : w.heap.size ≤ (w.alloc (.cells #[] 3)).heap.size := by simp
  cases a with
  | none =>
    obtain rfl := hnil rfl
    obtain rfl : l = 0 := by omega
    have m9 : min 0 n = 0 := by omega
    rw [m9]
    have g1 : ¬ (n : Int) < 0 := by omega
    go_enter Try.func40, Try.ntmps40
    go_wp2_with (first | (at_builtin; refine wpList_append_own_none rfl _ _ 22 rfl w.heap.size 3 i1 1 Try.underlying22 hi _ _ _ rfl hO rfl ?_))
    go_ret
    exact ⟨_, rfl, hO, hk0⟩
  | some ad =>
    have hsrc : ∀ m, m ≤ l → ∀ j u, (intsL f m)[j]? = some u → (w.alloc (.cells #[] 3)).cell? (ad.add j) = some u := fun m hm j u h => by
      obtain ⟨hj, rfl⟩ := intsL_some h
      have e := ha (by omega)
      cases e
      rw [add_at]
      exact hk0.cellSome (hc j (by omega))
    have HS := Lib.hid hsrc
    clear hsrc hc ha
    by_cases h9 : n < l
    · have m9 : min l n = n := by omega
      rw [m9]
      have g1 : (n : Int) < l := by omega
      have g2 : (n : Int) ≤ cap := by omega
      go_enter Try.func40, Try.ntmps40
      go_wp2_with (first | (at_builtin; refine wpList_append_own _ rfl _ _ 22 rfl w.heap.size 3 i1 (.int .i64 0) 1 8 Try.underlying22 hi hz0 hz1 hz2 rfl (by decide) _ _ _ rfl hO ad n cap (intsL f n) rfl (by rw [intsL_len]; omega) (HS.out n (by omega)) intsL_one (by unfold maxLen; omega) (by omega) hs0 ?_))
      intro v' w2 hO2 hgr _
      go_wp2_with fail
      go_ret
      exact ⟨_, rfl, by simpa using hO2, hk0.step (grew_X hgr hO) (fun i hi => by omega)⟩
    · have m9 : min l n = l := by omega
      rw [m9]
      have g1 : ¬ (n : Int) < l := by omega
      have g2 : (l : Int) ≤ cap := by omega
      go_enter Try.func40, Try.ntmps40
      go_wp2_with (first | (at_builtin; refine wpList_append_own _ rfl _ _ 22 rfl w.heap.size 3 i1 (.int .i64 0) 1 8 Try.underlying22 hi hz0 hz1 hz2 rfl (by decide) _ _ _ rfl hO ad l cap (intsL f l) rfl (by rw [intsL_len]; omega) (HS.out l (by omega)) intsL_one (by unfold maxLen; omega) (by omega) hs0 ?_))
      intro v' w2 hO2 hgr _
      go_wp2_with fail
      go_ret
      exact ⟨_, rfl, by simpa using hO2, hk0.step (grew_X hgr hO) (fun i hi => by omega)⟩
set_option maxRecDepth 100000 in
theorem in_any (w : World) (v lo hi : Int) : Calls Try.prog 49 #[.int .i64 v, .int .i64 lo, .int .i64 hi] w fun e w' => e = .returned (.bool (decide (lo ≤ v) && decide (v ≤ hi))) ∧ w = w' := by
  cases e1 : decide (lo ≤ v) <;> cases e2 : decide (v ≤ hi)
  all_goals
    go_enter Try.func49, Try.ntmps49
    go_wp2
    go_ret
    exact ⟨rfl, rfl⟩
end Go.Proofs.Ytlgpclnmonpkjaa
