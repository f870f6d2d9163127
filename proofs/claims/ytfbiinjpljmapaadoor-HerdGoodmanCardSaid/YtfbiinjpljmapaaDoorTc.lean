/-
  Naturals of package herd: compare.
-/
import Derived.Test.YtfbiinjpljmapaaDoorTb
namespace Go.Proofs.YtfbiinjpljmapaaDoor
open Go.RowKit Go.Deep

def CmpPost (w : World) (x y : Int) (e : Ending) (w' : World) : Prop := ∃ r : Int, e = .returned (.int .i64 r) ∧ Kept w w' ∧ (r < 0 ↔ x < y) ∧ (r = 0 ↔ x = y) ∧ -2000 ≤ r ∧ r ≤ 2000
theorem cmp_ret {w w' : World} {x y r : Int} (hk : Kept w w') (h1 : -2000 ≤ r) (h2 : r ≤ 2000) (h : (r < 0 ∧ x < y) ∨ (r = 0 ∧ x = y) ∨ (0 < r ∧ y < x)) : CmpPost w x y (.returned (.int .i64 r)) w' :=
  ⟨r, rfl, hk, by omega, by omega, h1, h2⟩
set_option maxRecDepth 100000 in
set_option maxHeartbeats 8000000 in
theorem compare_any (w : World) (va vb : Value) (x y : Int) (hx : NatAt w va x) (hy : NatAt w vb y) :
    Calls Tryd.prog 74 #[va, vb] w (CmpPost w x y) := by
  obtain ⟨n, D, ⟨a, cap, rfl, _, _, _, ⟨_, b, o, _, e, ha, hc⟩⟩, hL, rfl, hn⟩ := hx
  cases e
  obtain ⟨m, E, ⟨a2, cap2, rfl, _, _, _, ⟨_, b2, o2, _, e, ha2, hc2⟩⟩, hL2, rfl, hm⟩ := hy
  cases e
  have HC := Lib.hid hc
  have HC2 := Lib.hid hc2
  have HL := Lib.hid hL
  have HL2 := Lib.hid hL2
  clear hc hc2 hL hL2
  by_cases hnm : n = m
  · subst hnm
    go_enter Tryd.func74, Tryd.ntmps74
    go_wp2_with fail
    go_loopg [5] (n + 1) (fun g s5 wr => ∃ k : Nat, k ≤ n ∧ g = k + 1 ∧ s5 = .int .i64 ((k : Int) - 1) ∧ Kept w wr ∧ Hid (∀ i, k ≤ i → i < n → D i = E i))
    case atStart => exact ⟨n, Nat.le_refl _, rfl, rfl, Kept.refl _, fun i h1 h2 => absurd h1 (by omega)⟩
    case round =>
      obtain ⟨k, hk, rfl, rfl, hK, hZ⟩ := hrel
      by_cases h0 : 0 < k
      · obtain rfl := ha (by omega)
        obtain rfl := ha2 (by omega)
        obtain ⟨j, rfl⟩ : ∃ j, k = j + 1 := ⟨k - 1, by omega⟩
        have t0 := hK.cellSome (HC.out j (by omega))
        have t1 := hK.cellSome (HC2.out j (by omega))
        obtain ⟨p, HP⟩ : ∃ x, Hid (x = D j) := ⟨_, rfl⟩
        obtain ⟨q, HQ⟩ : ∃ x, Hid (x = E j) := ⟨_, rfl⟩
        rw [← HP.out] at t0
        rw [← HQ.out] at t1
        have ec : ((j + 1 : Nat) : Int) - 1 = (j : Int) := by omega
        rw [ec]
        have s1 : (j : Int) < (n : Int) := by omega
        have s2 : (0 : Int) ≤ (j : Int) := by omega
        clear ec
        by_cases hlt : p < q
        · have hd : decide (p < q) = true := decide_eq_true hlt
          have hV : Hid (valN D n < valN E n) := by
            have := valN_cmp (D := D) (E := E) (k := j) (n - (j + 1)) (fun i hi => HL.out.1 i (by omega)) (fun i hi => HL2.out.1 i (by omega)) (fun i h1 h2 => hZ.out i (by omega) (by omega)) (by rw [← HP.out, ← HQ.out]; exact hlt)
            rw [show j + 1 + (n - (j + 1)) = n by omega] at this
            exact this
          clear HP HQ hZ
          go_wp2_with fail
          go_quiet (fail)
          go_wp2_with fail
          go_ret
          exact cmp_ret (by repeat (first | assumption | exact Kept.refl _ | apply Kept.drew | apply Kept.drewN | apply Kept.alloc | refine Kept.trans ?_ (by assumption))) (by omega) (by omega) (Or.inl ⟨by omega, hV.out⟩)
        · have hd : decide (p < q) = false := decide_eq_false hlt
          by_cases hgt : q < p
          · have hd2 : decide (p > q) = true := decide_eq_true hgt
            have hV : Hid (valN E n < valN D n) := by
              have := valN_cmp (D := E) (E := D) (k := j) (n - (j + 1)) (fun i hi => HL2.out.1 i (by omega)) (fun i hi => HL.out.1 i (by omega)) (fun i h1 h2 => (hZ.out i (by omega) (by omega)).symm) (by rw [← HP.out, ← HQ.out]; exact hgt)
              rw [show j + 1 + (n - (j + 1)) = n by omega] at this
              exact this
            clear HP HQ hZ
            go_wp2_with fail
            go_quiet (fail)
            go_wp2_with fail
            go_quiet (fail)
            go_wp2_with fail
            go_ret
            exact cmp_ret (by repeat (first | assumption | exact Kept.refl _ | apply Kept.drew | apply Kept.drewN | apply Kept.alloc | refine Kept.trans ?_ (by assumption))) (by omega) (by omega) (Or.inr (Or.inr ⟨by omega, hV.out⟩))
          · have hd2 : decide (p > q) = false := decide_eq_false hgt
            have hZ2 : Hid (∀ i, j ≤ i → i < n → D i = E i) := fun i h1 h2 => by
              by_cases e : i = j
              · rw [e, ← HP.out, ← HQ.out]; omega
              · exact hZ.out i (by omega) h2
            clear HP HQ hZ
            go_wp2_with fail
            go_quiet (fail)
            go_wp2_with fail
            go_quiet (fail)
            go_wp2_with fail
            go_roundg (j + 1)
            case measure => omega
            case rel => exact ⟨j, by omega, rfl, rfl, (by repeat (first | assumption | exact Kept.refl _ | apply Kept.drew | apply Kept.drewN | apply Kept.alloc | refine Kept.trans ?_ (by assumption))), hZ2.out⟩
      · obtain rfl : k = 0 := by omega
        have hV : Hid (valN D n = valN E n) := valN_congr (fun i hi => hZ.out i (by omega) hi)
        go_wp2_with fail
        go_ret
        exact cmp_ret hK (by omega) (by omega) (Or.inr (Or.inl ⟨rfl, hV.out⟩))
  · have hV : Hid (((n : Int) - m < 0 ∧ valN D n < valN E m) ∨ ((n : Int) - m = 0 ∧ valN D n = valN E m) ∨ (0 < (n : Int) - m ∧ valN E m < valN D n)) := by
      rcases Nat.lt_or_ge n m with h | h
      · exact Or.inl ⟨by omega, lean_lenN HL.out.1 HL2.out h⟩
      · exact Or.inr (Or.inr ⟨by omega, lean_lenN HL2.out.1 HL.out (by omega)⟩)
    have hne : ((n : Int) != (m : Int)) = true := by simp; omega
    have hw : IntKind.i64.wrap ((n : Int) - (m : Int)) = (n : Int) - m := IntWalk.i64_in _ (by omega)
    go_enter Tryd.func74, Tryd.ntmps74
    go_wp2_with fail
    go_ret
    exact cmp_ret (Kept.refl _) (by omega) (by omega) hV.out
end Go.Proofs.YtfbiinjpljmapaaDoor
