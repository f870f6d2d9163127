/-
  The reference's numbers of any size: sizes, plus and less.
-/
import Derived.Test.YtomnjcjipdnnfaaZa
import Derived.Test.YtomnjcjipdnnfaaIn
namespace Go.Proofs.Ytomnjcjipdnnfaa
open Go.RowKit Go.Deep

theorem cmpI_lt {x y : Int} (h : x < y) : cmpI x y = -1 := if_pos h
theorem cmpI_gt {x y : Int} (h : y < x) : cmpI x y = 1 := by unfold cmpI; rw [if_neg (by omega), if_pos h]
theorem cmpI_eq {x y : Int} (h : x = y) : cmpI x y = 0 := by unfold cmpI; rw [if_neg (by omega), if_neg (by omega)]
theorem valZ_cmp2 {D E : Nat → Int} {n c : Nat} (hc : c < n) (hD : DigZ D n) (hE : DigZ E n) (h : ∀ i, c < i → i < n → D i = E i) (hlt : D c < E c) : valZ D n < valZ E n := by
  have := valZ_cmp (D := D) (E := E) (k := c) (n - (c + 1)) (fun i hi => hD i (by omega)) (fun i hi => hE i (by omega)) (fun i h1 h2 => h i h1 (by omega)) hlt
  rwa [show c + 1 + (n - (c + 1)) = n by omega] at this
set_option maxRecDepth 100000 in
set_option maxHeartbeats 2000000 in
theorem sizes_any (w : World) (va vb : Value) (la lb : Nat) (D E : Nat → Int) (ha : IntsAt w va la D) (hb : IntsAt w vb lb E) (hD : LeanZ D la) (hE : LeanZ E lb) (hla : la ≤ 1000000) (hlb : lb ≤ 1000000) :
    Calls Try.prog 86 #[va, vb] w fun e w' => e = .returned (.int .i64 (cmpI (valZ D la) (valZ E lb))) ∧ Quiet w w' := by
  obtain ⟨a, b, o, cap, rfl, ha, hc⟩ := ha
  obtain ⟨a2, b2, o2, cap2, rfl, ha2, hc2⟩ := hb
  have HD := Lib.hid hD
  have HE := Lib.hid hE
  have HC := Lib.hid hc
  have HC2 := Lib.hid hc2
  clear hD hE hc hc2
  by_cases hlen : la = lb
  · subst hlen
    obtain ⟨R, HR⟩ : ∃ R, Hid (R = cmpI (valZ D la) (valZ E la)) := ⟨_, rfl⟩
    rw [← HR.out]
    have z1 : ((la : Int) != (la : Int)) = false := by simp
    go_enter Try.func86, Try.ntmps86
    go_wp2
    go_loopg [5] la (fun g s5 wr => ∃ t : Nat, t ≤ la ∧ g = la - t ∧ s5 = .int .i64 ((la : Int) - 1 - t) ∧ Hid (∀ i, la - t ≤ i → i < la → D i = E i) ∧ Quiet w wr)
    case atStart => exact ⟨0, Nat.zero_le _, rfl, by go_num, (fun i h1 h2 => by omega), Quiet.refl _⟩
    case round =>
      obtain ⟨t, ht, rfl, rfl, hH, hq⟩ := hrel
      by_cases hlt : t < la
      · obtain ⟨c, hcc⟩ : ∃ c, c = la - 1 - t := ⟨_, rfl⟩
        have ec : (la : Int) - 1 - (t : Int) = (c : Int) := by omega
        obtain rfl := ha (by omega)
        obtain rfl := ha2 (by omega)
        have h1 := hq.kept.cellSome (HC.out c (by omega))
        have h2 := hq.kept.cellSome (HC2.out c (by omega))
        have s1 : (c : Int) < (la : Int) := by omega
        have s2 : (0 : Int) ≤ (c : Int) := by omega
        have HCC := Lib.hid hcc
        have hL : Hid (D c < E c → R = -1) := fun h => by rw [HR.out]; exact cmpI_lt (valZ_cmp2 (by omega) HD.out.1 HE.out.1 (fun i a b => hH.out i (by omega) b) h)
        have hG : Hid (E c < D c → R = 1) := fun h => by rw [HR.out]; exact cmpI_gt (valZ_cmp2 (by omega) HE.out.1 HD.out.1 (fun i a b => (hH.out i (by omega) b).symm) h)
        have hN : Hid (D c = E c → ∀ i, la - (t + 1) ≤ i → i < la → D i = E i) := fun h i a b => by
          by_cases e : i = c
          · subst e; exact h
          · exact hH.out i (by omega) b
        obtain ⟨x, HX⟩ : ∃ x, Hid (x = D c) := ⟨_, rfl⟩
        obtain ⟨y, HY⟩ : ∃ y, Hid (y = E c) := ⟨_, rfl⟩
        rw [← HX.out] at h1 hL hG hN
        rw [← HY.out] at h2 hL hG hN
        rw [ec]
        clear ha ha2 hcc ec
        go_wp2
        by_cases e1 : x < y
        · have d1 : decide (x < y) = true := decide_eq_true e1
          have hR := hL.out e1
          have HR2 := Lib.hid hR
          clear hR hL hG hN
          go_quiet (fail)
          go_wp2
          go_ret
          exact ⟨ret_int HR2.out.symm, by repeat (first | exact hq | apply Quiet.drewN | apply Quiet.drew)⟩
        · have d1 : decide (x < y) = false := decide_eq_false e1
          go_quiet (fail)
          go_wp2
          by_cases e2 : y < x
          · have d2 : decide (y < x) = true := decide_eq_true e2
            have hR := hG.out e2
            have HR2 := Lib.hid hR
            clear hR hL hG hN
            go_quiet (fail)
            go_wp2
            go_ret
            exact ⟨ret_int HR2.out.symm, by repeat (first | exact hq | apply Quiet.drewN | apply Quiet.drew)⟩
          · have d2 : decide (y < x) = false := decide_eq_false e2
            have hn := hN.out (by omega)
            have HN2 := Lib.hid hn
            have ec : (c : Int) - 1 = (la : Int) - 1 - ((t + 1 : Nat) : Int) := by have := HCC.out; omega
            have hEC := Lib.hid ec
            clear hL hG hN hn ec
            go_quiet (fail)
            go_wp2
            go_roundg (la - (t + 1))
            case measure => omega
            case rel => exact ⟨t + 1, by omega, rfl, by rw [← hEC.out], HN2.out, by repeat (first | exact hq | apply Quiet.drewN | apply Quiet.drew)⟩
      · have ec : (la : Int) - 1 - (t : Int) = -1 := by omega
        rw [ec]
        have hR : R = 0 := by rw [HR.out]; exact cmpI_eq (valZ_congr (fun i hi => hH.out i (by omega) hi))
        subst hR
        clear ec
        go_wp2
        go_ret
        exact ⟨rfl, hq⟩
  · have z1 : ((la : Int) != (lb : Int)) = true := by simp; omega
    by_cases hlt : la < lb
    · rw [cmpI_lt (lean_len HD.out.1 HE.out hlt)]
      have s1 : (la : Int) < (lb : Int) := by omega
      go_enter Try.func86, Try.ntmps86
      go_wp2
      go_ret
      exact ⟨rfl, Quiet.refl _⟩
    · rw [cmpI_gt (lean_len HE.out.1 HD.out (by omega))]
      have s1 : ¬ (la : Int) < (lb : Int) := by omega
      go_enter Try.func86, Try.ntmps86
      go_wp2
      go_ret
      exact ⟨rfl, Quiet.refl _⟩
end Go.Proofs.Ytomnjcjipdnnfaa
