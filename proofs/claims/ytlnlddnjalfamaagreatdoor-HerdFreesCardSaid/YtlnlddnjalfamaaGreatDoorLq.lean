/-
  HerdFrees.
-/
import Derived.Test.YtlnlddnjalfamaaGreatDoorLo
import Derived.Test.YtlnlddnjalfamaaGreatDoorJd
import Derived.Test.YtlnlddnjalfamaaGreatDoorKc
import Derived.Test.YtlnlddnjalfamaaGreatDoorKd
import Derived.Test.YtlnlddnjalfamaaGreatDoorIm
namespace Go.Proofs.YtlnlddnjalfamaaGreatDoor
open Go.RowKit Go.Deep

set_option maxRecDepth 100000 in
set_option maxHeartbeats 16000000 in
theorem hfrees_any (w : World) (n r : Int) (hn : -9223372036854775808 ≤ n ∧ n ≤ 9223372036854775807) (a : Option Addr) (l cap : Nat) (A B : Nat → Int) (hE : PairsAt w (.slice a l cap) l A B) (hl : l ≤ cap) (hnil : a = none → cap = 0) (hcap : cap ≤ maxLen) :
    Calls Tryz.prog 6 #[.agg #[.int .i64 n, .slice a l cap], .int .i64 r] w (LivesPost w) := by
  have LV := Lib.hid lives_any
  obtain ⟨k, hk⟩ : ∃ k, k = min l 101 := ⟨_, rfl⟩
  have hk101 : k ≤ 101 := by omega
  have FW := Lib.hid (fun W (h : PairsAt W (.slice a l cap) l A B) => few_any W n a l cap k A B hk h hl hnil hcap)
  have RH := Lib.hid (fun W v (h : PairsAt W v k A B) => refHerd_any W n hn v k A B h (by omega))
  have FA0 := fun W v (h : PairsAt W v k A B) => Free_any W n r v k A B h (by omega)
  unfold FreeAns at FA0
  have hK0 : Kept w (w.alloc (.cells #[.int .i64 n, .slice a l cap] 24)) := (Kept.refl w).alloc _
  have hE0 := hE.kept hK0
  have HG := Lib.hid (show goodH n A B k = true → (1 ≤ n ∧ n ≤ 9) ∧ allN (pairB n A B) k = true by
    intro h
    unfold goodH at h
    simp only [Bool.and_eq_true, decide_eq_true_eq] at h
    exact ⟨h.1.1, h.2⟩)
  obtain ⟨gb, HGB⟩ : ∃ gb, Hid (gb = goodH n A B k) := ⟨_, rfl⟩
  obtain ⟨rb, HRB⟩ : ∃ gb, Hid (gb = withinB r 9) := ⟨_, rfl⟩
  have hrt : rb = true → 1 ≤ r ∧ r ≤ 9 := fun h => by rw [HRB.out] at h; unfold withinB at h; simpa using h
  have hrf : rb = false → r < 1 ∨ ¬ r < 1 ∧ 9 < r := fun h => by rw [HRB.out] at h; unfold withinB at h; simp at h; omega
  rw [← HGB.out] at RH FA0 HG
  rw [← HRB.out] at FA0
  clear HGB HRB hE hk hnil hcap hl
  cases gb with
  | false =>
    simp only [Bool.false_and, Bool.false_eq_true, if_false] at FA0
    have FA := Lib.hid FA0
    clear FA0 hrt hrf
    go_enter Tryz.func6, Tryz.ntmps6
    go_wp2_with (first | (go_at_call 9; refine (FW.out _ hE0).mono ?_; clear FW; rintro e w1 ⟨ea, ecap, rfl, hE1, hk1⟩) | (go_at_call 31; refine (FA.out _ _ hE1).mono ?_; clear FA; rintro e w2 ⟨hk2, rfl⟩) | (go_at_call 13; refine (RH.out _ _ (hE1.kept hk2)).mono ?_; clear RH; rintro e w3 ⟨rfl, hq3⟩) | (go_at_call 14; refine (LV.out _).mono ?_; rintro e w4 ⟨rfl, hk4⟩))
    go_ret
    exact ⟨rfl, (((hK0.trans hk1).trans hk2).trans hq3.kept).trans hk4⟩
  | true =>
    obtain ⟨⟨hn1, hn9⟩, hp⟩ := HG.out rfl
    obtain ⟨N, rfl⟩ : ∃ N : Nat, n = N := ⟨n.toNat, by omega⟩
    simp only [Int.toNat_natCast, Bool.true_and] at FA0
    cases rb with
    | false =>
      simp only [Bool.false_eq_true, if_false] at FA0
      have FA := Lib.hid FA0
      have hr := hrf rfl
      clear FA0 hrt hrf HG hp
      rcases hr with f1 | ⟨f1, f2⟩
      all_goals
        go_enter Tryz.func6, Tryz.ntmps6
        go_wp2_with (first | (go_at_call 9; refine (FW.out _ hE0).mono ?_; clear FW; rintro e w1 ⟨ea, ecap, rfl, hE1, hk1⟩) | (go_at_call 31; refine (FA.out _ _ hE1).mono ?_; clear FA; rintro e w2 ⟨hk2, rfl⟩) | (go_at_call 13; refine (RH.out _ _ (hE1.kept hk2)).mono ?_; clear RH; rintro e w3 ⟨rfl, hq3⟩) | (go_at_call 14; refine (LV.out _).mono ?_; rintro e w4 ⟨rfl, hk4⟩))
        go_ret
        exact ⟨rfl, (((hK0.trans hk1).trans hk2).trans hq3.kept).trans hk4⟩
    | true =>
      obtain ⟨hr1, hr9⟩ := hrt rfl
      obtain ⟨R, rfl⟩ : ∃ R : Nat, r = R := ⟨r.toNat, by omega⟩
      simp only [Int.toNat_natCast, if_true] at FA0
      have RF := Lib.hid (fun W v (h : PairsAt W v k A B) => refFree_any W N R v k A B (by omega) (by omega) h (by omega) hp)
      unfold RFreePost at RF
      have hll : (frL N R (pairsH (alongH A B k) N)).length ≤ 1000000 := by
        have h1 := (frL_sub N R (pairsH (alongH A B k) N)).length_le
        have h2 := pairsH_len (alongH A B k) N
        omega
      obtain ⟨L, HL⟩ : ∃ L, Hid (L = frL N R (pairsH (alongH A B k) N)) := ⟨_, rfl⟩
      rw [← HL.out] at FA0 RF hll
      have FA := Lib.hid FA0
      have SP := Lib.hid (fun W u v h1 h2 => SamePairs_any W u v L h1 h2 hll)
      have f1 : ¬ (R : Int) < 1 := by omega
      have f2 : ¬ (9 : Int) < (R : Int) := by omega
      clear FA0 hrt hrf HG hp HL hll
      go_enter Tryz.func6, Tryz.ntmps6
      go_wp2_with (first | (go_at_call 9; refine (FW.out _ hE0).mono ?_; clear FW; rintro e w1 ⟨ea, ecap, rfl, hE1, hk1⟩) | (go_at_call 31; refine (FA.out _ _ hE1).mono ?_; clear FA; rintro e w2 ⟨hk2, fa, fcap, rfl, _, hv2⟩) | (go_at_call 13; refine (RH.out _ _ (hE1.kept hk2)).mono ?_; clear RH; rintro e w3 ⟨rfl, hq3⟩) | (go_at_call 33; refine (RF.out _ _ ((hE1.kept hk2).kept hq3.kept)).mono ?_; clear RF; rintro e w5 ⟨a5, cap5, rfl, hv5, hk5⟩) | (go_at_call 32; refine (SP.out _ _ _ (PairsAt.kept (PairsAt.kept hv2 hq3.kept) hk5) hv5).mono ?_; clear SP; rintro e w6 ⟨rfl, hq6⟩) | (go_at_call 14; refine (LV.out _).mono ?_; rintro e w4 ⟨rfl, hk4⟩))
      go_ret
      exact ⟨rfl, (((((hK0.trans hk1).trans hk2).trans hq3.kept).trans hk5).trans hq6.kept).trans hk4⟩
end Go.Proofs.YtlnlddnjalfamaaGreatDoor
