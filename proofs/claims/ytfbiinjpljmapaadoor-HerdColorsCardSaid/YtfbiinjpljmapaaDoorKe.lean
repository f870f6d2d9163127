/-
  HerdColors.
-/
import Derived.Test.YtfbiinjpljmapaaDoorKb
import Derived.Test.YtfbiinjpljmapaaDoorKc
import Derived.Test.YtfbiinjpljmapaaDoorKd
import Derived.Test.YtfbiinjpljmapaaDoorIm
namespace Go.Proofs.YtfbiinjpljmapaaDoor
open Go.RowKit Go.Deep

set_option maxRecDepth 100000 in
set_option maxHeartbeats 16000000 in
theorem hcolors_any (w : World) (n : Int) (hn : -9223372036854775808 ≤ n ∧ n ≤ 9223372036854775807) (a : Option Addr) (l cap : Nat) (A B : Nat → Int) (hE : PairsAt w (.slice a l cap) l A B) (hl : l ≤ cap) (hnil : a = none → cap = 0) (hcap : cap ≤ maxLen) :
    Calls Tryd.prog 3 #[.agg #[.int .i64 n, .slice a l cap]] w (LivesPost w) := by
  have LV := Lib.hid lives_any
  obtain ⟨k, hk⟩ : ∃ k, k = min l 101 := ⟨_, rfl⟩
  have hk101 : k ≤ 101 := by omega
  have FW := Lib.hid (fun W (h : PairsAt W (.slice a l cap) l A B) => few_any W n a l cap k A B hk h hl hnil hcap)
  have RH := Lib.hid (fun W v (h : PairsAt W v k A B) => refHerd_any W n hn v k A B h (by omega))
  have CA := Lib.hid (fun W v (h : PairsAt W v k A B) => Colors_any W n v k A B h (by omega))
  unfold ColorsAns at CA
  have hK0 : Kept w (w.alloc (.cells #[.int .i64 n, .slice a l cap] 24)) := (Kept.refl w).alloc _
  have hE0 := hE.kept hK0
  have HG := Lib.hid (show goodH n A B k = true → (1 ≤ n ∧ n ≤ 9) ∧ allN (pairB n A B) k = true by
    intro h
    unfold goodH at h
    simp only [Bool.and_eq_true, decide_eq_true_eq] at h
    exact ⟨h.1.1, h.2⟩)
  obtain ⟨gb, HGB⟩ : ∃ gb, Hid (gb = goodH n A B k) := ⟨_, rfl⟩
  rw [← HGB.out] at RH CA HG
  clear HGB hE hk hnil hcap hl
  cases gb with
  | false =>
    go_enter Tryd.func3, Tryd.ntmps3
    go_wp2_with (first | (go_at_call 11; refine (FW.out _ hE0).mono ?_; clear FW; rintro e w1 ⟨ea, ecap, rfl, hE1, hk1⟩) | (go_at_call 12; refine (CA.out _ _ hE1).mono ?_; clear CA; rintro e w2 ⟨hk2, he⟩; rw [if_neg (by simp)] at he; subst he) | (go_at_call 13; refine (RH.out _ _ (hE1.kept hk2)).mono ?_; clear RH; rintro e w3 ⟨rfl, hq3⟩) | (go_at_call 14; refine (LV.out _).mono ?_; rintro e w4 ⟨rfl, hk4⟩))
    go_ret
    exact ⟨rfl, (((hK0.trans hk1).trans hk2).trans hq3.kept).trans hk4⟩
  | true =>
    obtain ⟨⟨hn1, hn9⟩, hp⟩ := HG.out rfl
    obtain ⟨N, rfl⟩ : ∃ N : Nat, n = N := ⟨n.toNat, by omega⟩
    simp only [Int.toNat_natCast] at CA
    have hsym := adj_sym (n := (N : Int)) k N hp
    have hF : ∀ i j, i < N → j < N → adjP A B k i j = (alongH A B k j).testBit i := fun i j hi hj => by
      rw [along_adj k hp j i, hsym.sym i j hi hj]
    have AL := Lib.hid (fun W v (h : PairsAt W v k A B) => Along_any W N v k A B (by omega) (by omega) h (by omega) hp)
    unfold AlongPost at AL
    have RC := Lib.hid (fun W v (h : GridAt W v N (adjP A B k)) => refColors_any W v N (adjP A B k) (alongH A B k) h (by omega) (by omega) hF)
    unfold RColsPost at RC
    have SA := Lib.hid (fun W va vb d (hd : d.length = N) (h1 : IntsAt W va N (fun i => ((lget d i : Nat) : Int))) (h2 : NatsAt W vb d) => show Calls Tryd.prog 15 #[va, vb] W fun e w' => e = .returned (.bool true) ∧ Quiet W w' by
      have h3 := same_any W va vb N d.length _ _ h1 h2 (by omega) (by omega)
      rw [hd] at h3
      have h4 := same_self N (fun i => ((lget d i : Nat) : Int))
      exact h3.mono (fun e w' ⟨h5, h6⟩ => ⟨h5.trans (by rw [show same N (fun i => ((lget d i : Nat) : Int)) N (fun i => ((d.getD i 0 : Nat) : Int)) = true from h4]), h6⟩))
    clear HG hsym hF hp
    go_enter Tryd.func3, Tryd.ntmps3
    go_wp2_with (first | (go_at_call 11; refine (FW.out _ hE0).mono ?_; clear FW; rintro e w1 ⟨ea, ecap, rfl, hE1, hk1⟩) | (go_at_call 12; refine (CA.out _ _ hE1).mono ?_; clear CA; rintro e w2 ⟨hk2, he⟩; rw [if_pos trivial] at he; obtain ⟨cv, d, rfl, hd, hcv⟩ := he; have hdl := Lib.hid hd.len) | (go_at_call 13; refine (RH.out _ _ (hE1.kept hk2)).mono ?_; clear RH; rintro e w3 ⟨rfl, hq3⟩) | (go_at_call 17; refine (AL.out _ _ ((hE1.kept hk2).kept hq3.kept)).mono ?_; clear AL; rintro e w5 ⟨v5, rfl, hg5, hk5⟩) | (go_at_call 16; refine (RC.out _ _ hg5).mono ?_; clear RC; rintro e w6 ⟨v6, d6, rfl, hd6, hv6, hk6⟩; have hdd := ColorsIs.uniq hd6 hd; subst hdd) | (go_at_call 15; refine (SA.out _ _ _ _ hdl.out (CellsAt.kept hcv ((hq3.kept.trans hk5).trans hk6)) hv6).mono ?_; clear SA; rintro e w7 ⟨rfl, hq7⟩) | (go_at_call 14; refine (LV.out _).mono ?_; rintro e w4 ⟨rfl, hk4⟩))
    go_ret
    exact ⟨rfl, ((((((hK0.trans hk1).trans hk2).trans hq3.kept).trans hk5).trans hk6).trans hq7.kept).trans hk4⟩
end Go.Proofs.YtfbiinjpljmapaaDoor
