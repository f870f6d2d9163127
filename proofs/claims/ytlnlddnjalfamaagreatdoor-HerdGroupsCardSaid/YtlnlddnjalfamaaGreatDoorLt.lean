/-
  HerdGroups.
-/
import Derived.Test.YtlnlddnjalfamaaGreatDoorLs
import Derived.Test.YtlnlddnjalfamaaGreatDoorLr
import Derived.Test.YtlnlddnjalfamaaGreatDoorLo
import Derived.Test.YtlnlddnjalfamaaGreatDoorKc
import Derived.Test.YtlnlddnjalfamaaGreatDoorKd
import Derived.Test.YtlnlddnjalfamaaGreatDoorIm
namespace Go.Proofs.YtlnlddnjalfamaaGreatDoor
open Go.RowKit Go.Deep

theorem tri_T3 {H : Nat → Nat} {F : Nat → Nat → Bool} {n : Nat} (hn : n ≤ 9) (hs : Sym F n) (hH : ∀ i, i < n → H i < 65536) (hF : ∀ i j, (H i).testBit j = F i j) : triH H n = T3 F n ∧ triH (oppH H n) n = T3 (fun i j => !F i j) n := by
  constructor
  · rw [triH_sum H (by omega), T3_sum (fun i j hi hj _ => hs.sym i j hi hj)]
    exact S3_congr fun i j k _ _ _ => by rw [hF, hF, hF]
  · rw [triH_sum (oppH H n) (by omega), T3_sum (F := fun i j => !F i j) (fun i j hi hj _ => by rw [hs.sym i j hi hj])]
    refine S3_congr fun i j k hi hj hk => ?_
    rw [oppH_bit (by omega) hi (hH i hi), oppH_bit (by omega) hi (hH i hi), oppH_bit (by omega) hj (hH j hj), hF, hF, hF]
    cases e : risB i j k with
    | false => rfl
    | true =>
      unfold risB at e
      simp only [Bool.and_eq_true, decide_eq_true_eq] at e
      simp [hj, hk, show ¬ i = j by omega, show ¬ i = k by omega, show ¬ j = k by omega]
set_option maxRecDepth 100000 in
set_option maxHeartbeats 16000000 in
theorem hgroups_any (w : World) (n : Int) (hn : -9223372036854775808 ≤ n ∧ n ≤ 9223372036854775807) (a : Option Addr) (l cap : Nat) (A B : Nat → Int) (hE : PairsAt w (.slice a l cap) l A B) (hl : l ≤ cap) (hnil : a = none → cap = 0) (hcap : cap ≤ maxLen) :
    Calls Tryz.prog 3 #[.agg #[.int .i64 n, .slice a l cap]] w (LivesPost w) := by
  have LV := Lib.hid lives_any
  obtain ⟨k, hk⟩ : ∃ k, k = min l 101 := ⟨_, rfl⟩
  have hk101 : k ≤ 101 := by omega
  have FW := Lib.hid (fun W (h : PairsAt W (.slice a l cap) l A B) => few_any W n a l cap k A B hk h hl hnil hcap)
  have RH := Lib.hid (fun W v (h : PairsAt W v k A B) => refHerd_any W n hn v k A B h (by omega))
  have GA0 := fun W v (h : PairsAt W v k A B) => Group_any W n v k A B h (by omega)
  have GS0 := fun W v (h : PairsAt W v k A B) => Groups_any W n v k A B h (by omega)
  have TA0 := fun W v (h : PairsAt W v k A B) => Triples_any W n v k A B h (by omega)
  unfold GroupAns at GA0
  unfold GroupsAns at GS0
  unfold TriplesPost at TA0
  have hK0 : Kept w (w.alloc (.cells #[.int .i64 n, .slice a l cap] 24)) := (Kept.refl w).alloc _
  have hE0 := hE.kept hK0
  have HG := Lib.hid (show goodH n A B k = true → (1 ≤ n ∧ n ≤ 9) ∧ allN (pairB n A B) k = true by
    intro h
    unfold goodH at h
    simp only [Bool.and_eq_true, decide_eq_true_eq] at h
    exact ⟨h.1.1, h.2⟩)
  obtain ⟨gb, HGB⟩ : ∃ gb, Hid (gb = goodH n A B k) := ⟨_, rfl⟩
  rw [← HGB.out] at RH GA0 GS0 TA0 HG
  clear HGB hE hk hnil hcap hl
  cases gb with
  | false =>
    simp only [Bool.false_eq_true, if_false] at GA0 GS0 TA0
    have GA := Lib.hid GA0
    have GS := Lib.hid GS0
    have TA := Lib.hid TA0
    clear GA0 GS0 TA0 HG
    go_enter Tryz.func3, Tryz.ntmps3
    go_wp2_with (first | (go_at_call 9; refine (FW.out _ hE0).mono ?_; clear FW; rintro e w1 ⟨ea, ecap, rfl, hE1, hk1⟩) | (go_at_call 10; refine (GA.out _ _ hE1).mono ?_; clear GA; rintro e w2 ⟨hk2, rfl⟩; have hE2 := hE1.kept hk2) | (go_at_call 11; refine (GS.out _ _ hE2).mono ?_; clear GS; rintro e w3 ⟨hk3, rfl⟩; have hE3 := hE2.kept hk3) | (go_at_call 12; refine (TA.out _ _ hE3).mono ?_; clear TA; rintro e w4 ⟨hk4, rfl⟩; have hE4 := hE3.kept hk4) | (go_at_call 13; refine (RH.out _ _ hE4).mono ?_; clear RH; rintro e w5 ⟨rfl, hq5⟩) | (go_at_call 14; refine (LV.out _).mono ?_; rintro e w6 ⟨rfl, hk6⟩))
    go_ret
    exact ⟨rfl, (((((hK0.trans hk1).trans hk2).trans hk3).trans hk4).trans hq5.kept).trans hk6⟩
  | true =>
    obtain ⟨⟨hn1, hn9⟩, hp⟩ := HG.out rfl
    obtain ⟨N, rfl⟩ : ∃ N : Nat, n = N := ⟨n.toNat, by omega⟩
    simp only [Int.toNat_natCast, if_true] at GA0 GS0 TA0
    have hsym := adj_sym (n := (N : Int)) k N hp
    have hlts := alongH_lt (n := N) (k := k) (by omega) hp
    have hF : ∀ i j, (alongH A B k i).testBit j = adjP A B k i j := fun i j => along_adj (n := (N : Int)) k hp i j
    obtain ⟨htr1, htr2⟩ := tri_T3 (n := N) (by omega) hsym hlts hF
    have hrb := rbest_best (n := N) (by omega) hsym (fun i j _ _ => hF i j)
    obtain ⟨hgl, hgg⟩ := rgs_all (n := N) (by omega) hsym (fun i j _ _ => hF i j)
    have hbl : horsesL (best (alongH A B k) N) 9 = horsesL (best (alongH A B k) N) N := filt_ext (fun t ht => by
      cases e : (best (alongH A B k) N).testBit t with
      | false => rfl
      | true => have := (best_spec (alongH A B k) (show N ≤ 14 by omega)).1.1 t e; omega) 9 (by omega)
    have hsz : size16 (best (alongH A B k) N) ≤ 16 := cnt_le _ _
    have AL := Lib.hid (fun W v (h : PairsAt W v k A B) => Along_any W N v k A B (by omega) (by omega) h (by omega) hp)
    unfold AlongPost at AL
    have RG := Lib.hid (fun W v (h : GridAt W v N (adjP A B k)) => refGroup_any W v N _ h (by omega))
    have RS := Lib.hid (fun W v (h : GridAt W v N (adjP A B k)) => refGroups_any W v N _ h (by omega))
    have RT := Lib.hid (fun W v (h : GridAt W v N (adjP A B k)) => refTriples_any W v N _ h (by omega))
    unfold RGroupPost at RG
    unfold RGroupsPost at RS
    rw [hrb] at RG
    rw [hbl] at GA0
    rw [htr1, htr2] at TA0
    obtain ⟨lg, HLG⟩ : ∃ x, Hid (x = horsesL (best (alongH A B k) N) N) := ⟨_, rfl⟩
    rw [← HLG.out] at GA0 RG
    have hlg9 : lg.length ≤ 9 := by rw [HLG.out]; have := horses_lt (best (alongH A B k) N) N; omega
    have SG := Lib.hid (fun W u v (h1 : NatsAt W u lg) (h2 : NatsAt W v lg) => show Calls Tryz.prog 17 #[u, v] W fun e w' => e = .returned (.bool true) ∧ Quiet W w' by
      have h3 := same_any W u v lg.length lg.length _ _ h1 h2 (by omega) (by omega)
      exact h3.mono fun e w' ⟨h5, h6⟩ => ⟨h5.trans (by rw [same_self]), h6⟩)
    have SS := Lib.hid (fun W u v (h1 : IntsAt W u (size16 (best (alongH A B k) N) + 1) (fun i => ((cntS i (cliq (alongH A B k) N N 0 (allH N)) : Nat) : Int))) (h2 : NatsAt W v (rgs (adjP A B k) N (2 ^ N))) => show Calls Tryz.prog 17 #[u, v] W fun e w' => e = .returned (.bool true) ∧ Quiet W w' by
      have h2' : IntsAt W v (size16 (best (alongH A B k) N) + 1) (fun i => ((cntS i (cliq (alongH A B k) N N 0 (allH N)) : Nat) : Int)) := by
        rw [← hgl]
        exact CellsAt.congr h2 (fun i _ => by dsimp only; rw [hgg i])
      have h3 := same_any W u v _ _ _ _ h1 h2' (by omega) (by omega)
      exact h3.mono fun e w' ⟨h5, h6⟩ => ⟨h5.trans (by rw [same_self]), h6⟩)
    obtain ⟨p, HPP⟩ : ∃ x, Hid (x = T3 (adjP A B k) N) := ⟨_, rfl⟩
    obtain ⟨q, HQQ⟩ : ∃ x, Hid (x = T3 (fun i j => !adjP A B k i j) N) := ⟨_, rfl⟩
    rw [← HPP.out] at TA0 RT
    rw [← HQQ.out] at TA0 RT
    have GA := Lib.hid GA0
    have GS := Lib.hid GS0
    have TA := Lib.hid TA0
    clear GA0 GS0 TA0 HG hsym hlts hF htr1 htr2 hrb hgl hgg hbl hsz hp HLG HPP HQQ hlg9
    go_enter Tryz.func3, Tryz.ntmps3
    go_wp2_with (first | (go_at_call 9; refine (FW.out _ hE0).mono ?_; clear FW; rintro e w1 ⟨ea, ecap, rfl, hE1, hk1⟩) | (go_at_call 10; refine (GA.out _ _ hE1).mono ?_; clear GA; rintro e w2 ⟨hk2, gv, rfl, hgv⟩; have hE2 := hE1.kept hk2) | (go_at_call 11; refine (GS.out _ _ hE2).mono ?_; clear GS; rintro e w3 ⟨hk3, sv, rfl, hsv⟩; have hE3 := hE2.kept hk3) | (go_at_call 12; refine (TA.out _ _ hE3).mono ?_; clear TA; rintro e w4 ⟨hk4, rfl⟩; have hE4 := hE3.kept hk4) | (go_at_call 13; refine (RH.out _ _ hE4).mono ?_; clear RH; rintro e w5 ⟨rfl, hq5⟩; have hE5 := hE4.kept hq5.kept) | (go_at_call 15; refine (AL.out _ _ hE5).mono ?_; clear AL; rintro e w6 ⟨v6, rfl, hg6, hk6⟩) | (go_at_call 16; refine (RT.out _ _ hg6).mono ?_; clear RT; rintro e w7 ⟨rfl, rfl⟩) | (go_at_call 18; refine (RG.out _ _ hg6).mono ?_; clear RG; rintro e w8 ⟨a8, cap8, rfl, hv8, hk8⟩; have hKS := ((((hk3.trans hk4).trans hq5.kept).trans hk6).trans hk8)) | (go_at_call 17; refine (SG.out _ _ _ (NatsAt.kept hgv hKS) hv8).mono ?_; clear SG; rintro e w9 ⟨rfl, hq9⟩; have hg9 := (hg6.kept hk8).kept hq9.kept) | (go_at_call 19; refine (RS.out _ _ hg9).mono ?_; clear RS; rintro e w10 ⟨v10, rfl, hv10, hk10⟩) | (go_at_call 17; refine (SS.out _ _ _ (CellsAt.kept hsv (((((hk4.trans hq5.kept).trans hk6).trans hk8).trans hq9.kept).trans hk10)) hv10).mono ?_; clear SS; rintro e w11 ⟨rfl, hq11⟩) | (go_at_call 14; refine (LV.out _).mono ?_; rintro e w12 ⟨rfl, hk12⟩))
    go_ret
    exact ⟨rfl, ((((((((hK0.trans hk1).trans hk2).trans hKS).trans hq9.kept).trans hk10).trans hq11.kept)).trans hk12)⟩
end Go.Proofs.YtlnlddnjalfamaaGreatDoor
