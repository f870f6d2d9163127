/-
  The law RoadAlone.
-/
import Derived.Test.YtlgpclnmonpkjaaEa
import Derived.Test.YtlgpclnmonpkjaaDb
import Derived.Deep.RegionHeld3
namespace Go.Proofs.Ytlgpclnmonpkjaa
open Go.RowKit Go.Deep

theorem Alone.mC_lt (n : Nat) (c0 : Nat → Nat) (h : 1 ≤ n) (i : Nat) : mC n c0 i < n := Nat.mod_lt _ h
theorem own_cap {w : World} {base e size : Nat} {v : Value} {n : Nat} {xs : List Value} (h : w.ownsRow base e size v n xs) : ∃ a cap, v = .slice a n cap ∧ n ≤ cap := by
  rcases h.2 with ⟨rfl, rfl⟩ | ⟨g, cap, cur, rfl, _, _, hnc, _⟩
  · exact ⟨none, 0, rfl, Nat.le_refl _⟩
  · exact ⟨_, cap, rfl, hnc⟩
theorem sps_pre {w : World} {g k c : Nat} {H : Nat → Sp} (h : SpsAt w (.slice (some ⟨g, 0, none⟩) k c) k H) (hk : 1 ≤ k) : SpsAt w (.slice (some ⟨g, 0, none⟩) 1 c) 1 H := by
  obtain ⟨_, b, o, _, e, ha, hc⟩ := h
  cases e
  have e := ha (by omega)
  cases e
  exact ⟨_, _, _, _, rfl, fun _ => rfl, fun i hi => hc i (by omega)⟩
theorem alone_int {w : World} {b : Nat} {t : Nat} (h : w.cell? ⟨b, 0, none⟩ = some (.int .i64 (t : Int))) : IntsAt w (.slice (some ⟨b, 0, none⟩) 1 1) 1 (natI fun _ => t) := ⟨_, _, _, _, rfl, fun _ => rfl, fun i hi => by
  obtain rfl : i = 0 := by omega
  exact h⟩
set_option maxRecDepth 100000 in
set_option maxHeartbeats 4000000 in
theorem RoadAlone_any (w : World) (vP vH vC : Value) (nP nH nC : Nat) (p0 p1 h0 h1 c0 : Nat → Nat) (hP : U8Pairs w vP nP p0 p1) (hH : U8Pairs w vH nH h0 h1) (hC : U8s w vC nC c0) :
    Calls Try.prog 11 #[.agg #[vP, vH, vC]] w fun e w' => e = .returned (.bool true) ∧ Kept w w' := by
  have hn := mN_le nP
  have hk := mK_le nH
  obtain ⟨aP, _, _, cP, rfl, _, _⟩ := id hP
  obtain ⟨aH, _, _, cH, rfl, _, _⟩ := id hH
  obtain ⟨aC, _, _, cC, rfl, _, _⟩ := id hC
  have MD := Lib.hid (fun W (k : Kept w W) => made_any W _ _ _ nP nH nC p0 p1 h0 h1 c0 (hP.kept k) (hH.kept k) (hC.kept k) true)
  obtain ⟨k, HK⟩ : ∃ k, Hid (k = mK nH) := ⟨_, rfl⟩
  obtain ⟨m, HM⟩ : ∃ m, Hid (m = min nC 12) := ⟨_, rfl⟩
  obtain ⟨H, HH⟩ : ∃ H, Hid (H = (mH (mN nP) p1 h0 h1 nH true)) := ⟨_, rfl⟩
  obtain ⟨C, HC⟩ : ∃ C, Hid (C = (mC (mN nP) c0)) := ⟨_, rfl⟩
  have ok : (mR nP p0 p1).Ok := roadR_ok (made_road nP p0 p1)
  have hk1 : 1 ≤ k := by rw [HK.out]; exact hk.1
  have hkk3 : k ≤ 3 := by rw [HK.out]; exact hk.2
  have hm : m ≤ 12 := by rw [HM.out]; omega
  have hg : ∀ i, (mR nP p0 p1).spot (H i) := by intro i; rw [HH.out]; exact made_spot nP p0 p1 h0 h1 nH true i
  have hg0 : ∀ i, (H i).2 = 0 := by intro i; rw [HH.out]; exact made_zero _ _ _ _ _ i
  have hcl : ∀ i, i < m → C i < mN nP := by intro i _; rw [HC.out]; exact Alone.mC_lt _ _ hn.1 i
  have HG : Hid (∀ i, i < k → (mR nP p0 p1).spot (H i)) := fun i _ => hg i
  have HG1 : Hid (∀ i, i < 1 → (mR nP p0 p1).spot (H i)) := fun i _ => hg i
  have HCL := Lib.hid hcl
  obtain ⟨N, HN⟩ : ∃ N, Hid (N = sumN (servC (mR nP p0 p1) 1 C H) m) := ⟨_, rfl⟩
  have hS0 : begS 1 (fstI H) 0 = (H 0).1 := by unfold begS fstI; simp
  have hSb : ∀ j, j < 3 → begS 1 (fstI H) j < (mR nP p0 p1).n := fun j _ => by
    unfold begS
    split
    · unfold fstI; simp only [Int.toNat_natCast]; exact (hg j).1
    · exact ok.pos
  have hH0 : H 0 = (begS 1 (fstI H) 0, 0) := Prod.ext hS0.symm (hg0 0)
  have hcost : ∀ F : Nat → Nat, (∀ i, F i < 1) → cstP (mR nP p0 p1) C F (begS 1 (fstI H)) m = N := fun F hF => by rw [HN.out]; exact one_cost ok hcl HG1.out _ F hH0 (fun i _ => by have := hF i; omega) m (Nat.le_refl _)
  have hlst : lst (mR nP p0 p1) C 1 m 0 (begS 1 (fstI H)) = N := by
    have h1 := one_lst ok hm hcl (begS 1 (fstI H)) (fun _ => 0) hSb (fun _ _ => rfl) m 0 (by omega)
    rw [hcost (fun _ => 0) (fun _ => by omega)] at h1
    exact h1
  have SV := Lib.hid (fun W v hv cv (kk j : Nat) (D : Nat → Nat) (G : Nat → Sp) (h1 : 1 ≤ kk) (h3 : kk ≤ 3) (hj : j ≤ 12) (hR : RoadIn W v (mN nP) (mN nP) (natI (mO p0)) (natI (mL p1))) hP hCv hG hD => Serve_nat W v hv cv hR kk j G D hP hCv h1 h3 hj hG hD)
  have BE : Hid (∀ W v hv cv (hR : RoadIn W v (mN nP) (mN nP) (natI (mO p0)) (natI (mL p1))) (hP : SpsAt W hv 1 H) (hCv : IntsAt W cv m (natI C)), Calls Try.prog 33 #[v, hv, cv] W fun e w' => e = .returned (.tuple #[.int .i64 (N : Int), .int .i64 0]) ∧ Kept W w') := fun W v hv cv hR hP hCv => by
    have h1 := Best_nat W v hv cv hR 1 m H C hP hCv (by omega) (by omega) hm HG1.out (fun i _ => hg0 i) hcl
    rw [hlst] at h1
    exact h1
  have NE : Hid (∀ W v hv cv (hR : RoadIn W v (mN nP) (mN nP) (natI (mO p0)) (natI (mL p1))) (hP : SpsAt W hv 1 H) (hCv : IntsAt W cv m (natI C)), Calls Try.prog 35 #[v, hv, cv] W fun e w' => e = .returned (.tuple #[.int .i64 (N : Int), .int .i64 0]) ∧ Kept W w') := fun W v hv cv hR hP hCv => by
    refine (Nearest_nat W v hv cv hR 1 m H C hP hCv (by omega) (by omega) hm HG1.out (fun i _ => hg0 i) hcl).mono ?_
    rintro e w' ⟨F, hF, rfl, hk⟩
    rw [hcost F hF]
    exact ⟨rfl, hk⟩
  have RH := Lib.hid (fun W v hv (G : Nat → Sp) (hR : RoadIn W v (mN nP) (mN nP) (natI (mO p0)) (natI (mL p1))) hP hG => rHands_nat W v hv hR k G hP hk1 hkk3 hG)
  obtain ⟨n0, HN0⟩ : ∃ n0, w.heap.size = n0 := ⟨_, rfl⟩
  obtain ⟨W1, hW1, hsz, q0, q1, q2, hKw⟩ := newbox3 w n0 HN0 (.slice aP nP cP) (.slice aH nH cH) (.slice aC nC cC) 75
  have tok1 := Lib.hid True.intro
  have tok2 := Lib.hid True.intro
  clear hk hg hg0 hS0 hSb hH0 hcost hlst
  by_cases hm0 : m = 0
  · subst hm0
    go_enter Try.func11, Try.ntmps11
    go_wp2_with (first | (go_at_call 45; refine (MD.out _ (by repeat (first | assumption | exact Kept.refl _ | apply Kept.drew | apply Kept.drewN | apply Kept.alloc | refine Kept.trans ?_ (by assumption)))).mono ?_; intro e w3 hd; obtain ⟨oa, oc, la, lc, ha, hc, ca, cc, rfl, hR3, hH3, hC3, hOw, hOh, hk3⟩ := hd.open; obtain ⟨_, _, e9, hhc⟩ := own_cap hOh; cases e9; rw [← HK.out, ← HH.out] at hH3; rw [← HM.out, ← HC.out] at hC3; rw [← HK.out] at hhc; rw [← HK.out, ← HM.out]; have hc1 : (1 : Int) ≤ (hc : Int) := (by omega); obtain ⟨W4, hW4, hsz4, r0, r1, hK4⟩ := newbox2 w3 w3.heap.size rfl (.slice oa (mN nP) oc) (.slice la (mN nP) lc) 24; have hR4 := hR3.kept hK4; have hH4 : SpsAt W4 _ k H := hH3.kept hK4; have hC4 : IntsAt W4 _ 0 (natI C) := CellsAt.kept hC3 hK4; have hKz := (hKw.trans hk3).trans hK4; have hO4 : SpsAt W4 (.slice (some ⟨ha, 0, none⟩) 1 hc) 1 H := sps_pre hH4 hk1) | (go_at_call 29; clear tok1; refine (SV.out _ _ _ _ 1 0 C H (by omega) (by omega) hm hR4 hO4 hC4 HG1.out (fun i hi => HCL.out i hi)).mono ?_; rintro e w5 ⟨sa, so, sc, rfl, hS5, hk5⟩; rw [← HN.out]; obtain ⟨b0, b1, _⟩ := keep2 r0 r1 hk5) | (go_at_call 33; refine (BE.out _ _ _ _ (hR4.kept hk5) (hO4.kept hk5) (CellsAt.kept hC4 hk5)).mono ?_; rintro e w6 ⟨rfl, hk6⟩; obtain ⟨b2, b3, _⟩ := keep2 b0 b1 hk6) | (go_at_call 35; refine (NE.out _ _ _ _ (hR4.kept (hk5.trans hk6)) (hO4.kept (hk5.trans hk6)) (CellsAt.kept hC4 (hk5.trans hk6))).mono ?_; rintro e w7 ⟨rfl, hk7⟩; obtain ⟨b4, b5, _⟩ := keep2 b2 b3 hk7) | (go_at_call 19; refine (lives_any _).mono ?_; rintro e w8 ⟨rfl, hk8⟩; have hK48 := ((hk5.trans hk6).trans hk7).trans hk8; obtain ⟨b6, b7, _⟩ := keep2 b4 b5 hk8))
    go_ret
    exact ⟨rfl, hKz.trans (by repeat (first | assumption | exact Kept.refl _ | apply Kept.drew | apply Kept.drewN | apply Kept.alloc | refine Kept.trans ?_ (by assumption)))⟩
  · have hm1 : 0 < m := by omega
    have n1 : ¬ (m : Int) = 0 := by omega
    obtain ⟨t, HT⟩ : ∃ t, Hid (t = C (m - 1)) := ⟨_, rfl⟩
    have HTL : Hid ((t : Int) = natI C (m - 1)) := by show _ = _; rw [HT.out]; rfl
    have htn : t < mN nP := by rw [HT.out]; exact hcl (m - 1) (by omega)
    obtain ⟨E, HE⟩ : ∃ E, Hid (E = servH (mR nP p0 p1) k C H m) := ⟨_, rfl⟩
    have hge : ∀ i, i < k → (mR nP p0 p1).spot (E i) := by rw [HE.out]; exact servH_spot ok hk1 (m := m) hcl HG.out m (Nat.le_refl _)
    have HGE := Lib.hid hge
    have hhas : hasSp E (t, 0) k = true := by
      have h1 := (goR_spot ok (t := C (m - 1)) (hcl (m - 1) (by omega)) hk1 _ (servH (mR nP p0 p1) k C H (m - 1)) (servH_spot ok hk1 (m := m) hcl HG.out (m - 1) (by omega)) (Nat.le_refl _)).2.1
      rw [HE.out, HT.out]
      have e : servH (mR nP p0 p1) k C H m = (goR (mR nP p0 p1) (C (m - 1)) k (servH (mR nP p0 p1) k C H (m - 1))).1 := by
        obtain ⟨m', e⟩ : ∃ m', m = m' + 1 := ⟨m - 1, by omega⟩
        rw [e]
        rfl
      rw [e]
      exact h1
    have HTH : Hid (thereB (fstI E) (sndI E) (t : Int) k = true) := by
      show _ = _
      obtain ⟨i, hi, e⟩ := hasSp_iff.1 hhas
      exact thereB_true hi (by unfold fstI; rw [e]) (by unfold sndI; rw [e]; rfl)
    have hgo : goR (mR nP p0 p1) t k E = (E, 0) := goR_here hhas
    have HC0 : Hid (sumN (servC (mR nP p0 p1) k (fun _ => t) E) 1 = 0) := by
      show 0 + (goR (mR nP p0 p1) t k E).2 = 0
      rw [hgo]
      rfl
    have HH1 : Hid (servH (mR nP p0 p1) k (fun _ => t) E 1 = E) := by
      show (goR (mR nP p0 p1) t k E).1 = E
      rw [hgo]
    have n2 : IntKind.i64.wrap ((m : Int) - 1) = ((m - 1 : Nat) : Int) := by rw [IntWalk.i64_in _ (by omega)]; omega
    have n3 : ((m - 1 : Nat) : Int) < (m : Int) := by omega
    have n4 : (0 : Int) ≤ ((m - 1 : Nat) : Int) := by omega
    clear hhas hgo hge hcl
    go_enter Try.func11, Try.ntmps11
    go_wp2_with (first | (go_at_call 45; refine (MD.out _ (by repeat (first | assumption | exact Kept.refl _ | apply Kept.drew | apply Kept.drewN | apply Kept.alloc | refine Kept.trans ?_ (by assumption)))).mono ?_; intro e w3 hd; obtain ⟨oa, oc, la, lc, ha, hc, ca, cc, rfl, hR3, hH3, hC3, hOw, hOh, hk3⟩ := hd.open; obtain ⟨_, _, e9, hhc⟩ := own_cap hOh; cases e9; rw [← HK.out, ← HH.out] at hH3; rw [← HM.out, ← HC.out] at hC3; rw [← HK.out] at hhc; rw [← HK.out, ← HM.out]; have hc1 : (1 : Int) ≤ (hc : Int) := (by omega); obtain ⟨W4, hW4, hsz4, r0, r1, hK4⟩ := newbox2 w3 w3.heap.size rfl (.slice oa (mN nP) oc) (.slice la (mN nP) lc) 24; have hR4 := hR3.kept hK4; have hH4 : SpsAt W4 _ k H := hH3.kept hK4; have hC4 : IntsAt W4 _ m (natI C) := CellsAt.kept hC3 hK4; have hKz := (hKw.trans hk3).trans hK4; have hO4 : SpsAt W4 (.slice (some ⟨ha, 0, none⟩) 1 hc) 1 H := sps_pre hH4 hk1) | (go_at_call 29; clear tok1; refine (SV.out _ _ _ _ 1 m C H (by omega) (by omega) hm hR4 hO4 hC4 HG1.out (fun i hi => HCL.out i hi)).mono ?_; rintro e w5 ⟨sa, so, sc, rfl, hS5, hk5⟩; rw [← HN.out]; obtain ⟨b0, b1, _⟩ := keep2 r0 r1 hk5) | (go_at_call 33; refine (BE.out _ _ _ _ (hR4.kept hk5) (hO4.kept hk5) (CellsAt.kept hC4 hk5)).mono ?_; rintro e w6 ⟨rfl, hk6⟩; obtain ⟨b2, b3, _⟩ := keep2 b0 b1 hk6) | (go_at_call 35; refine (NE.out _ _ _ _ (hR4.kept (hk5.trans hk6)) (hO4.kept (hk5.trans hk6)) (CellsAt.kept hC4 (hk5.trans hk6))).mono ?_; rintro e w7 ⟨rfl, hk7⟩; obtain ⟨b4, b5, _⟩ := keep2 b2 b3 hk7) | (go_at_call 19; refine (lives_any _).mono ?_; rintro e w8 ⟨rfl, hk8⟩; have hK48 := ((hk5.trans hk6).trans hk7).trans hk8; obtain ⟨b6, b7, _⟩ := keep2 b4 b5 hk8; obtain ⟨_, cb, co, _, e8, hca, hca2⟩ := id (show IntsAt w8 _ m (natI C) from CellsAt.kept hC4 hK48); cases e8; have e8 := hca hm1; cases e8; have clast : w8.cell? ⟨ca, 0 + (m - 1), none⟩ = some (.int .i64 (t : Int)) := by { rw [HTL.out]; exact hca2 (m - 1) (by omega) }; rw [Nat.zero_add] at clast; clear hca2 hca) | (go_at_call 29; clear tok2; refine (SV.out _ _ _ _ k m C H hk1 hkk3 hm (hR4.kept hK48) (hH4.kept hK48) (CellsAt.kept hC4 hK48) HG.out (fun i hi => HCL.out i hi)).mono ?_; rintro e w9 ⟨ta, to_, tc, rfl, hS9, hk9⟩; rw [← HE.out] at hS9; obtain ⟨b8, b9, _⟩ := keep2 b6 b7 hk9) | (go_at_call 25; refine (rThere_any _ _ k (fstI E) (sndI E) hS9 (t : Int) (by omega)).mono ?_; rw [HTH.out]; rintro e w10 ⟨rfl, rfl⟩) | (go_at_call 23; refine (RH.out _ _ _ E (hR4.kept (hK48.trans hk9)) hS9 HGE.out).mono ?_; rintro e w11 ⟨rfl, hk11⟩; obtain ⟨d0, d1, _⟩ := keep2 b8 b9 hk11; obtain ⟨W12, hW12, hsz12, x0, hK12⟩ := newbox1 w11 w11.heap.size rfl (.int .i64 (t : Int)) 3; have hk912 := hk11.trans hK12; obtain ⟨d2, d3, _⟩ := keep2 d0 d1 hK12) | (go_at_call 29; refine (SV.out _ _ _ _ k 1 (fun _ => t) E hk1 hkk3 (by omega) (hR4.kept ((hK48.trans hk9).trans hk912)) (hS9.kept hk912) (alone_int x0) HGE.out (fun _ _ => htn)).mono ?_; rintro e w13 ⟨ua, uo, uc, rfl, hS13, hk13⟩; rw [HC0.out]; rw [HH1.out] at hS13) | (go_at_call 27; refine (SameSpots_true _ _ _ k _ _ hS13 (hS9.kept (hk912.trans hk13)) (by omega) (fun i _ => rfl)).mono ?_; rintro e w14 ⟨rfl, hk14⟩))
    go_ret
    exact ⟨rfl, hKz.trans (by repeat (first | assumption | exact Kept.refl _ | apply Kept.drew | apply Kept.drewN | apply Kept.alloc | refine Kept.trans ?_ (by assumption)))⟩
end Go.Proofs.Ytlgpclnmonpkjaa
