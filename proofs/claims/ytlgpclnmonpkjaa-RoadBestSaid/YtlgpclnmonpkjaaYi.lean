/-
  The law RoadBest.
-/
import Derived.Test.YtlgpclnmonpkjaaEb
import Derived.Test.YtlgpclnmonpkjaaCd
namespace Go.Proofs.Ytlgpclnmonpkjaa
open Go.RowKit Go.Deep

theorem Best.mC_lt (n : Nat) (c0 : Nat → Nat) (h : 1 ≤ n) (i : Nat) : mC n c0 i < n := Nat.mod_lt _ h
/-- the other plan -/
def otherF (y : Nat → Nat) (nY k : Nat) : Nat → Nat := fun i => if i < nY then y i % k else 0
theorem Plan_nat (w : World) (v hv cv : Value) {nP : Nat} {p0 p1 : Nat → Nat} (hR : RoadIn w v (mN nP) (mN nP) (natI (mO p0)) (natI (mL p1))) (k m : Nat) (G : Nat → Sp) (C : Nat → Nat) (hP : SpsAt w hv k G) (hCv : IntsAt w cv m (natI C)) (hk1 : 1 ≤ k) (hk3 : k ≤ 3) (hm : m ≤ 12) (hG : ∀ i, i < k → (mR nP p0 p1).spot (G i)) (hG0 : ∀ i, i < k → (G i).2 = 0) (hC : ∀ i, i < m → C i < mN nP) :
    Calls Try.prog 34 #[v, hv, cv] w fun e w' => ∃ a c, e = .returned (.tuple #[.slice a m c, .int .i64 0]) ∧ IntsAt w' (.slice a m c) m (natI (plF C (fun s P h => wayP (mR nP p0 p1) C s P h + lst (mR nP p0 p1) C k (m - (s + 1)) (s + 1) (sentP C s P h)) k (begS k (fstI G)))) ∧ Kept w w' := by
  have hn := mN_le nP
  have h := Plan_ok w v hv cv (mN nP) (mN nP) _ _ hR (by omega) (by omega) k (fstI G) (sndI G) hP m (natI C) hCv (plOk_nat hk1 hk3 hm hG hG0 hC)
  rw [callsN_nat] at h
  exact h
theorem Cost_nat (w : World) (v hv cv fv : Value) {nP : Nat} {p0 p1 : Nat → Nat} (hR : RoadIn w v (mN nP) (mN nP) (natI (mO p0)) (natI (mL p1))) (k m : Nat) (G : Nat → Sp) (C : Nat → Nat) (hP : SpsAt w hv k G) (hCv : IntsAt w cv m (natI C)) (hk1 : 1 ≤ k) (hk3 : k ≤ 3) (hm : m ≤ 12) (hG : ∀ i, i < k → (mR nP p0 p1).spot (G i)) (hG0 : ∀ i, i < k → (G i).2 = 0) (hC : ∀ i, i < m → C i < mN nP) (F : Nat → Nat) (hF : IntsAt w fv m (natI F)) (hFk : ∀ i, i < m → F i < k) :
    Calls Try.prog 41 #[v, hv, cv, fv] w fun e w' => e = .returned (.tuple #[.int .i64 ((cstP (mR nP p0 p1) C F (begS k (fstI G)) m : Nat) : Int), .int .i64 0]) ∧ Kept w w' := by
  have hn := mN_le nP
  refine (Cost_any w v hv cv fv (mN nP) (mN nP) _ _ hR (by omega) (by omega) k (fstI G) (sndI G) hP (by omega) m (natI C) hCv (by omega) m (natI F) hF (by omega)).mono fun e w' h => ?_
  obtain ⟨_, _, h3, hk⟩ := h
  have h4 := h3 (plOk_nat hk1 hk3 hm hG hG0 hC) (fitB_iff.2 ⟨fun i hi => by have := hFk i hi; unfold natI; omega, rfl⟩)
  rw [callsN_nat, callsN_nat] at h4
  exact ⟨h4, hk⟩
set_option maxRecDepth 100000 in
set_option maxHeartbeats 4000000 in
theorem RoadBest_any (w : World) (vP vH vC vY : Value) (nP nH nC nY : Nat) (p0 p1 h0 h1 c0 y : Nat → Nat) (hP : U8Pairs w vP nP p0 p1) (hH : U8Pairs w vH nH h0 h1) (hC : U8s w vC nC c0) (hY : U8s w vY nY y) :
    Calls Try.prog 10 #[.agg #[vP, vH, vC], vY] w fun e w' => e = .returned (.bool true) ∧ Kept w w' := by
  have hn := mN_le nP
  have hk := mK_le nH
  obtain ⟨aP, _, _, cP, rfl, _, _⟩ := id hP
  obtain ⟨aH, _, _, cH, rfl, _, _⟩ := id hH
  obtain ⟨aC, _, _, cC, rfl, _, _⟩ := id hC
  obtain ⟨aY, bY, oY, cY, rfl, haY, hcY⟩ := id hY
  obtain ⟨i0, hi0, hz0, hz1, hz2⟩ := info_parts Try.info3
  have MD := Lib.hid (fun W (k : Kept w W) => made_any W _ _ _ nP nH nC p0 p1 h0 h1 c0 (hP.kept k) (hH.kept k) (hC.kept k) true)
  obtain ⟨k, HK⟩ : ∃ k, Hid (k = mK nH) := ⟨_, rfl⟩
  obtain ⟨m, HM⟩ : ∃ m, Hid (m = min nC 12) := ⟨_, rfl⟩
  obtain ⟨H, HH⟩ : ∃ H, Hid (H = (mH (mN nP) p1 h0 h1 nH true)) := ⟨_, rfl⟩
  obtain ⟨C, HC⟩ : ∃ C, Hid (C = (mC (mN nP) c0)) := ⟨_, rfl⟩
  have ok : (mR nP p0 p1).Ok := roadR_ok (made_road nP p0 p1)
  have hk1 : 1 ≤ k := by rw [HK.out]; exact hk.1
  have hkk3 : k ≤ 3 := by rw [HK.out]; exact hk.2
  have hm : m ≤ 12 := by rw [HM.out]; omega
  have hg : ∀ i, (mR nP p0 p1).spot (H i) := by intro i; rw [HH.out]; exact made_spot nP p0 p1 h0 h1 nH true i
  have hg0 : ∀ i, (H i).2 = 0 := by intro i; rw [HH.out]; exact made_zero _ _ _ _ _ i
  have hcl : ∀ i, i < m → C i < mN nP := by intro i _; rw [HC.out]; exact Best.mC_lt _ _ hn.1 i
  obtain ⟨S, HS⟩ : ∃ S, Hid (S = begS k (fstI H)) := ⟨_, rfl⟩
  have hSb : ∀ j, j < 3 → S j < (mR nP p0 p1).n := fun j _ => by
    rw [HS.out]
    unfold begS
    split
    · unfold fstI; simp only [Int.toNat_natCast]; exact (hg j).1
    · exact ok.pos
  obtain ⟨N, HN⟩ : ∃ N, Hid (N = lst (mR nP p0 p1) C k m 0 S) := ⟨_, rfl⟩
  have hany : ∀ G : Nat → Nat, (∀ i, i < m → G i < k) → N ≤ cstP (mR nP p0 p1) C G S m := fun G hG => by
    have h1 := lst_any (R := (mR nP p0 p1)) (C := C) S G hG m 0 (by omega)
    rw [HN.out]
    exact Nat.le_trans (Nat.le_add_right _ _) h1
  obtain ⟨FF, HFD⟩ : ∃ FF, Hid (FF = plF C (fun s P h => wayP (mR nP p0 p1) C s P h + lst (mR nP p0 p1) C k (m - (s + 1)) (s + 1) (sentP C s P h)) k S) := ⟨_, rfl⟩
  have HFF : Hid (∀ i, i < m → FF i < k) := by show ∀ i, _; intro i _; rw [HFD.out]; exact bestH_lt _ k hk1
  have HCF : Hid (cstP (mR nP p0 p1) C FF S m = N) := by
    show _ = _
    have h1 := lst_plan ok hm hk1 hkk3 hcl S hSb _ rfl m 0 (by omega)
    rw [HFD.out, HN.out]
    exact h1.symm
  obtain ⟨V, HV⟩ : ∃ V, Hid (V = otherF y nY k) := ⟨_, rfl⟩
  have HVV : Hid (∀ i, i < m → V i < k) := by
    show ∀ i, _
    intro i _
    rw [HV.out]
    unfold otherF
    split
    · exact Nat.mod_lt _ hk1
    · exact hk1
  obtain ⟨O, HO⟩ : ∃ O, Hid (O = cstP (mR nP p0 p1) C V S m) := ⟨_, rfl⟩
  have hO9 : (N : Int) ≤ (O : Int) := by rw [HO.out]; have := hany V HVV.out; omega
  have HANY := Lib.hid hany
  have BE : Hid (∀ W v hv cv (hR : RoadIn W v (mN nP) (mN nP) (natI (mO p0)) (natI (mL p1))) (hP : SpsAt W hv k H) (hCv : IntsAt W cv m (natI C)), Calls Try.prog 33 #[v, hv, cv] W fun e w' => e = .returned (.tuple #[.int .i64 (N : Int), .int .i64 0]) ∧ Kept W w') := fun W v hv cv hR hP hCv => by
    have h1 := Best_nat W v hv cv hR k m H C hP hCv hk1 hkk3 hm (fun i _ => hg i) (fun i _ => hg0 i) hcl
    rw [← HS.out, ← HN.out] at h1
    exact h1
  have PL : Hid (∀ W v hv cv (hR : RoadIn W v (mN nP) (mN nP) (natI (mO p0)) (natI (mL p1))) (hP : SpsAt W hv k H) (hCv : IntsAt W cv m (natI C)), Calls Try.prog 34 #[v, hv, cv] W fun e w' => ∃ a c, e = .returned (.tuple #[.slice a m c, .int .i64 0]) ∧ IntsAt w' (.slice a m c) m (natI FF) ∧ Kept W w') := fun W v hv cv hR hP hCv => by
    have h1 := Plan_nat W v hv cv hR k m H C hP hCv hk1 hkk3 hm (fun i _ => hg i) (fun i _ => hg0 i) hcl
    rw [← HS.out, ← HFD.out] at h1
    exact h1
  have NE : Hid (∀ W v hv cv (hR : RoadIn W v (mN nP) (mN nP) (natI (mO p0)) (natI (mL p1))) (hP : SpsAt W hv k H) (hCv : IntsAt W cv m (natI C)), Calls Try.prog 35 #[v, hv, cv] W fun e w' => ∃ Z : Nat, (N : Int) ≤ (Z : Int) ∧ e = .returned (.tuple #[.int .i64 (Z : Int), .int .i64 0]) ∧ Kept W w') := fun W v hv cv hR hP hCv => by
    refine (Nearest_nat W v hv cv hR k m H C hP hCv hk1 hkk3 hm (fun i _ => hg i) (fun i _ => hg0 i) hcl).mono ?_
    rintro e w' ⟨G, hG, rfl, hk⟩
    rw [← HS.out]
    exact ⟨_, by have := hany G (fun i _ => hG i); omega, rfl, hk⟩
  have CO : Hid (∀ W v hv cv fv (G : Nat → Nat) (hR : RoadIn W v (mN nP) (mN nP) (natI (mO p0)) (natI (mL p1))) (hP : SpsAt W hv k H) (hCv : IntsAt W cv m (natI C)) (hF : IntsAt W fv m (natI G)) (hG : ∀ i, i < m → G i < k), Calls Try.prog 41 #[v, hv, cv, fv] W fun e w' => e = .returned (.tuple #[.int .i64 ((cstP (mR nP p0 p1) C G S m : Nat) : Int), .int .i64 0]) ∧ Kept W w') := fun W v hv cv fv G hR hP hCv hF hG => by
    have h1 := Cost_nat W v hv cv fv hR k m H C hP hCv hk1 hkk3 hm (fun i _ => hg i) (fun i _ => hg0 i) hcl G hF hG
    rw [← HS.out] at h1
    exact h1
  obtain ⟨n0, HN0⟩ : ∃ n0, w.heap.size = n0 := ⟨_, rfl⟩
  obtain ⟨W1, hW1, hsz, q0, q1, q2, hKw⟩ := newbox3 w n0 HN0 (.slice aP nP cP) (.slice aH nH cH) (.slice aC nC cC) 75
  have HYC := Lib.hid (fun i hi => And.intro (hcY i hi).1 (hKw.cellSome (hcY i hi).2))
  have tok1 := Lib.hid True.intro
  clear hk hg hg0 hSb hany hcl hY hcY
  go_enter Try.func10, Try.ntmps10
  go_wp2_with (first | (go_at_call 45; refine (MD.out _ (by repeat (first | assumption | exact Kept.refl _ | apply Kept.drew | apply Kept.drewN | apply Kept.alloc | refine Kept.trans ?_ (by assumption)))).mono ?_; intro e w3 hd; obtain ⟨oa, oc, la, lc, ha, hc, ca, cc, rfl, hR3, hH3, hC3, hOw, hOh, hk3⟩ := hd.open; rw [← HK.out, ← HH.out] at hH3; rw [← HM.out, ← HC.out] at hC3; rw [← HK.out, ← HM.out]; obtain ⟨W4, hW4, hsz4, r0, r1, hK4⟩ := newbox2 w3 w3.heap.size rfl (.slice oa (mN nP) oc) (.slice la (mN nP) lc) 24; have hR4 := hR3.kept hK4; have hH4 : SpsAt W4 _ k H := hH3.kept hK4; have hC4 : IntsAt W4 _ m (natI C) := CellsAt.kept hC3 hK4; have hKz := (hKw.trans hk3).trans hK4) | (go_at_call 33; refine (BE.out _ _ _ _ hR4 hH4 hC4).mono ?_; rintro e w5 ⟨rfl, hk5⟩; obtain ⟨b0, b1, _⟩ := keep2 r0 r1 hk5) | (go_at_call 34; refine (PL.out _ _ _ _ (hR4.kept hk5) (hH4.kept hk5) (CellsAt.kept hC4 hk5)).mono ?_; rintro e w6 ⟨pa, pc, rfl, hF6, hk6⟩; obtain ⟨b2, b3, _⟩ := keep2 b0 b1 hk6) | (go_at_call 35; refine (NE.out _ _ _ _ (hR4.kept (hk5.trans hk6)) (hH4.kept (hk5.trans hk6)) (CellsAt.kept hC4 (hk5.trans hk6))).mono ?_; rintro e w7 ⟨Z, hZ, rfl, hk7⟩; obtain ⟨b4, b5, _⟩ := keep2 b2 b3 hk7; have hK47 := (hk5.trans hk6).trans hk7))
  clear hW1 hsz hW4 hsz4 q0 q1 q2
  obtain ⟨nb, HNB⟩ : ∃ nb, w7.heap.size = nb := ⟨_, rfl⟩
  rw [HNB]
  go_loopg [14, 15] m (fun g s14 s15 wr => ∃ i : Nat, i ≤ m ∧ g = m - i ∧ s15 = .int .i64 i ∧ wr.ownsRow nb 3 1 s14 i (natsL V i) ∧ nb ≤ wr.heap.size ∧ Kept w7 wr)
  case atStart => exact ⟨0, Nat.zero_le _, rfl, rfl, by rw [← HNB]; exact World.ownsRow_made (base := w7.heap.size) (e := 3) (size := 1) w7 #[] 0 (Nat.le_refl _) (Nat.zero_le _) rfl, by rw [← HNB]; simp, (Kept.refl _).alloc _⟩
  case round =>
    obtain ⟨i, hi, rfl, rfl, hO, hnb, hKi⟩ := hrel
    obtain ⟨sa, sc, rfl⟩ := own_shape hO
    obtain ⟨d0, d1, _⟩ := keep2 b4 b5 hKi
    have hKq := hK47.trans hKi
    by_cases hlt : i < m
    · have n1 : (i : Int) < (m : Int) := by omega
      have n2 : (0 : Int) ≤ (i : Int) := by omega
      have hKA := hKi.alloc (.cells #[.int .i64 ((V i : Nat) : Int)] 3)
      have HVI : Hid (V i = otherF y nY k i) := by show _ = _; rw [HV.out]
      obtain ⟨vi, HVi⟩ : ∃ vi, Hid (vi = V i) := ⟨_, rfl⟩
      have HAPP := Lib.hid (natsL_succ V i)
      rw [← HVi.out] at hKA HVI HAPP
      by_cases hly : i < nY
      · obtain rfl := haY (by omega)
        obtain ⟨y9, hy9⟩ := HYC.out i hly
        have hye := (((hk3.trans hK4).trans hKq)).cellSome hy9
        have n3 : (i : Int) < (nY : Int) := by omega
        have e1 : vi = y i % k := by rw [HVI.out]; unfold otherF; rw [if_pos hly]
        obtain ⟨yi, HYI⟩ : ∃ yi, Hid (yi = y i) := ⟨_, rfl⟩
        rw [← HYI.out] at hye y9 e1
        have t1 : Int.tmod (yi : Int) (k : Int) = (vi : Int) := by rw [e1, Int.tmod_eq_emod_of_nonneg (by omega)]; simp
        have t3 : IntKind.i64.wrap (yi : Int) = (yi : Int) := IntWalk.i64_in _ (by omega)
        have hvk : vi < k := by rw [e1]; exact Nat.mod_lt _ hk1
        have t4 : IntKind.i64.wrap (vi : Int) = (vi : Int) := IntWalk.i64_in _ (by omega)
        have t5 : ¬ ((k : Int) = 0) := by omega
        clear e1 hy9
        go_wp2_with (first | (at_builtin; refine wpList_append_own _ rfl _ _ 22 rfl nb 3 i0 (.int .i64 0) 1 8 Try.underlying22 hi0 hz0 hz1 hz2 rfl (by decide) _ _ _ rfl (hO.alloc _) ⟨_, 0, none⟩ 1 1 [.int .i64 (vi : Int)] rfl rfl (cell_one_new _ _ _) ?c2 ?c3 ?c4 ?c5 ?_))
        case c2 => simp [Value.oneCell']
        case c3 => unfold maxLen; omega
        case c4 => omega
        case c5 => first | omega | (simp; omega)
        intro ov' w8 hO8 hgr _
        have hK8 : Kept w7 w8 := hKA.grown hgr (fun kk hkk => by have := ((hO.alloc (.cells #[.int .i64 (vi : Int)] 3)).lt kk hkk).1; omega)
        have hO9' : w8.ownsRow nb 3 1 ov' (i + 1) (natsL V (i + 1)) := by rw [HAPP.out]; exact hO8
        have hs8 : nb ≤ w8.heap.size := by have := hgr.size; simp at this; omega
        clear hO8 hgr hO hKA
        go_wp2_with fail
        go_roundg (m - (i + 1))
        case measure => omega
        case rel => exact ⟨i + 1, by omega, rfl, by go_num, hO9', hs8, hK8⟩
      · have n3 : ¬ (i : Int) < (nY : Int) := by omega
        obtain rfl : vi = 0 := by rw [HVI.out]; unfold otherF; rw [if_neg hly]
        go_wp2_with (first | (at_builtin; go_loud (refine wpList_append_own _ rfl _ _ 22 rfl nb 3 i0 (.int .i64 0) 1 8 Try.underlying22 hi0 hz0 hz1 hz2 rfl (by decide) _ _ _ rfl (hO.alloc _) ⟨_, 0, none⟩ 1 1 [.int .i64 0] rfl rfl (cell_one_new _ _ _) ?c2 ?c3 ?c4 ?c5 ?_)))
        case c2 => simp [Value.oneCell']
        case c3 => unfold maxLen; omega
        case c4 => omega
        case c5 => first | omega | (simp; omega)
        intro ov' w8 hO8 hgr _
        have hK8 : Kept w7 w8 := hKA.grown hgr (fun kk hkk => by have := ((hO.alloc (.cells #[.int .i64 0] 3)).lt kk hkk).1; omega)
        have hO9' : w8.ownsRow nb 3 1 ov' (i + 1) (natsL V (i + 1)) := by rw [HAPP.out]; exact hO8
        have hs8 : nb ≤ w8.heap.size := by have := hgr.size; simp at this; omega
        clear hO8 hgr hO hKA
        go_wp2_with fail
        go_roundg (m - (i + 1))
        case measure => omega
        case rel => exact ⟨i + 1, by omega, rfl, by go_num, hO9', hs8, hK8⟩
    · obtain rfl : i = m := by omega
      have hVq : IntsAt wr _ i (natI V) := IntsAt.of_natsL hO
      have hFq : IntsAt wr _ i (natI FF) := CellsAt.kept hF6 (hk7.trans hKi)
      go_wp2_with (first | (go_at_call 41; clear tok1; refine (CO.out _ _ _ _ _ FF (hR4.kept hKq) (hH4.kept hKq) (CellsAt.kept hC4 hKq) hFq HFF.out).mono ?_; rw [HCF.out]; rintro e w8 ⟨rfl, hk8⟩; obtain ⟨d2, d3, _⟩ := keep2 d0 d1 hk8) | (go_at_call 41; refine (CO.out _ _ _ _ _ V (hR4.kept (hKq.trans hk8)) (hH4.kept (hKq.trans hk8)) (CellsAt.kept hC4 (hKq.trans hk8)) (CellsAt.kept hVq hk8) HVV.out).mono ?_; rw [← HO.out]; rintro e w9 ⟨rfl, hk9⟩; obtain ⟨d4, d5, _⟩ := keep2 d2 d3 hk9) | (go_at_call 19; refine (lives_any _).mono ?_; rintro e w10 ⟨rfl, hk10⟩))
      go_ret
      exact ⟨rfl, (hKz.trans hKq).trans (by repeat (first | assumption | exact Kept.refl _ | apply Kept.drew | apply Kept.drewN | apply Kept.alloc | refine Kept.trans ?_ (by assumption)))⟩
end Go.Proofs.Ytlgpclnmonpkjaa
