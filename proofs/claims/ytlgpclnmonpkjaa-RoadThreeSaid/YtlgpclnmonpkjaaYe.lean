/-
  The law RoadBegun.
-/
import Derived.Test.YtlgpclnmonpkjaaWr
import Derived.Deep.RegionHeld3
namespace Go.Proofs.Ytlgpclnmonpkjaa
open Go.RowKit Go.Deep

theorem mC_lt (n : Nat) (c0 : Nat → Nat) (h : 1 ≤ n) (i : Nat) : mC n c0 i < n := Nat.mod_lt _ h
theorem IntsAt.suf {w : World} {b o m cap cap' : Nat} {f : Nat → Int} (h : IntsAt w (.slice (some ⟨b, o, none⟩) m cap) m f) {x : Nat} (hx : x ≤ m) : IntsAt w (.slice (some ⟨b, o + x, none⟩) (m - x) cap') (m - x) (fun t => f (x + t)) := by
  obtain ⟨a', b', o', c, e, ha, hc⟩ := h
  cases e
  refine ⟨_, b, o + x, cap', rfl, fun _ => rfl, fun j hj => ?_⟩
  have h0 := ha (by omega)
  cases h0
  rw [Nat.add_assoc]
  exact hc (x + j) (by omega)
theorem IntsAt.suf0 {w : World} {b m cap cap' : Nat} {f : Nat → Int} (h : IntsAt w (.slice (some ⟨b, 0, none⟩) m cap) m f) {x : Nat} (hx : x ≤ m) : IntsAt w (.slice (some ⟨b, x, none⟩) (m - x) cap') (m - x) (fun t => f (x + t)) := by
  have e := h.suf (cap' := cap') hx
  rwa [Nat.zero_add] at e
theorem IntsAt.zero (w : World) (a : Option Addr) (n c : Nat) (f : Nat → Int) (h : n = 0) : IntsAt w (.slice a n c) n f := ⟨a, 0, 0, c, rfl, fun _ => by omega, fun i hi => by omega⟩
set_option maxRecDepth 100000 in
set_option maxHeartbeats 4000000 in
theorem RoadBegun_any (w : World) (vP vH vC : Value) (nP nH nC : Nat) (p0 p1 h0 h1 c0 : Nat → Nat) (hP : U8Pairs w vP nP p0 p1) (hH : U8Pairs w vH nH h0 h1) (hC : U8s w vC nC c0) (at_ : Nat) (hat : at_ < 256) :
    Calls Try.prog 13 #[.agg #[vP, vH, vC], .int .u8 (at_ : Int)] w fun e w' => e = .returned (.bool true) ∧ Kept w w' := by
  have hn := mN_le nP
  have hk := mK_le nH
  obtain ⟨aP, _, _, cP, rfl, _, _⟩ := id hP
  obtain ⟨aH, _, _, cH, rfl, _, _⟩ := id hH
  obtain ⟨aC, _, _, cC, rfl, _, _⟩ := id hC
  have MD := Lib.hid (fun W (k : Kept w W) => made_any W _ _ _ nP nH nC p0 p1 h0 h1 c0 (hP.kept k) (hH.kept k) (hC.kept k) false)
  obtain ⟨k, HK⟩ : ∃ k, Hid (k = mK nH) := ⟨_, rfl⟩
  obtain ⟨m, HM⟩ : ∃ m, Hid (m = min nC 12) := ⟨_, rfl⟩
  obtain ⟨H, HH⟩ : ∃ H, Hid (H = (mH (mN nP) p1 h0 h1 nH false)) := ⟨_, rfl⟩
  obtain ⟨C, HC⟩ : ∃ C, Hid (C = (mC (mN nP) c0)) := ⟨_, rfl⟩
  obtain ⟨f, HF⟩ : ∃ f, Hid (f = servC (mR nP p0 p1) k C H) := ⟨_, rfl⟩
  have hk1 : 1 ≤ k := by rw [HK.out]; exact hk.1
  have hkk3 : k ≤ 3 := by rw [HK.out]; exact hk.2
  have hm : m ≤ 12 := by rw [HM.out]; omega
  have HG : Hid (∀ i, i < k → (mR nP p0 p1).spot (H i)) := by show ∀ i, i < k → _; intro i _; rw [HH.out]; exact made_spot nP p0 p1 h0 h1 nH false i
  have HCL : Hid (∀ i, i < m → C i < mN nP) := by show ∀ i, i < m → _; intro i _; rw [HC.out]; exact mC_lt _ _ hn.1 i
  have SV := Lib.hid (fun W v hv cv (j : Nat) (D : Nat → Nat) (G : Nat → Sp) (hR : RoadIn W v (mN nP) (mN nP) (natI (mO p0)) (natI (mL p1))) hP hCv (hj : j ≤ m) hG hD => Serve_nat W v hv cv hR k j G D hP hCv hk1 hkk3 (by omega) hG hD)
  have CS := Lib.hid (fun W v hv cv (hR : RoadIn W v (mN nP) (mN nP) (natI (mO p0)) (natI (mL p1))) hP hCv => Costs_nat W v hv cv hR k m H C hP hCv hk1 hkk3 hm HG.out HCL.out)
  have RH := Lib.hid (fun W v hv (G : Nat → Sp) (hR : RoadIn W v (mN nP) (mN nP) (natI (mO p0)) (natI (mL p1))) hP hG => rHands_nat W v hv hR k G hP hk1 hkk3 hG)
  have hle : ∀ i, i < m → f i ≤ 360 * k := fun i hi => by rw [HF.out]; exact servC_le (roadR_ok (made_road nP p0 p1)) hk1 (m := m) HCL.out HG.out i hi
  have HLE := Lib.hid hle
  have ok := roadR_ok (made_road nP p0 p1)
  obtain ⟨n0, HN0⟩ : ∃ n0, w.heap.size = n0 := ⟨_, rfl⟩
  obtain ⟨W1, hW1, hsz, q0, q1, q2, hKw⟩ := newbox3 w n0 HN0 (.slice aP nP cP) (.slice aH nH cH) (.slice aC nC cC) 75
  clear hle hk
  go_enter Try.func13, Try.ntmps13
  go_wp2_with (first | (go_at_call 45; refine (MD.out _ (by repeat (first | assumption | exact Kept.refl _ | apply Kept.drew | apply Kept.drewN | apply Kept.alloc | refine Kept.trans ?_ (by assumption)))).mono ?_; intro e w3 hd; obtain ⟨oa, oc, la, lc, ha, hc, ca, cc, rfl, hR3, hH3, hC3, hOw, _, hk3⟩ := hd.open; rw [← HK.out, ← HH.out] at hH3; rw [← HM.out, ← HC.out] at hC3 hOw; rw [← HK.out, ← HM.out]; obtain ⟨W4, hW4, hsz4, r0, r1, hK4⟩ := newbox2 w3 w3.heap.size rfl (.slice oa (mN nP) oc) (.slice la (mN nP) lc) 24; have hR4 := hR3.kept hK4; have hH4 : SpsAt W4 _ k H := hH3.kept hK4; have hC4 : IntsAt W4 _ m (natI C) := CellsAt.kept hC3 hK4; have hKz := (hKw.trans hk3).trans hK4) | (go_at_call 29; refine (SV.out _ _ _ _ m C H hR4 hH4 hC4 (Nat.le_refl _) HG.out (fun i hi => HCL.out i hi)).mono ?_; rintro e w5 ⟨sa, so, sc, rfl, hS5, hk5⟩; rw [← HF.out]; obtain ⟨b0, b1, _⟩ := keep2 r0 r1 hk5) | (go_at_call 30; refine (CS.out _ _ _ _ (hR4.kept hk5) (hH4.kept hk5) (CellsAt.kept hC4 hk5)).mono ?_; rintro e w6 ⟨ua, uc, rfl, hI6, hk6⟩; rw [← HF.out] at hI6; obtain ⟨c0', c1', _⟩ := keep2 b0 b1 hk6) | (go_at_call 19; refine (lives_any _).mono ?_; rintro e w7 ⟨rfl, hk7⟩))
  clear hW1 hsz hW4 hsz4 q0 q1 q2
  obtain ⟨_, ub, uo, _, e6, hua, hua2⟩ := id hI6
  injection e6 with e6a e6b e6c
  subst e6a
  subst e6c
  have HU := Lib.hid hua2
  have hmc : m ≤ cc := by
    rcases hOw.2 with ⟨e, _⟩ | ⟨g, cap, cur, e, _, _, h, _⟩
    · cases e
    · injection e with e1 e2 e3
      omega
  have hcm : cc ≤ 9223372036854775807 := by
    rcases hOw.2 with ⟨e, _⟩ | ⟨g, cap, cur, e, _, _, _, h, _⟩
    · cases e
    · injection e with e1 e2 e3
      unfold maxLen at h
      omega
  clear hua2
  have hKA := (hKz.trans hk5).trans (hk6.trans hk7)
  obtain ⟨b0, b1, _⟩ := keep2 c0' c1' hk7
  go_loopg [13, 14] m (fun g s13 s14 wr => ∃ i : Nat, i ≤ m ∧ g = m - i ∧ s14 = .int .i64 i ∧ s13 = .int .i64 ((sumN f i : Nat) : Int) ∧ Kept w7 wr)
  case atStart => exact ⟨0, Nat.zero_le _, rfl, rfl, rfl, Kept.refl _⟩
  case round =>
    obtain ⟨i, hi, rfl, rfl, rfl, hKi⟩ := hrel
    have hs1 : ∀ j, j ≤ m → sumN f j ≤ 360 * 3 * 12 := fun j hj => Nat.le_trans (sumN_le f (360 * k) j (fun t ht => HLE.out t (by omega))) (Nat.mul_le_mul (Nat.mul_le_mul (Nat.le_refl _) hkk3) (by omega))
    by_cases hlt : i < m
    · obtain rfl := hua (by omega)
      have h1 : wr.cell? ⟨ub, uo + i, none⟩ = some (.int .i64 ((f i : Nat) : Int)) := (hk7.trans hKi).cellSome (HU.out i hlt)
      have n1 : (i : Int) < (m : Int) := by omega
      have n2 : (0 : Int) ≤ (i : Int) := by omega
      have n3 : ¬ ((f i : Nat) : Int) < 0 := by omega
      have hs2 := hs1 (i + 1) (by omega)
      rw [sumN_succ] at hs2
      have s1 : IntKind.i64.wrap (((sumN f i : Nat) : Int) + ((f i : Nat) : Int)) = ((sumN f i : Nat) : Int) + ((f i : Nat) : Int) := IntWalk.i64_in _ (by omega)
      go_wp2_with fail
      go_roundg (m - (i + 1))
      case measure => omega
      case rel => exact ⟨i + 1, by omega, rfl, by go_num, by rw [sumN_succ, Int.natCast_add], hKi⟩
    · obtain rfl : i = m := by omega
      obtain ⟨x, HX⟩ : ∃ x, Hid (x = at_ % (i + 1)) := ⟨_, rfl⟩
      have hx : x ≤ i := by rw [HX.out]; have := Nat.mod_lt at_ (show 0 < i + 1 by omega); omega
      obtain ⟨G2, HG2e⟩ : ∃ G2, Hid (G2 = servH (mR nP p0 p1) k C H x) := ⟨_, rfl⟩
      have HG2 : Hid (∀ j, j < k → (mR nP p0 p1).spot (G2 j)) := by show ∀ j, j < k → _; rw [HG2e.out]; exact servH_spot ok hk1 (m := i) HCL.out HG.out x hx
      obtain ⟨q, HQ⟩ : ∃ q, Hid (q = sumN (servC (mR nP p0 p1) k (fun t => C (x + t)) G2) (i - x)) := ⟨_, rfl⟩
      have hq : sumN f x + q = sumN f i := by
        have e : servC (mR nP p0 p1) k (fun t => C (x + t)) G2 = fun t => f (x + t) := funext fun t => by rw [HG2e.out, servC_add, HF.out]
        rw [HQ.out, e, sumN_add, show x + (i - x) = i by omega]
      have hq9 := hs1 i (Nat.le_refl _)
      have HE : Hid (servH (mR nP p0 p1) k (fun t => C (x + t)) G2 (i - x) = servH (mR nP p0 p1) k C H i) := by show _ = _; rw [HG2e.out, servH_add, show x + (i - x) = i by omega]
      have t9 : IntKind.i64.wrap (((sumN f x : Nat) : Int) + (q : Int)) = ((sumN f i : Nat) : Int) := by rw [IntWalk.i64_in _ (by omega)]; omega
      obtain ⟨S, HSS⟩ : ∃ S, Hid (S = sumN f i) := ⟨_, rfl⟩
      have t10 : ((S : Int) == (S : Int)) = true := by simp
      rw [← HSS.out] at t9 ⊢
      have t1 : Int.tmod (at_ : Int) ((i : Int) + 1) = (x : Int) := by rw [HX.out, Int.tmod_eq_emod_of_nonneg (by omega)]; simp
      have t2 : IntKind.i64.wrap ((i : Int) + 1) = (i : Int) + 1 := IntWalk.i64_in _ (by omega)
      have t3 : IntKind.i64.wrap (at_ : Int) = (at_ : Int) := IntWalk.i64_in _ (by omega)
      have t4 : IntKind.i64.wrap (x : Int) = (x : Int) := IntWalk.i64_in _ (by omega)
      have t5 : ¬ ((i : Int) + 1 = 0) := by omega
      have t6 : (0 : Int) ≤ (x : Int) := by omega
      have t7 : (x : Int) ≤ (i : Int) := by omega
      have t8 : (x : Int) ≤ (cc : Int) := by omega
      have hKB := hKA.trans hKi
      obtain ⟨d0, d1, _⟩ := keep2 b0 b1 hKi
      have hK47 := ((hk5.trans hk6).trans hk7).trans hKi
      have hR9 := hR4.kept hK47
      have hH9 : SpsAt wr _ k H := hH4.kept hK47
      have hC9 : IntsAt wr _ i (natI C) := CellsAt.kept hC4 hK47
      have hS9 : SpsAt wr _ k _ := hS5.kept ((hk6.trans hk7).trans hKi)
      go_wp2_with fail
      go_region_held3 (fun w' => w'.cell? ⟨w3.heap.size, 0, none⟩ = some (.slice oa (mN nP) oc) ∧ w'.cell? ⟨w3.heap.size, 1, none⟩ = some (.slice la (mN nP) lc) ∧ Kept wr w')
        (exact keep2 d0 d1 (by repeat (first | assumption | exact Kept.refl _ | apply Kept.drew | apply Kept.drewN | apply Kept.alloc | refine Kept.trans ?_ (by assumption))))
        (first | (go_at_call 29; refine (SV.out _ _ _ _ x C H (hR9.kept (by repeat (first | assumption | exact Kept.refl _ | apply Kept.drew | apply Kept.drewN | apply Kept.alloc | refine Kept.trans ?_ (by assumption)))) (hH9.kept (by repeat (first | assumption | exact Kept.refl _ | apply Kept.drew | apply Kept.drewN | apply Kept.alloc | refine Kept.trans ?_ (by assumption)))) (IntsAt.pre (CellsAt.kept hC9 (by repeat (first | assumption | exact Kept.refl _ | apply Kept.drew | apply Kept.drewN | apply Kept.alloc | refine Kept.trans ?_ (by assumption)))) x hx) hx HG.out (fun j hj => HCL.out j (by omega))).mono ?_; rintro e wb ⟨ta, to_, tc, rfl, hS10, hk10⟩; rw [← HF.out]))
      rw [← HG2e.out] at hS10
      clear hq hq9 hs1
      go_wp2_with (first | (go_at_call 23; refine (RH.out _ _ _ G2 (hR9.kept (by repeat (first | assumption | exact Kept.refl _ | apply Kept.drew | apply Kept.drewN | apply Kept.alloc | refine Kept.trans ?_ (by assumption)))) hS10 HG2.out).mono ?_; rintro e wc ⟨rfl, hkc⟩))
      obtain ⟨d2, d3, _⟩ := keep2 d0 d1 (show Kept wr wc from (by repeat (first | assumption | exact Kept.refl _ | apply Kept.drew | apply Kept.drewN | apply Kept.alloc | refine Kept.trans ?_ (by assumption))))
      by_cases hcx : cc = x
      · have hcx2 : (cc = x) = True := eq_true hcx
        have HZ : Hid (i - x = 0) := by show _ = _; omega
        clear hcx
        go_region_held3 (fun w' => w'.cell? ⟨w3.heap.size, 0, none⟩ = some (.slice oa (mN nP) oc) ∧ w'.cell? ⟨w3.heap.size, 1, none⟩ = some (.slice la (mN nP) lc) ∧ Kept wc w')
          (exact keep2 d2 d3 (by repeat (first | assumption | exact Kept.refl _ | apply Kept.drew | apply Kept.drewN | apply Kept.alloc | refine Kept.trans ?_ (by assumption))))
          (first | (go_at_call 29; refine (SV.out _ _ _ _ (i - x) (fun t => C (x + t)) G2 (hR9.kept (by repeat (first | assumption | exact Kept.refl _ | apply Kept.drew | apply Kept.drewN | apply Kept.alloc | refine Kept.trans ?_ (by assumption)))) (hS10.kept (by repeat (first | assumption | exact Kept.refl _ | apply Kept.drew | apply Kept.drewN | apply Kept.alloc | refine Kept.trans ?_ (by assumption)))) (IntsAt.zero _ _ _ _ _ HZ.out) (by omega) HG2.out (fun j hj => HCL.out (x + j) (by omega))).mono ?_; rintro e wd ⟨ra, ro, rc, rfl, hS12, hk12⟩; rw [← HQ.out]; rw [HE.out] at hS12))
        go_wp2_with (first | (go_at_call 27; refine (SameSpots_true _ _ _ k _ _ hS12 (hS9.kept (show Kept wr _ from (by repeat (first | assumption | exact Kept.refl _ | apply Kept.drew | apply Kept.drewN | apply Kept.alloc | refine Kept.trans ?_ (by assumption))))) (by omega) (fun i _ => rfl)).mono ?_; rintro e w14 ⟨rfl, hk14⟩))
        go_ret
        exact ⟨rfl, hKB.trans (show Kept wr _ from (by repeat (first | assumption | exact Kept.refl _ | apply Kept.drew | apply Kept.drewN | apply Kept.alloc | refine Kept.trans ?_ (by assumption))))⟩
      · have hcx2 : (cc = x) = False := eq_false hcx
        clear hcx
        go_region_held3 (fun w' => w'.cell? ⟨w3.heap.size, 0, none⟩ = some (.slice oa (mN nP) oc) ∧ w'.cell? ⟨w3.heap.size, 1, none⟩ = some (.slice la (mN nP) lc) ∧ Kept wc w')
          (exact keep2 d2 d3 (by repeat (first | assumption | exact Kept.refl _ | apply Kept.drew | apply Kept.drewN | apply Kept.alloc | refine Kept.trans ?_ (by assumption))))
          (first | (go_at_call 29; refine (SV.out _ _ _ _ (i - x) (fun t => C (x + t)) G2 (hR9.kept (by repeat (first | assumption | exact Kept.refl _ | apply Kept.drew | apply Kept.drewN | apply Kept.alloc | refine Kept.trans ?_ (by assumption)))) (hS10.kept (by repeat (first | assumption | exact Kept.refl _ | apply Kept.drew | apply Kept.drewN | apply Kept.alloc | refine Kept.trans ?_ (by assumption)))) (IntsAt.suf0 (CellsAt.kept hC9 (show Kept wr _ from (by repeat (first | assumption | exact Kept.refl _ | apply Kept.drew | apply Kept.drewN | apply Kept.alloc | refine Kept.trans ?_ (by assumption))))) hx) (by omega) HG2.out (fun j hj => HCL.out (x + j) (by omega))).mono ?_; rintro e wd ⟨ra, ro, rc, rfl, hS12, hk12⟩; rw [← HQ.out]; rw [HE.out] at hS12))
        go_wp2_with (first | (go_at_call 27; refine (SameSpots_true _ _ _ k _ _ hS12 (hS9.kept (show Kept wr _ from (by repeat (first | assumption | exact Kept.refl _ | apply Kept.drew | apply Kept.drewN | apply Kept.alloc | refine Kept.trans ?_ (by assumption))))) (by omega) (fun i _ => rfl)).mono ?_; rintro e w14 ⟨rfl, hk14⟩))
        go_ret
        exact ⟨rfl, hKB.trans (show Kept wr _ from (by repeat (first | assumption | exact Kept.refl _ | apply Kept.drew | apply Kept.drewN | apply Kept.alloc | refine Kept.trans ?_ (by assumption))))⟩
end Go.Proofs.Ytlgpclnmonpkjaa
