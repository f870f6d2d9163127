/-
  The references' Same and SameSpots; package road: Plan for one call.
-/
import Derived.Test.YtlgpclnmonpkjaaVb
import Derived.BigQuiet
namespace Go.Proofs.Ytlgpclnmonpkjaa
open Go.RowKit Go.Deep

set_option maxHeartbeats 1000000 in
theorem before_any (w : World) (va vb : Value) (na nb : Nat) (fa fb : Nat → Int) (ha : IntsAt w va na fa) (hb : IntsAt w vb nb fb) (hna : na ≤ 1000000) (hnb : nb ≤ 1000000) :
    Calls Try.prog 57 #[va, vb] w fun e w' => e = .returned (.bool (before na fa nb fb)) ∧ Quiet w w' := by
  obtain ⟨a, b, o, cap, rfl, ha, hc⟩ := ha
  obtain ⟨a2, b2, o2, cap2, rfl, ha2, hc2⟩ := hb
  unfold before
  go_enter Try.func57, Try.ntmps57
  go_wp2
  go_loopg [5] na (fun g i wr => ∃ k : Nat, k ≤ na ∧ k ≤ nb ∧ g = na - k ∧ i = .int .i64 k ∧ Hid (bef fa fb na nb (min na nb) 0 = bef fa fb na nb (min na nb - k) k) ∧ Quiet w wr)
  case atStart => exact ⟨0, Nat.zero_le _, Nat.zero_le _, rfl, rfl, rfl, Quiet.refl _⟩
  case round =>
    obtain ⟨k, hk, hk2, rfl, rfl, hH, hq⟩ := hrel
    by_cases hlt : k < na
    · by_cases hlt2 : k < nb
      · obtain rfl := ha (by omega)
        obtain rfl := ha2 (by omega)
        have h1 := hq.kept.cellSome (hc k hlt)
        have h2 := hq.kept.cellSome (hc2 k hlt2)
        have hs : bef fa fb na nb (min na nb - k) k = (if fa k = fb k then bef fa fb na nb (min na nb - (k + 1)) (k + 1) else decide (fa k < fb k)) := by
          rw [show min na nb - k = (min na nb - (k + 1)) + 1 by omega]; rfl
        have HS := Lib.hid hs
        clear hc ha hc2 ha2 hs
        go_wp2
        cases e1 : (fa k != fb k)
        · go_quiet (fail)
          go_wp2
          go_roundg (na - (k+1))
          case measure => omega
          case rel => exact ⟨k + 1, by omega, by omega, rfl, by go_num, by (show _ = _; rw [hH.out, HS.out, if_pos (by simpa using e1)]), by repeat (first | exact hq | apply Quiet.drewN | apply Quiet.drew)⟩
        · go_quiet (fail)
          go_wp2
          go_quiet (fail)
          go_wp2
          go_ret
          exact ⟨ret_bool (by rw [hH.out, HS.out, if_neg (by simpa using e1)]), by repeat (first | exact hq | apply Quiet.drewN | apply Quiet.drew)⟩
      · go_wp2
        go_ret
        exact ⟨ret_bool (by rw [hH.out, show min na nb - k = 0 by omega]; simp [bef]), hq⟩
    · go_wp2
      go_ret
      exact ⟨ret_bool (by rw [hH.out, show min na nb - k = 0 by omega]; simp [bef]), hq⟩

theorem same_any (w : World) (va vb : Value) (na nb : Nat) (fa fb : Nat → Int) (ha : IntsAt w va na fa) (hb : IntsAt w vb nb fb) (hna : na ≤ 1000000) (hnb : nb ≤ 1000000) :
    Calls Try.prog 32 #[va, vb] w fun e w' => e = .returned (.bool (same na fa nb fb)) ∧ Quiet w w' := by
  rw [← before_same]
  go_enter Try.func32, Try.ntmps32
  go_wp2_with fail
  refine (before_any _ _ _ na nb fa fb ha hb hna hnb).mono ?_
  rintro e w1 ⟨rfl, ⟨nq, rfl⟩⟩
  cases e1 : before na fa nb fb
  · go_wp2_with fail
    refine (before_any _ _ _ nb na fb fa (hb.kept ((Kept.refl _).drewN nq)) (ha.kept ((Kept.refl _).drewN nq)) hnb hna).mono ?_
    rintro e w2 ⟨rfl, ⟨nq2, rfl⟩⟩
    go_wp2
    go_ret
    exact ⟨ret_bool (by simp [e1]), nq + nq2, by simp⟩
  · go_wp2_with fail
    go_wp2
    go_ret
    exact ⟨ret_bool (by simp [e1]), nq, rfl⟩

theorem same_refl (n : Nat) (f g : Nat → Int) (h : ∀ i, i < n → f i = g i) : same n f n g = true := by
  unfold same
  simp only [decide_true, Bool.true_and]
  exact allN_true.2 (fun i hi => by rw [h i hi]; simp)
set_option maxRecDepth 100000 in
set_option maxHeartbeats 4000000 in
theorem SameSpots_true (w : World) (va vb : Value) (n : Nat) (H G : Nat → Sp) (hA : SpsAt w va n H) (hB : SpsAt w vb n G) (hn : n ≤ 1000000) (hE : ∀ i, i < n → H i = G i) :
    Calls Try.prog 27 #[va, vb] w fun e w' => e = .returned (.bool true) ∧ Kept w w' := by
  obtain ⟨a, b, o, cap, rfl, ha, hc⟩ := hA
  obtain ⟨a2, b2, o2, cap2, rfl, ha2, hc2⟩ := hB
  have n0 : ((n : Int) != (n : Int)) = false := by simp
  have HC := Lib.hid hc
  have HC2 := Lib.hid hc2
  have HE := Lib.hid hE
  clear hc hc2 hE
  go_enter Try.func27, Try.ntmps27
  go_wp2_with fail
  go_loopg [5] n (fun g i wr => ∃ k : Nat, k ≤ n ∧ g = n - k ∧ i = .int .i64 k ∧ Kept w wr)
  case atStart => exact ⟨0, Nat.zero_le _, rfl, rfl, Kept.refl _⟩
  case round =>
    obtain ⟨k, hk, rfl, rfl, hK⟩ := hrel
    by_cases hlt : k < n
    · obtain rfl := ha (by omega)
      obtain rfl := ha2 (by omega)
      obtain ⟨c1, c2⟩ := HC.out k hlt
      obtain ⟨c3, c4⟩ := HC2.out k hlt
      have h1 := hK.cellSome c1
      have h2 := hK.cellSome c2
      have h3 := hK.cellSome c3
      have h4 := hK.cellSome c4
      rw [← HE.out k hlt] at h3 h4
      obtain ⟨⟨p, u⟩, HP⟩ : ∃ p, Hid (p = H k) := ⟨_, rfl⟩
      rw [← HP.out] at h1 h2 h3 h4
      simp only at h1 h2 h3 h4
      have m1 : (k : Int) < (n : Int) := by omega
      have m2 : (0 : Int) ≤ (k : Int) := by omega
      clear c1 c2 c3 c4
      go_wp2_with fail
      go_quiet (fail)
      go_wp2_with fail
      go_roundg (n - (k + 1))
      case measure => omega
      case rel => exact ⟨k + 1, by omega, rfl, by go_num, hK.drewN _⟩
    · go_wp2_with fail
      go_ret
      exact ⟨rfl, hK⟩
set_option maxRecDepth 100000 in
set_option maxHeartbeats 8000000 in
theorem Plan_one (w : World) (v hv cv : Value) (nO nL : Nat) (fO fL : Nat → Int) (hR : RoadIn w v nO nL fO fL) (hnO : nO ≤ 1000000000) (hnL : nL ≤ 1000000000) (k : Nat) (A B : Nat → Int) (hP : PairsAt w hv k A B) (m : Nat) (h1 : Hid (m = 1)) (C : Nat → Int) (hC : IntsAt w cv m C) (hok : plOk nO nL fO fL k A B m C = true) :
    Calls Try.prog 34 #[v, hv, cv] w fun e w' => ∃ pv, e = .returned (.tuple #[pv, .int .i64 0]) ∧ IntsAt w' pv m (fun i => ((nearF nO fO fL k A C i : Nat) : Int)) ∧ Kept w w' := by
  have hR0 := hR
  obtain ⟨p1, hk1, hk3, hm12, p5, p6⟩ := withOk_parts (plOk_with hok)
  have ok := roadR_ok p1
  have hSb := begS_place (plOk_with hok)
  obtain ⟨hI, hcp⟩ := calls_ints hC p6
  obtain ⟨x, y, rfl, ⟨aO, bO, oO, cO, rfl, _, _⟩, ⟨aL, bL, oL, cL, rfl, _, _⟩⟩ := hR
  obtain ⟨ha, hha, hhc, rfl⟩ : ∃ a n c, hv = .slice a n c := by obtain ⟨a, _, _, cap, e, _⟩ := hP; exact ⟨a, k, cap, e⟩
  obtain ⟨ca, cca, ccc, rfl⟩ : ∃ a n c, cv = .slice a n c := by obtain ⟨a, _, _, cap, e, _⟩ := hC; exact ⟨a, m, cap, e⟩
  have PO := Lib.hid (fun W (hW : RoadIn W (.agg #[.slice aO nO cO, .slice aL nL cL]) nO nL fO fL) (hP : PairsAt W (.slice ha hha hhc) k A B) (hC : IntsAt W (.slice ca cca ccc) m C) => plansOf_any W _ _ _ nO nL fO fL hW hnO hnL k A B hP (by omega) m C hC (by omega))
  obtain ⟨n0, HN0⟩ : ∃ n0, w.heap.size = n0 := ⟨_, rfl⟩
  obtain ⟨W1, hW1, hsz, q0, q1, hK⟩ := newbox2 w n0 HN0 (.slice aO nO cO) (.slice aL nL cL) 24
  have hR1 := hR0.kept hK
  have hP1 := hP.kept hK
  have hC1 := hC.kept hK
  obtain ⟨z0, HZ0⟩ : ∃ z0 : Nat, Hid (z0 = 0) := ⟨0, rfl⟩
  have PLN := Lib.hid (fun W pv M (hW : PlansAt W pv (roadR nO fO fL) k m (callsN C) z0 (begS k A) M) => planL_any W pv (roadR nO fO fL) ok k m (callsN C) (begS k A) M z0 HZ0 hW (by omega) hk1 hk3 hcp hSb (wayP (roadR nO fO fL) (callsN C)) (fun W s P h hW2 hs hPb hh => leastWith_any W pv _ ok k m _ z0 _ M hW2 (by omega) hcp s P h hs (by omega) (hPb h (by omega)) 0 (by omega) (fun W3 hW3 => by
    have e : s + 1 = m := by have := h1.out; omega
    rw [e]
    exact least_end W3 pv _ ok k m _ z0 _ M hW3 _)))
  have HOK := Lib.hid hok
  have hmf : ∀ (fn : Fn) (first cap : Array Value) (w : World), (Instr.makeFunc fn first cap).run Try.prog w = .ok (.func fn first cap) w := fun _ _ _ _ => rfl
  unfold PlanPost at PLN
  change Hid (∀ W pv M, PlansAt W pv (roadR nO fO fL) k m (callsN C) z0 (begS k A) M → Calls Try.prog 60 #[pv, .func (.func 61) #[pv] #[]] W (fun e w' => ∃ v, e = .returned v ∧ w'.ownsRow W.heap.size 3 1 v m (natsL (nearF nO fO fL k A C) m) ∧ Kept W w')) at PLN
  obtain ⟨NF, HNF⟩ : ∃ NF, Hid (NF = nearF nO fO fL k A C) := ⟨_, rfl⟩
  rw [← HNF.out] at PLN ⊢
  obtain ⟨BS, HBS⟩ : ∃ BS, Hid (BS = begS k A) := ⟨_, rfl⟩
  rw [← HBS.out] at PLN
  clear hok p1 p5 p6 hcp hI hSb HNF
  go_enter Try.func34, Try.ntmps34
  go_wp2_with (first | (go_at_call 58; refine (PO.out _ hR1 hP1 hC1).mono ?_; intro e w3 hpp; obtain ⟨pv, M, rfl, hPl3, _, _, hk3'⟩ := PlansPost.ok HOK.out hpp; rw [← HBS.out] at hPl3; rw [← HZ0.out] at hPl3; obtain ⟨b0, o0, c0, b1, o1, c1, b2, o2, c2, pca, pcb, pco, pcc, rfl, _, _, _⟩ := id (hPl3.open ok); obtain ⟨a0, Ha0⟩ : ∃ a0, Hid (a0 = BS 0) := ⟨_, rfl⟩; obtain ⟨a1, Ha1⟩ : ∃ a1, Hid (a1 = BS 1) := ⟨_, rfl⟩; obtain ⟨a2, Ha2⟩ : ∃ a2, Hid (a2 = BS 2) := ⟨_, rfl⟩; rw [← Ha0.out, ← Ha1.out, ← Ha2.out] at hPl3 ⊢; obtain ⟨n4, HN4⟩ : ∃ n4, w3.heap.size = n4 := ⟨_, rfl⟩; obtain ⟨W4, hW4, hsz4, u0, u1, u2, u3, u4, u5, u6, u7, u8, u9, hK4⟩ := newbox10 w3 n4 HN4 (.slice (some ⟨b0, o0, none⟩) (roadR nO fO fL).n c0) (.slice (some ⟨b1, o1, none⟩) (roadR nO fO fL).n c1) (.slice (some ⟨b2, o2, none⟩) (roadR nO fO fL).n c2) (.slice pca m pcc) (.int .i64 (k : Int)) (.int .i64 (z0 : Int)) (.int .i64 (a0 : Int)) (.int .i64 (a1 : Int)) (.int .i64 (a2 : Int)) (.map (some M)) 106) | (go_at_call 60; refine (PLN.out _ _ M (hPl3.kept hK4)).mono ?_; rintro e w5 ⟨fv, rfl, hf5, hk5⟩; obtain ⟨fa, fcap, rfl⟩ := own_shape hf5))
  exact bodyPost_ret (v := .tuple #[.slice fa m fcap, .int .i64 0]) (by simp [results, Try.results34, go_sem]; try rfl) rfl ⟨_, rfl, IntsAt.of_natsL hf5, ((hK.trans hk3').trans hK4).trans hk5⟩
end Go.Proofs.Ytlgpclnmonpkjaa
