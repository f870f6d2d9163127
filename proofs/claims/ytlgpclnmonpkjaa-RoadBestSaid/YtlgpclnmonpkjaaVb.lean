/-
  Package road: Nearest; Plan for one call.
-/
import Derived.Test.YtlgpclnmonpkjaaVa
import Derived.Test.YtlgpclnmonpkjaaTx
namespace Go.Proofs.Ytlgpclnmonpkjaa
open Go.RowKit Go.Deep

theorem PlansPost.ok {w w' : World} {nO nL : Nat} {fO fL : Nat → Int} {k : Nat} {A B : Nat → Int} {m : Nat} {C : Nat → Int} {e : Ending} (h : plOk nO nL fO fL k A B m C = true) (hp : PlansPost w nO nL fO fL k A B m C e w') : ∃ v M, e = .returned (.tuple #[v, .int .i64 0]) ∧ PlansAt w' v (roadR nO fO fL) k m (callsN C) 0 (begS k A) M ∧ w.heap.size ≤ M ∧ w'.heap[M]? = some (.map #[] 0) ∧ Kept w w' := by
  unfold PlansPost at hp
  rwa [if_pos h] at hp
theorem plOk_with {nO nL : Nat} {fO fL : Nat → Int} {k : Nat} {A B : Nat → Int} {m : Nat} {C : Nat → Int} (h : plOk nO nL fO fL k A B m C = true) : withOk nO nL fO fL k A B m C = true := by
  unfold plOk at h
  simp only [Bool.and_eq_true] at h
  exact h.1
theorem begS_place {nO nL : Nat} {fO fL : Nat → Int} {k : Nat} {A B : Nat → Int} {m : Nat} {C : Nat → Int} (h : withOk nO nL fO fL k A B m C = true) : ∀ i, i < 3 → begS k A i < (roadR nO fO fL).n := fun i _ => by
  obtain ⟨p1, p2, p3, p4, p5, p6⟩ := withOk_parts h
  unfold begS
  split
  · next hi => exact (isSp_spot (p5 i hi)).1.1
  · exact (roadR_ok p1).pos
/-- the plan by the nearest -/
def nearF (nO : Nat) (fO fL : Nat → Int) (k : Nat) (A C : Nat → Int) : Nat → Nat := plF (callsN C) (wayP (roadR nO fO fL) (callsN C)) k (begS k A)
theorem nearF_lt (nO : Nat) (fO fL : Nat → Int) (k : Nat) (A C : Nat → Int) (hk : 1 ≤ k) (i : Nat) : nearF nO fO fL k A C i < k := bestH_lt _ k hk
set_option maxRecDepth 100000 in
set_option maxHeartbeats 8000000 in
theorem Nearest_ok (w : World) (v hv cv : Value) (nO nL : Nat) (fO fL : Nat → Int) (hR : RoadIn w v nO nL fO fL) (hnO : nO ≤ 1000000000) (hnL : nL ≤ 1000000000) (k : Nat) (A B : Nat → Int) (hP : PairsAt w hv k A B) (m : Nat) (C : Nat → Int) (hC : IntsAt w cv m C) (hok : plOk nO nL fO fL k A B m C = true) :
    Calls Try.prog 35 #[v, hv, cv] w fun e w' => e = .returned (.tuple #[.int .i64 ((cstP (roadR nO fO fL) (callsN C) (nearF nO fO fL k A C) (begS k A) m : Nat) : Int), .int .i64 0]) ∧ Kept w w' := by
  have hR0 := hR
  obtain ⟨p1, hk1, hk3, hm12, p5, p6⟩ := withOk_parts (plOk_with hok)
  have ok := roadR_ok p1
  have hSb := begS_place (plOk_with hok)
  obtain ⟨hI, hcp⟩ := calls_ints hC p6
  obtain ⟨x, y, rfl, ⟨aO, bO, oO, cO, rfl, _, _⟩, ⟨aL, bL, oL, cL, rfl, _, _⟩⟩ := hR
  obtain ⟨ha, hha, hhc, rfl⟩ : ∃ a n c, hv = .slice a n c := by obtain ⟨a, _, _, cap, e, _⟩ := hP; exact ⟨a, k, cap, e⟩
  obtain ⟨ca, cca, ccc, rfl⟩ : ∃ a n c, cv = .slice a n c := by obtain ⟨a, _, _, cap, e, _⟩ := hC; exact ⟨a, m, cap, e⟩
  have PO := Lib.hid (fun W (hW : RoadIn W (.agg #[.slice aO nO cO, .slice aL nL cL]) nO nL fO fL) (hP : PairsAt W (.slice ha hha hhc) k A B) (hC : IntsAt W (.slice ca cca ccc) m C) => plansOf_any W _ _ _ nO nL fO fL hW hnO hnL k A B hP (by omega) m C hC (by omega))
  obtain ⟨n0, HN0⟩ : ∃ n0, w.heap.size = n0 := ⟨_, rfl⟩
  obtain ⟨W1, hW1, hsz, q0, q1, hK⟩ := newbox2 w n0 HN0 (.slice aO nO cO) (.slice aL nL cL) 24
  have hR1 := hR0.kept hK
  have hP1 := hP.kept hK
  have hC1 := hC.kept hK
  obtain ⟨z0, HZ0⟩ : ∃ z0 : Nat, Hid (z0 = 0) := ⟨0, rfl⟩
  have PLN := Lib.hid (fun W pv M (hW : PlansAt W pv (roadR nO fO fL) k m (callsN C) z0 (begS k A) M) => planW_any W pv (roadR nO fO fL) ok k m (callsN C) (begS k A) M z0 HZ0 hW (by omega) hk1 hk3 hcp hSb (wayP (roadR nO fO fL) (callsN C)) (fun W s P h hW2 hs hPb hh => way_any W pv _ ok k m _ z0 _ M hW2 (by omega) hcp s P h hs (by omega) (hPb h (by omega))))
  have CST := Lib.hid (fun W pv M fv (hW : PlansAt W pv (roadR nO fO fL) k m (callsN C) z0 (begS k A) M) (hF : IntsAt W fv m (fun i => ((nearF nO fO fL k A C i : Nat) : Int))) => cost_any W pv fv (roadR nO fO fL) ok k m (callsN C) (begS k A) M z0 HZ0 hW (by omega) hk3 hcp hSb (nearF nO fO fL k A C) hF (fun i _ => nearF_lt nO fO fL k A C hk1 i))
  have HOK := Lib.hid hok
  have hmf : ∀ (fn : Fn) (first cap : Array Value) (w : World), (Instr.makeFunc fn first cap).run Try.prog w = .ok (.func fn first cap) w := fun _ _ _ _ => rfl
  obtain ⟨res, HRES⟩ : ∃ res, Hid (res = cstP (roadR nO fO fL) (callsN C) (nearF nO fO fL k A C) (begS k A) m) := ⟨_, rfl⟩
  rw [← HRES.out] at CST ⊢
  obtain ⟨NF, HNF⟩ : ∃ NF, Hid (NF = nearF nO fO fL k A C) := ⟨_, rfl⟩
  unfold PlanPost at PLN
  change Hid (∀ W pv M, PlansAt W pv (roadR nO fO fL) k m (callsN C) z0 (begS k A) M → Calls Try.prog 60 #[pv, .func (.func 63) #[pv] #[]] W (fun e w' => ∃ v, e = .returned v ∧ w'.ownsRow W.heap.size 3 1 v m (natsL (nearF nO fO fL k A C) m) ∧ Kept W w')) at PLN
  rw [← HNF.out] at PLN CST
  obtain ⟨BS, HBS⟩ : ∃ BS, Hid (BS = begS k A) := ⟨_, rfl⟩
  rw [← HBS.out] at PLN CST
  clear hok p1 p5 p6 hcp hI hSb HRES HNF
  go_enter Try.func35, Try.ntmps35
  go_wp2_with (first | (go_at_call 58; refine (PO.out _ hR1 hP1 hC1).mono ?_; intro e w3 hpp; obtain ⟨pv, M, rfl, hPl3, _, _, hk3'⟩ := PlansPost.ok HOK.out hpp; rw [← HBS.out] at hPl3; rw [← HZ0.out] at hPl3; obtain ⟨b0, o0, c0, b1, o1, c1, b2, o2, c2, pca, pcb, pco, pcc, rfl, _, _, _⟩ := id (hPl3.open ok); obtain ⟨a0, Ha0⟩ : ∃ a0, Hid (a0 = BS 0) := ⟨_, rfl⟩; obtain ⟨a1, Ha1⟩ : ∃ a1, Hid (a1 = BS 1) := ⟨_, rfl⟩; obtain ⟨a2, Ha2⟩ : ∃ a2, Hid (a2 = BS 2) := ⟨_, rfl⟩; rw [← Ha0.out, ← Ha1.out, ← Ha2.out] at hPl3 ⊢; obtain ⟨n4, HN4⟩ : ∃ n4, w3.heap.size = n4 := ⟨_, rfl⟩; obtain ⟨W4, hW4, hsz4, u0, u1, u2, u3, u4, u5, u6, u7, u8, u9, hK4⟩ := newbox10 w3 n4 HN4 (.slice (some ⟨b0, o0, none⟩) (roadR nO fO fL).n c0) (.slice (some ⟨b1, o1, none⟩) (roadR nO fO fL).n c1) (.slice (some ⟨b2, o2, none⟩) (roadR nO fO fL).n c2) (.slice pca m pcc) (.int .i64 (k : Int)) (.int .i64 (z0 : Int)) (.int .i64 (a0 : Int)) (.int .i64 (a1 : Int)) (.int .i64 (a2 : Int)) (.map (some M)) 106))
  have hPl4 := hPl3.kept hK4
  have hKa := (hK.trans hk3').trans hK4
  clear hW4 hsz4 HN4 hW1 hsz HN0
  go_region_held3 (fun w' => w'.cell? ⟨n4, 0, none⟩ = some (.slice (some ⟨b0, o0, none⟩) (roadR nO fO fL).n c0) ∧ w'.cell? ⟨n4, 1, none⟩ = some (.slice (some ⟨b1, o1, none⟩) (roadR nO fO fL).n c1) ∧ w'.cell? ⟨n4, 2, none⟩ = some (.slice (some ⟨b2, o2, none⟩) (roadR nO fO fL).n c2) ∧ w'.cell? ⟨n4, 3, none⟩ = some (.slice pca m pcc) ∧ w'.cell? ⟨n4, 4, none⟩ = some (.int .i64 (k : Int)) ∧ w'.cell? ⟨n4, 5, none⟩ = some (.int .i64 (z0 : Int)) ∧ w'.cell? ⟨n4, 6, none⟩ = some (.int .i64 (a0 : Int)) ∧ w'.cell? ⟨n4, 7, none⟩ = some (.int .i64 (a1 : Int)) ∧ w'.cell? ⟨n4, 8, none⟩ = some (.int .i64 (a2 : Int)) ∧ w'.cell? ⟨n4, 9, none⟩ = some (.map (some M)) ∧ Kept W4 w')
    (exact keep10 u0 u1 u2 u3 u4 u5 u6 u7 u8 u9 (by repeat (first | assumption | exact Kept.refl _ | apply Kept.drew | apply Kept.drewN | apply Kept.alloc | refine Kept.trans ?_ (by assumption))))
    (first | (go_at_call 60; refine (PLN.out _ _ M (hPl4.kept (by repeat (first | assumption | exact Kept.refl _ | apply Kept.drew | apply Kept.drewN | apply Kept.alloc | refine Kept.trans ?_ (by assumption))))).mono ?_; rintro e w5 ⟨fv, rfl, hf5, hk5⟩; obtain ⟨fa, fcap, rfl⟩ := own_shape hf5; have hF5 := IntsAt.of_natsL hf5; clear hf5) | (go_at_call 62; refine (CST.out _ _ M _ (hPl4.kept (by repeat (first | assumption | exact Kept.refl _ | apply Kept.drew | apply Kept.drewN | apply Kept.alloc | refine Kept.trans ?_ (by assumption)))) (CellsAt.kept hF5 (by repeat (first | assumption | exact Kept.refl _ | apply Kept.drew | apply Kept.drewN | apply Kept.alloc | refine Kept.trans ?_ (by assumption))))).mono ?_; rintro e w6 ⟨rfl, hk6⟩))
  all_goals
    go_wp2_with fail
    exact bodyPost_ret (v := .tuple #[.int .i64 (res : Int), .int .i64 0]) (by simp [results, Try.results35, go_sem]; try rfl) rfl ⟨rfl, hKa.trans (by repeat (first | assumption | exact Kept.refl _ | apply Kept.drew | apply Kept.drewN | apply Kept.alloc | refine Kept.trans ?_ (by assumption)))⟩
end Go.Proofs.Ytlgpclnmonpkjaa
