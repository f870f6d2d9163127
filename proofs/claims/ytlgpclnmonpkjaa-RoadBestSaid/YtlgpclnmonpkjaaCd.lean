/-
  Package road: fits, Cost.
-/
import Derived.Test.YtlgpclnmonpkjaaVc
namespace Go.Proofs.Ytlgpclnmonpkjaa
open Go.RowKit Go.Deep

def fitB (k : Nat) (F : Nat → Int) (n m : Nat) : Bool := allN (fun i => decide (0 ≤ F i) && decide (F i < k)) n && decide (n = m)
theorem fitB_iff {k : Nat} {F : Nat → Int} {n m : Nat} : fitB k F n m = true ↔ (∀ i, i < n → 0 ≤ F i ∧ F i < k) ∧ n = m := by
  unfold fitB
  simp only [Bool.and_eq_true, decide_eq_true_eq, allN_true]
set_option maxRecDepth 100000 in
set_option maxHeartbeats 4000000 in
theorem fits_any (w : World) (v fv : Value) (R : Road) (ok : R.Ok) (k m : Nat) (C : Nat → Nat) (S : Nat → Nat) (M : Nat) (s0 : Nat) (hP : PlansAt w v R k m C s0 S M) (n : Nat) (F : Nat → Int) (hFv : IntsAt w fv n F) (hn : n ≤ 1000000000) :
    Calls Try.prog 65 #[v, fv] w fun e w' => e = .returned (.bool (fitB k F n m)) ∧ Kept w w' := by
  obtain ⟨b0, o0, c0, b1, o1, c1, b2, o2, c2, ca, cb, co, ccap, rfl, _, _, _⟩ := hP.open ok
  obtain ⟨fa, fb, fo, fcap, rfl, hfa, hfc⟩ := hFv
  obtain ⟨n0, HN0⟩ : ∃ n0, w.heap.size = n0 := ⟨_, rfl⟩
  obtain ⟨W1, hW1, hsz, q0, q1, q2, q3, q4, q5, q6, q7, q8, q9, hK⟩ := newbox10 w n0 HN0 (.slice (some ⟨b0, o0, none⟩) R.n c0) (.slice (some ⟨b1, o1, none⟩) R.n c1) (.slice (some ⟨b2, o2, none⟩) R.n c2) (.slice ca m ccap) (.int .i64 (k : Int)) (.int .i64 (s0 : Int)) (.int .i64 (S 0 : Int)) (.int .i64 (S 1 : Int)) (.int .i64 (S 2 : Int)) (.map (some M)) 106
  have HFC := Lib.hid (fun i hi => hK.cellSome (hfc i hi))
  clear hfc hP q0 q1 q2 q5 q6 q7 q8 q9
  go_enter Try.func65, Try.ntmps65
  go_wp2_with fail
  clear hW1 hsz HN0
  go_loopg [9] n (fun g s9 wr => ∃ i : Nat, i ≤ n ∧ g = n - i ∧ s9 = .int .i64 i ∧ Hid (allN (fun i => decide (0 ≤ F i) && decide (F i < k)) i = true) ∧ Kept W1 wr)
  case atStart => exact ⟨0, Nat.zero_le _, rfl, rfl, rfl, Kept.refl _⟩
  case round =>
    obtain ⟨i, hle, rfl, rfl, hA, hK2⟩ := hrel
    obtain ⟨z3, z4, _⟩ := keep2 q3 q4 hK2
    by_cases hlt : i < n
    · obtain rfl := hfa (by omega)
      have n1 : (i : Int) < (n : Int) := by omega
      have n2 : (0 : Int) ≤ (i : Int) := by omega
      obtain ⟨p, HP⟩ : ∃ p, Hid (p = F i) := ⟨_, rfl⟩
      have h1 : wr.cell? ⟨fb, fo + i, none⟩ = some (.int .i64 p) := by rw [HP.out]; exact hK2.cellSome (HFC.out i hlt)
      by_cases e0 : p < 0
      · have hv : Hid (fitB k F n m = false) := by
          show _ = _
          cases h : fitB k F n m with
          | false => rfl
          | true => have := ((fitB_iff.1 h).1 i hlt).1; rw [← HP.out] at this; omega
        go_wp2_with fail
        go_ret
        exact ⟨ret_bool (by rw [hv.out]), hK.trans hK2⟩
      · by_cases e1 : p < (k : Int)
        · have hA2 : Hid (allN (fun i => decide (0 ≤ F i) && decide (F i < k)) (i + 1) = true) := allN_step hA.out (by rw [← HP.out, decide_eq_true e1, decide_eq_true (show 0 ≤ p by omega)]; rfl)
          have e2 : ¬ (k : Int) ≤ p := by omega
          go_wp2_with fail
          go_roundg (n - (i + 1))
          case measure => omega
          case rel => exact ⟨i + 1, by omega, rfl, by go_num, hA2.out, hK2⟩
        · have hv : Hid (fitB k F n m = false) := by
            show _ = _
            cases h : fitB k F n m with
            | false => rfl
            | true => have := ((fitB_iff.1 h).1 i hlt).2; rw [← HP.out] at this; omega
          have e2 : (k : Int) ≤ p := by omega
          go_wp2_with fail
          go_ret
          exact ⟨ret_bool (by rw [hv.out]), hK.trans hK2⟩
    · obtain rfl : i = n := by omega
      have hv : Hid (fitB k F i m = decide (i = m)) := by show _ = _; unfold fitB; rw [hA.out]; rfl
      have d2 : ((i : Int) == (m : Int)) = decide (i = m) := nat_beq2 i m
      have D2 := Lib.hid d2
      clear d2
      go_wp2_with fail
      go_ret
      exact ⟨ret_bool (by rw [hv.out, ← D2.out]), hK.trans hK2⟩
theorem PlansPost.bad {w w' : World} {nO nL : Nat} {fO fL : Nat → Int} {k : Nat} {A B : Nat → Int} {m : Nat} {C : Nat → Int} {e : Ending} (h : plOk nO nL fO fL k A B m C = false) (hp : PlansPost w nO nL fO fL k A B m C e w') : e = .returned (.tuple #[.agg #[.slice none 0 0, .slice none 0 0, .slice none 0 0, .slice none 0 0, .int .i64 0, .int .i64 0, .int .i64 0, .int .i64 0, .int .i64 0, .map none], .int .i64 1]) ∧ Kept w w' := by
  unfold PlansPost at hp
  rwa [if_neg (by rw [h]; simp)] at hp
def CostPost (w : World) (nO nL : Nat) (fO fL : Nat → Int) (k : Nat) (A B : Nat → Int) (m : Nat) (C : Nat → Int) (n : Nat) (F : Nat → Int) (e : Ending) (w' : World) : Prop :=
  (plOk nO nL fO fL k A B m C = false → e = .returned (.tuple #[.int .i64 0, .int .i64 1])) ∧
  (plOk nO nL fO fL k A B m C = true → fitB k F n m = false → e = .returned (.tuple #[.int .i64 0, .int .i64 2])) ∧
  (plOk nO nL fO fL k A B m C = true → fitB k F n m = true → e = .returned (.tuple #[.int .i64 ((cstP (roadR nO fO fL) (callsN C) (callsN F) (begS k A) m : Nat) : Int), .int .i64 0])) ∧ Kept w w'
set_option maxRecDepth 100000 in
set_option maxHeartbeats 8000000 in
theorem Cost_any (w : World) (v hv cv fv : Value) (nO nL : Nat) (fO fL : Nat → Int) (hR : RoadIn w v nO nL fO fL) (hnO : nO ≤ 1000000000) (hnL : nL ≤ 1000000000) (k : Nat) (A B : Nat → Int) (hP : PairsAt w hv k A B) (hk : k ≤ 1000000000) (m : Nat) (C : Nat → Int) (hC : IntsAt w cv m C) (hm : m ≤ 1000000000) (n : Nat) (F : Nat → Int) (hFv : IntsAt w fv n F) (hn : n ≤ 1000000000) :
    Calls Try.prog 41 #[v, hv, cv, fv] w (CostPost w nO nL fO fL k A B m C n F) := by
  have hR0 := hR
  obtain ⟨x, y, rfl, ⟨aO, bO, oO, cO, rfl, _, _⟩, ⟨aL, bL, oL, cL, rfl, _, _⟩⟩ := hR
  obtain ⟨ha, hha, hhc, rfl⟩ : ∃ a n c, hv = .slice a n c := by obtain ⟨a, _, _, cap, e, _⟩ := hP; exact ⟨a, k, cap, e⟩
  obtain ⟨ca, cca, ccc, rfl⟩ : ∃ a n c, cv = .slice a n c := by obtain ⟨a, _, _, cap, e, _⟩ := hC; exact ⟨a, m, cap, e⟩
  obtain ⟨fa, ffa, ffc, rfl⟩ : ∃ a n c, fv = .slice a n c := by obtain ⟨a, _, _, cap, e, _⟩ := hFv; exact ⟨a, n, cap, e⟩
  have PO := Lib.hid (fun W (hW : RoadIn W (.agg #[.slice aO nO cO, .slice aL nL cL]) nO nL fO fL) (hP : PairsAt W (.slice ha hha hhc) k A B) (hC : IntsAt W (.slice ca cca ccc) m C) => plansOf_any W _ _ _ nO nL fO fL hW hnO hnL k A B hP hk m C hC hm)
  obtain ⟨n0, HN0⟩ : ∃ n0, w.heap.size = n0 := ⟨_, rfl⟩
  obtain ⟨W1, hW1, hsz, q0, q1, hK⟩ := newbox2 w n0 HN0 (.slice aO nO cO) (.slice aL nL cL) 24
  have hR1 := hR0.kept hK
  have hP1 := hP.kept hK
  have hC1 := hC.kept hK
  have hFv1 : IntsAt W1 _ _ _ := CellsAt.kept hFv hK
  cases e1 : plOk nO nL fO fL k A B m C with
  | false =>
    have HOK := Lib.hid e1
    clear e1
    go_enter Try.func41, Try.ntmps41
    go_wp2_with (first | (go_at_call 58; refine (PO.out _ hR1 hP1 hC1).mono ?_; intro e w3 hpp; obtain ⟨rfl, hk3'⟩ := PlansPost.bad HOK.out hpp))
    exact bodyPost_ret (v := .tuple #[.int .i64 0, .int .i64 1]) (by simp [results, Try.results41, go_sem]; try rfl) rfl ⟨fun _ => rfl, fun h => (by rw [HOK.out] at h; cases h), fun h => (by rw [HOK.out] at h; cases h), (hK.trans hk3').alloc _⟩
  | true =>
    have HOK := Lib.hid e1
    obtain ⟨p1, hk1, hk3, hm12, p5, p6⟩ := withOk_parts (plOk_with e1)
    have ok := roadR_ok p1
    have hSb := begS_place (plOk_with e1)
    obtain ⟨hI, hcp⟩ := calls_ints hC p6
    obtain ⟨z0, HZ0⟩ : ∃ z0 : Nat, Hid (z0 = 0) := ⟨0, rfl⟩
    obtain ⟨BS, HBS⟩ : ∃ BS, Hid (BS = begS k A) := ⟨_, rfl⟩
    have FT := Lib.hid (fun W pv M (hW : PlansAt W pv (roadR nO fO fL) k m (callsN C) z0 BS M) (hF : IntsAt W (.slice fa ffa ffc) n F) => fits_any W pv _ (roadR nO fO fL) ok k m (callsN C) BS M z0 hW n F hF hn)
    cases e2 : fitB k F n m with
    | false =>
      have HFB := Lib.hid e2
      clear e1 e2 p1 p5 p6 hcp hI hSb
      go_enter Try.func41, Try.ntmps41
      go_wp2_with (first | (go_at_call 58; refine (PO.out _ hR1 hP1 hC1).mono ?_; intro e w3 hpp; obtain ⟨pv, M, rfl, hPl3, _, _, hk3'⟩ := PlansPost.ok HOK.out hpp; rw [← HBS.out] at hPl3; rw [← HZ0.out] at hPl3; obtain ⟨b0, o0, c0, b1, o1, c1, b2, o2, c2, pca, pcb, pco, pcc, rfl, _, _, _⟩ := id (hPl3.open ok); obtain ⟨a0, Ha0⟩ : ∃ a0, Hid (a0 = BS 0) := ⟨_, rfl⟩; obtain ⟨a1, Ha1⟩ : ∃ a1, Hid (a1 = BS 1) := ⟨_, rfl⟩; obtain ⟨a2, Ha2⟩ : ∃ a2, Hid (a2 = BS 2) := ⟨_, rfl⟩; rw [← Ha0.out, ← Ha1.out, ← Ha2.out] at hPl3 ⊢; obtain ⟨n4, HN4⟩ : ∃ n4, w3.heap.size = n4 := ⟨_, rfl⟩; obtain ⟨W4, hW4, hsz4, u0, u1, u2, u3, u4, u5, u6, u7, u8, u9, hK4⟩ := newbox10 w3 n4 HN4 (.slice (some ⟨b0, o0, none⟩) (roadR nO fO fL).n c0) (.slice (some ⟨b1, o1, none⟩) (roadR nO fO fL).n c1) (.slice (some ⟨b2, o2, none⟩) (roadR nO fO fL).n c2) (.slice pca m pcc) (.int .i64 (k : Int)) (.int .i64 (z0 : Int)) (.int .i64 (a0 : Int)) (.int .i64 (a1 : Int)) (.int .i64 (a2 : Int)) (.map (some M)) 106; have hPl4 := hPl3.kept hK4; have hF4 : IntsAt W4 _ _ _ := CellsAt.kept hFv1 (show Kept W1 W4 from hk3'.trans hK4)) | (go_at_call 65; refine (FT.out _ _ M hPl4 hF4).mono ?_; rw [HFB.out]; rintro e w5 ⟨rfl, hk5⟩; obtain ⟨u0', u1', u2', u3', u4', u5', u6', u7', u8', u9', _⟩ := keep10 u0 u1 u2 u3 u4 u5 u6 u7 u8 u9 hk5))
      exact bodyPost_ret (v := .tuple #[.int .i64 0, .int .i64 2]) (by simp [results, Try.results41, go_sem]; try rfl) rfl ⟨fun h => (by rw [HOK.out] at h; cases h), fun _ _ => rfl, fun _ h => (by rw [HFB.out] at h; cases h), ((hK.trans hk3').trans hK4).trans hk5⟩
    | true =>
      have HFB := Lib.hid e2
      obtain ⟨hfb, hnm⟩ := fitB_iff.1 e2
      have CST := Lib.hid (fun W pv M fv (hW : PlansAt W pv (roadR nO fO fL) k m (callsN C) z0 BS M) (hF : IntsAt W fv n F) => cost_any W pv fv (roadR nO fO fL) ok k m (callsN C) BS M z0 HZ0 hW (by omega) hk3 hcp (by rw [HBS.out]; exact hSb) (callsN F) (by
        rw [← hnm]
        exact CellsAt.congr hF (fun i hi => by have := (hfb i hi).1; show Value.int .i64 (F i) = Value.int .i64 (((F i).toNat : Nat) : Int); rw [show (((F i).toNat : Nat) : Int) = F i by omega])) (fun i hi => by have := hfb i (by omega); unfold callsN; omega))
      obtain ⟨res, HRES⟩ : ∃ res, Hid (res = cstP (roadR nO fO fL) (callsN C) (callsN F) BS m) := ⟨_, rfl⟩
      rw [← HRES.out] at CST
      have HPO := Lib.hid (show cstP (roadR nO fO fL) (callsN C) (callsN F) (begS k A) m = res by rw [HRES.out, HBS.out])
      clear e1 e2 p1 p5 p6 hcp hI hSb hfb hnm
      go_enter Try.func41, Try.ntmps41
      go_wp2_with (first | (go_at_call 58; refine (PO.out _ hR1 hP1 hC1).mono ?_; intro e w3 hpp; obtain ⟨pv, M, rfl, hPl3, _, _, hk3'⟩ := PlansPost.ok HOK.out hpp; rw [← HBS.out] at hPl3; rw [← HZ0.out] at hPl3; obtain ⟨b0, o0, c0, b1, o1, c1, b2, o2, c2, pca, pcb, pco, pcc, rfl, _, _, _⟩ := id (hPl3.open ok); obtain ⟨a0, Ha0⟩ : ∃ a0, Hid (a0 = BS 0) := ⟨_, rfl⟩; obtain ⟨a1, Ha1⟩ : ∃ a1, Hid (a1 = BS 1) := ⟨_, rfl⟩; obtain ⟨a2, Ha2⟩ : ∃ a2, Hid (a2 = BS 2) := ⟨_, rfl⟩; rw [← Ha0.out, ← Ha1.out, ← Ha2.out] at hPl3 ⊢; obtain ⟨n4, HN4⟩ : ∃ n4, w3.heap.size = n4 := ⟨_, rfl⟩; obtain ⟨W4, hW4, hsz4, u0, u1, u2, u3, u4, u5, u6, u7, u8, u9, hK4⟩ := newbox10 w3 n4 HN4 (.slice (some ⟨b0, o0, none⟩) (roadR nO fO fL).n c0) (.slice (some ⟨b1, o1, none⟩) (roadR nO fO fL).n c1) (.slice (some ⟨b2, o2, none⟩) (roadR nO fO fL).n c2) (.slice pca m pcc) (.int .i64 (k : Int)) (.int .i64 (z0 : Int)) (.int .i64 (a0 : Int)) (.int .i64 (a1 : Int)) (.int .i64 (a2 : Int)) (.map (some M)) 106; have hPl4 := hPl3.kept hK4; have hF4 : IntsAt W4 _ _ _ := CellsAt.kept hFv1 (show Kept W1 W4 from hk3'.trans hK4)) | (go_at_call 65; refine (FT.out _ _ M hPl4 hF4).mono ?_; rw [HFB.out]; rintro e w5 ⟨rfl, hk5⟩; obtain ⟨u0', u1', u2', u3', u4', u5', u6', u7', u8', u9', _⟩ := keep10 u0 u1 u2 u3 u4 u5 u6 u7 u8 u9 hk5) | (go_at_call 62; refine (CST.out _ _ M _ (hPl4.kept hk5) (CellsAt.kept hF4 hk5)).mono ?_; rintro e w6 ⟨rfl, hk6⟩))
      exact bodyPost_ret (v := .tuple #[.int .i64 (res : Int), .int .i64 0]) (by simp [results, Try.results41, go_sem]; try rfl) rfl ⟨fun h => (by rw [HOK.out] at h; cases h), fun _ h => (by rw [HFB.out] at h; cases h), fun _ _ => by rw [HPO.out], (((hK.trans hk3').trans hK4).trans hk5).trans hk6⟩
end Go.Proofs.Ytlgpclnmonpkjaa
