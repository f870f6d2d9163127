/-
  The reference's Int: its digits lie in a row of numbers.
-/
import Derived.Test.YtlnlddnjalfamaaGreatDoorUa
namespace Go.Proofs.YtlnlddnjalfamaaGreatDoor.Num
open Go.RowKit Go.Deep

set_option maxRecDepth 100000 in
set_option maxHeartbeats 8000000 in
theorem Int_posT (w : World) (M : Int) (hM0 : 0 ≤ M) (hM1 : M < 10000 ^ 5) :
    Calls Tryz.prog 64 #[.int .i64 M] w (ZPostT w M) := by
  obtain ⟨i0, hi, hz0, hz1, hz2⟩ := info_parts Tryz.info3
  have hsg : decide (M < 0) = false := decide_eq_false (by omega)
  have hA := box_row (w.alloc (.cells #[.bool false, .slice none 0 0] 53)) (.bool false) (.slice none 0 0) 53 (w.heap.size + 1) (by simp)
  have hB := ((Kept.refl _).alloc (.cells #[.bool false, .slice none 0 0] 53)).row (box_row w (.bool false) (.slice none 0 0) 53 w.heap.size rfl)
  have hK0 : Kept w ((w.alloc (.cells #[.bool false, .slice none 0 0] 53)).alloc (.cells #[.bool false, .slice none 0 0] 53)) := ((Kept.refl w).alloc _).alloc _
  go_enter Tryz.func64, Tryz.ntmps64
  go_wp2_with fail
  generalize ((w.alloc (.cells #[.bool false, .slice none 0 0] 53)).alloc (.cells #[.bool false, .slice none 0 0] 53)) = W at *
  obtain ⟨z0, HZ0⟩ : ∃ z0, Hid (z0 = w.heap.size + 1) := ⟨_, rfl⟩
  obtain ⟨r0, HR0⟩ : ∃ r0, Hid (r0 = w.heap.size) := ⟨_, rfl⟩
  rw [← HZ0.out] at hA ⊢
  rw [← HR0.out] at hB ⊢
  have hzw : w.heap.size ≤ z0 := by rw [HZ0.out]; omega
  have hrw : w.heap.size ≤ r0 := by rw [HR0.out]; exact Nat.le_refl _
  have hrz : r0 ≠ z0 := by rw [HZ0.out, HR0.out]; omega
  have hzl : z0 < W.heap.size := hA.lt
  have hrl : r0 < W.heap.size := hB.lt
  have hwW := hK0.size
  have hO0 : W.ownsRow W.heap.size 3 1 (.slice none 0 0) 0 (ints (fun _ => 0) 0) := own_none W _ _ _
  have hV0 : Hid (valZ (fun _ => 0) 0 + M * 10000 ^ 0 = M) := by show _ = _; simp [valZ]
  clear HZ0 HR0 hsg
  go_loopg [0] 5 (fun g s0 wr => ∃ (k : Nat) (q : Int) (D : Nat → Int) (sv : Value), k ≤ 5 ∧ g = 5 - k ∧ s0 = .int .i64 (q) ∧ 0 ≤ q ∧ Kept w wr ∧ W.heap.size ≤ wr.heap.size ∧ wr.rowIs z0 53 2 (bx (.bool false) sv) ∧ wr.rowIs r0 53 2 (bx (.bool false) (.slice none 0 0)) ∧ wr.ownsRow W.heap.size 3 1 sv k (ints D k) ∧ Hid (DigZ D k) ∧ Hid (valZ D k + q * 10000 ^ k = M) ∧ Hid (q = 0 → 0 < k → D (k - 1) ≠ 0))
  case atStart => exact ⟨0, M, fun _ => 0, _, by omega, rfl, rfl, hM0, hK0, Nat.le_refl _, hA, hB, hO0, (fun i h => by omega), hV0.out, (fun _ h => by omega)⟩
  case round =>
    obtain ⟨k, q, D, sv, hk5, rfl, rfl, hq0, hK, hsz, hZ, hRr, hO, hG, hV, hT⟩ := hrel
    clear hA hB hK0 hO0 hV0
    obtain ⟨oa, ocap, rfl, _⟩ := own_form hO
    obtain ⟨x0, x1, x2, x3⟩ := bx_cells hZ
    by_cases hq : q = 0
    · subst hq
      have hfin : Hid (valZ D k = M) := by have := hV.out; rw [Int.zero_mul] at this; show _ = _; omega
      have hlean : Hid (LeanZ D k) := ⟨hG.out, hT.out rfl⟩
      obtain ⟨j0, j1, j2, j3⟩ := bx_cells hRr
      have hRF := bx_set1 (bx_set0 hRr (.bool false)) (.slice oa k ocap)
      have hKF : Kept w ((wr.setCell ⟨r0, 0, none⟩ (.bool false)).setCell ⟨r0, 1, none⟩ (.slice oa k ocap)) := (hK.setCell hrw _).setCell hrw _
      have hO9 := own_keptX hO (((KeptX.refl (fun k => k = r0) wr).setIn 0 (.bool false)).setIn 1 (.slice oa k ocap)) (fun b h => by omega)
      have HO9 := Lib.hid (SlAt.of_own hO9)
      have HT9 := Lib.hid (ty_own hO9)
      obtain ⟨g0, g1, _, _⟩ := bx_cells hRF
      clear hV hG hT hO9
      skip
      go_wp2_with fail
      generalize ((wr.setCell ⟨r0, 0, none⟩ (.bool false)).setCell ⟨r0, 1, none⟩ (.slice oa k ocap)) = WF at *
      exact bodyPost_ret (v := .agg #[.bool false, .slice oa k ocap]) (by simp [results, Tryz.results64, go_sem, g0, g1]) rfl ⟨_, rfl, ⟨false, _, k, D, rfl, HO9.out, hlean.out, (fun h => by cases h), by rw [hfin.out]; rfl, by omega⟩, HT9.out _, hKF⟩
    · have hne : ¬ q = 0 := by omega
      have hk4 : k < 5 := by
        rcases Nat.lt_or_ge k 5 with h | h
        · exact h
        · exfalso
          have h1 := pw_le h
          have h2 := hV.out
          have h3 := valZ_bd hG.out
          have h4 : 1 * 10000 ^ k ≤ q * 10000 ^ k := Int.mul_le_mul_of_nonneg_right (by omega) (Int.le_of_lt (pw_pos k))
          omega
      have hqM : q ≤ 100000000000000000000 := by
        have h2 := hV.out
        have h3 := valZ_bd hG.out
        have h4 : q * 1 ≤ q * 10000 ^ k := Int.mul_le_mul_of_nonneg_left (by have := pw_pos k; omega) hq0
        omega
      obtain ⟨R, HRD⟩ : ∃ R, Hid (R = q % 10000) := ⟨_, rfl⟩
      obtain ⟨Q, HQD⟩ : ∃ Q, Hid (Q = q / 10000) := ⟨_, rfl⟩
      have hdm : Hid (q = R + Q * 10000) := by show _ = _; rw [HRD.out, HQD.out]; omega
      have hR1 : 0 ≤ R ∧ R < 10000 := by rw [HRD.out]; omega
      have hQ1 : 0 ≤ Q := by rw [HQD.out]; omega
      have hQ2 : Q ≤ 10000000000000000 := by rw [HQD.out]; omega
      obtain ⟨hRa, hRb⟩ := hR1
      have hV2 : Hid (valZ (snI D k R) (k + 1) + Q * 10000 ^ (k + 1) = M) := by
        show _ = _
        have g1 : valZ (snI D k R) k = valZ D k := valZ_congr (fun j hj => by unfold snI; rw [if_neg (by omega)])
        have g2 : snI D k R k = R := by unfold snI; rw [if_pos rfl]
        simp only [valZ, g1, g2, pw_succ]
        have h1 := hV.out
        have h2 := hdm.out
        rw [h2] at h1
        grind
      have hG2 : Hid (DigZ (snI D k R) (k + 1)) := fun j hj => by
        unfold snI
        by_cases e : j = k
        · rw [if_pos e]; exact ⟨hRa, hRb⟩
        · rw [if_neg e]; exact hG.out j (by omega)
      have hT2 : Hid (Q = 0 → 0 < k + 1 → snI D k R (k + 1 - 1) ≠ 0) := fun h _ => by
        rw [Nat.add_sub_cancel]
        unfold snI
        rw [if_pos rfl]
        have := hdm.out
        intro h3
        apply hq
        omega
      clear hdm hV hG hT
      skip
      have t1 : Int.tmod q 10000 = R := by rw [HRD.out]; exact Int.tmod_eq_emod_of_nonneg (by omega)
      have t2 : Int.tdiv q 10000 = Q := by rw [HQD.out]; exact Int.tdiv_eq_ediv_of_nonneg (by omega)
      have t3 : ¬ R < 0 := by omega
      clear HRD HQD
      go_wp2_with (first | (at_builtin; refine wpList_append_own _ rfl _ _ 27 rfl W.heap.size 3 i0 (.int .i64 0) 1 8 Tryz.underlying27 hi hz0 hz1 hz2 rfl (by decide) _ _ _ rfl (hO.alloc _) ⟨wr.heap.size, 0, none⟩ 1 1 [.int .i64 R] rfl rfl (news_one _ _ _) ?c2 ?c3 ?c4 ?c5 ?_))
      case c2 => simp [Value.oneCell']
      case c3 => unfold maxLen; omega
      case c4 => omega
      case c5 => first | omega | (simp; omega)
      intro v' w2 hO3 hgr _
      have hX := grew_X hgr (hO.alloc (.cells #[.int .i64 R] 3))
      have hZ2 := hX.row (((Kept.refl wr).alloc (.cells #[.int .i64 R] 3)).row hZ) (by omega)
      have hR2 := hX.row (((Kept.refl wr).alloc (.cells #[.int .i64 R] 3)).row hRr) (by omega)
      have hK2 : Kept w w2 := (hK.alloc _).step hX (fun i hi => Nat.le_trans hwW hi)
      have hs2 : W.heap.size ≤ w2.heap.size := Nat.le_trans (Nat.le_trans hsz ((Kept.refl wr).alloc (.cells #[.int .i64 R] 3)).size) hgr.size
      have hO4 : w2.ownsRow W.heap.size 3 1 v' (k + 1) (ints (snI D k R) (k + 1)) := by rw [ints_sn]; exact hO3
      obtain ⟨va, vc, rfl, _⟩ := own_form hO4
      obtain ⟨y0, y1, y2, y3⟩ := bx_cells hZ2
      have hZ3 := bx_set1 hZ2 (.slice va (k + 1) vc)
      have hR3 := hR2.setOther (a := ⟨z0, 1, none⟩) hrz (.slice va (k + 1) vc)
      have hK3 : Kept w (w2.setCell ⟨z0, 1, none⟩ (.slice va (k + 1) vc)) := hK2.setCell hzw _
      have hO5 := own_keptX hO4 ((KeptX.refl (fun k => k = z0) w2).setIn 1 (.slice va (k + 1) vc)) (fun b h => by omega)
      have hs3 : W.heap.size ≤ (w2.setCell ⟨z0, 1, none⟩ (.slice va (k + 1) vc)).heap.size := by rw [nblk_setCell]; exact hs2
      have HO5 := Lib.hid hO5
      clear hO3 hX hgr hO hO4 hO5 hK hK2 hZ hRr hR2 hsz hs2 y0 x0 x1 x2 x3
      go_wp2_with fail
      generalize (w2.setCell ⟨z0, 1, none⟩ (.slice va (k + 1) vc)) = W3 at *
      go_roundg (5 - (k + 1))
      case measure => omega
      case rel => exact ⟨k + 1, Q, snI D k R, _, by omega, rfl, by go_num, by omega, hK3, hs3, hZ3, hR3, HO5.out, hG2.out, hV2.out, hT2.out⟩
set_option maxRecDepth 100000 in
set_option maxHeartbeats 8000000 in
theorem Int_negT (w : World) (M : Int) (hMp : 0 < M) (hM1 : M < 10000 ^ 5) :
    Calls Tryz.prog 64 #[.int .i64 (-M)] w (ZPostT w (-M)) := by
  obtain ⟨i0, hi, hz0, hz1, hz2⟩ := info_parts Tryz.info3
  have hM0 : 0 ≤ M := by omega
  have hsg : decide (-M < 0) = true := decide_eq_true (by omega)
  have hA := box_row (w.alloc (.cells #[.bool false, .slice none 0 0] 53)) (.bool true) (.slice none 0 0) 53 (w.heap.size + 1) (by simp)
  have hB := ((Kept.refl _).alloc (.cells #[.bool true, .slice none 0 0] 53)).row (box_row w (.bool false) (.slice none 0 0) 53 w.heap.size rfl)
  have hK0 : Kept w ((w.alloc (.cells #[.bool false, .slice none 0 0] 53)).alloc (.cells #[.bool true, .slice none 0 0] 53)) := ((Kept.refl w).alloc _).alloc _
  go_enter Tryz.func64, Tryz.ntmps64
  go_wp2_with fail
  generalize ((w.alloc (.cells #[.bool false, .slice none 0 0] 53)).alloc (.cells #[.bool true, .slice none 0 0] 53)) = W at *
  obtain ⟨z0, HZ0⟩ : ∃ z0, Hid (z0 = w.heap.size + 1) := ⟨_, rfl⟩
  obtain ⟨r0, HR0⟩ : ∃ r0, Hid (r0 = w.heap.size) := ⟨_, rfl⟩
  rw [← HZ0.out] at hA ⊢
  rw [← HR0.out] at hB ⊢
  have hzw : w.heap.size ≤ z0 := by rw [HZ0.out]; omega
  have hrw : w.heap.size ≤ r0 := by rw [HR0.out]; exact Nat.le_refl _
  have hrz : r0 ≠ z0 := by rw [HZ0.out, HR0.out]; omega
  have hzl : z0 < W.heap.size := hA.lt
  have hrl : r0 < W.heap.size := hB.lt
  have hwW := hK0.size
  have hO0 : W.ownsRow W.heap.size 3 1 (.slice none 0 0) 0 (ints (fun _ => 0) 0) := own_none W _ _ _
  have hV0 : Hid (valZ (fun _ => 0) 0 + M * 10000 ^ 0 = M) := by show _ = _; simp [valZ]
  clear HZ0 HR0 hsg
  go_loopg [0] 5 (fun g s0 wr => ∃ (k : Nat) (q : Int) (D : Nat → Int) (sv : Value), k ≤ 5 ∧ g = 5 - k ∧ s0 = .int .i64 (-q) ∧ 0 ≤ q ∧ Kept w wr ∧ W.heap.size ≤ wr.heap.size ∧ wr.rowIs z0 53 2 (bx (.bool true) sv) ∧ wr.rowIs r0 53 2 (bx (.bool false) (.slice none 0 0)) ∧ wr.ownsRow W.heap.size 3 1 sv k (ints D k) ∧ Hid (DigZ D k) ∧ Hid (valZ D k + q * 10000 ^ k = M) ∧ Hid (q = 0 → 0 < k → D (k - 1) ≠ 0))
  case atStart => exact ⟨0, M, fun _ => 0, _, by omega, rfl, rfl, hM0, hK0, Nat.le_refl _, hA, hB, hO0, (fun i h => by omega), hV0.out, (fun _ h => by omega)⟩
  case round =>
    obtain ⟨k, q, D, sv, hk5, rfl, rfl, hq0, hK, hsz, hZ, hRr, hO, hG, hV, hT⟩ := hrel
    clear hA hB hK0 hO0 hV0
    obtain ⟨oa, ocap, rfl, _⟩ := own_form hO
    obtain ⟨x0, x1, x2, x3⟩ := bx_cells hZ
    by_cases hq : q = 0
    · subst hq
      have hfin : Hid (valZ D k = M) := by have := hV.out; rw [Int.zero_mul] at this; show _ = _; omega
      have hlean : Hid (LeanZ D k) := ⟨hG.out, hT.out rfl⟩
      obtain ⟨j0, j1, j2, j3⟩ := bx_cells hRr
      have hRF := bx_set1 (bx_set0 hRr (.bool true)) (.slice oa k ocap)
      have hKF : Kept w ((wr.setCell ⟨r0, 0, none⟩ (.bool true)).setCell ⟨r0, 1, none⟩ (.slice oa k ocap)) := (hK.setCell hrw _).setCell hrw _
      have hO9 := own_keptX hO (((KeptX.refl (fun k => k = r0) wr).setIn 0 (.bool true)).setIn 1 (.slice oa k ocap)) (fun b h => by omega)
      have HO9 := Lib.hid (SlAt.of_own hO9)
      have HT9 := Lib.hid (ty_own hO9)
      obtain ⟨g0, g1, _, _⟩ := bx_cells hRF
      clear hV hG hT hO9
      have hneg : (-(0 : Int)) = 0 := rfl
      go_wp2_with fail
      generalize ((wr.setCell ⟨r0, 0, none⟩ (.bool true)).setCell ⟨r0, 1, none⟩ (.slice oa k ocap)) = WF at *
      exact bodyPost_ret (v := .agg #[.bool true, .slice oa k ocap]) (by simp [results, Tryz.results64, go_sem, g0, g1]) rfl ⟨_, rfl, ⟨true, _, k, D, rfl, HO9.out, hlean.out, (fun _ => by rcases Nat.eq_zero_or_pos k with e | e; (subst e; have := hfin.out; simp [valZ] at this; omega); exact e), by rw [hfin.out]; rfl, by omega⟩, HT9.out _, hKF⟩
    · have hne : ¬ -q = 0 := by omega
      have hk4 : k < 5 := by
        rcases Nat.lt_or_ge k 5 with h | h
        · exact h
        · exfalso
          have h1 := pw_le h
          have h2 := hV.out
          have h3 := valZ_bd hG.out
          have h4 : 1 * 10000 ^ k ≤ q * 10000 ^ k := Int.mul_le_mul_of_nonneg_right (by omega) (Int.le_of_lt (pw_pos k))
          omega
      have hqM : q ≤ 100000000000000000000 := by
        have h2 := hV.out
        have h3 := valZ_bd hG.out
        have h4 : q * 1 ≤ q * 10000 ^ k := Int.mul_le_mul_of_nonneg_left (by have := pw_pos k; omega) hq0
        omega
      obtain ⟨R, HRD⟩ : ∃ R, Hid (R = q % 10000) := ⟨_, rfl⟩
      obtain ⟨Q, HQD⟩ : ∃ Q, Hid (Q = q / 10000) := ⟨_, rfl⟩
      have hdm : Hid (q = R + Q * 10000) := by show _ = _; rw [HRD.out, HQD.out]; omega
      have hR1 : 0 ≤ R ∧ R < 10000 := by rw [HRD.out]; omega
      have hQ1 : 0 ≤ Q := by rw [HQD.out]; omega
      have hQ2 : Q ≤ 10000000000000000 := by rw [HQD.out]; omega
      obtain ⟨hRa, hRb⟩ := hR1
      have hV2 : Hid (valZ (snI D k R) (k + 1) + Q * 10000 ^ (k + 1) = M) := by
        show _ = _
        have g1 : valZ (snI D k R) k = valZ D k := valZ_congr (fun j hj => by unfold snI; rw [if_neg (by omega)])
        have g2 : snI D k R k = R := by unfold snI; rw [if_pos rfl]
        simp only [valZ, g1, g2, pw_succ]
        have h1 := hV.out
        have h2 := hdm.out
        rw [h2] at h1
        grind
      have hG2 : Hid (DigZ (snI D k R) (k + 1)) := fun j hj => by
        unfold snI
        by_cases e : j = k
        · rw [if_pos e]; exact ⟨hRa, hRb⟩
        · rw [if_neg e]; exact hG.out j (by omega)
      have hT2 : Hid (Q = 0 → 0 < k + 1 → snI D k R (k + 1 - 1) ≠ 0) := fun h _ => by
        rw [Nat.add_sub_cancel]
        unfold snI
        rw [if_pos rfl]
        have := hdm.out
        intro h3
        apply hq
        omega
      clear hdm hV hG hT
      by_cases hR0 : R = 0
      · skip
        have t2 : Int.tdiv (-q) 10000 = -Q := by rw [Int.neg_tdiv, HQD.out, Int.tdiv_eq_ediv_of_nonneg (by omega)]
        have t1 : Int.tmod (-q) 10000 = R := by rw [Int.neg_tmod, Int.tmod_eq_emod_of_nonneg (by omega), ← HRD.out, hR0]; rfl
        have t3 : ¬ R < 0 := by omega
        clear HRD HQD hR0
        go_wp2_with (first | (at_builtin; refine wpList_append_own _ rfl _ _ 27 rfl W.heap.size 3 i0 (.int .i64 0) 1 8 Tryz.underlying27 hi hz0 hz1 hz2 rfl (by decide) _ _ _ rfl (hO.alloc _) ⟨wr.heap.size, 0, none⟩ 1 1 [.int .i64 R] rfl rfl (news_one _ _ _) ?c2 ?c3 ?c4 ?c5 ?_))
        case c2 => simp [Value.oneCell']
        case c3 => unfold maxLen; omega
        case c4 => omega
        case c5 => first | omega | (simp; omega)
        intro v' w2 hO3 hgr _
        have hX := grew_X hgr (hO.alloc (.cells #[.int .i64 R] 3))
        have hZ2 := hX.row (((Kept.refl wr).alloc (.cells #[.int .i64 R] 3)).row hZ) (by omega)
        have hR2 := hX.row (((Kept.refl wr).alloc (.cells #[.int .i64 R] 3)).row hRr) (by omega)
        have hK2 : Kept w w2 := (hK.alloc _).step hX (fun i hi => Nat.le_trans hwW hi)
        have hs2 : W.heap.size ≤ w2.heap.size := Nat.le_trans (Nat.le_trans hsz ((Kept.refl wr).alloc (.cells #[.int .i64 R] 3)).size) hgr.size
        have hO4 : w2.ownsRow W.heap.size 3 1 v' (k + 1) (ints (snI D k R) (k + 1)) := by rw [ints_sn]; exact hO3
        obtain ⟨va, vc, rfl, _⟩ := own_form hO4
        obtain ⟨y0, y1, y2, y3⟩ := bx_cells hZ2
        have hZ3 := bx_set1 hZ2 (.slice va (k + 1) vc)
        have hR3 := hR2.setOther (a := ⟨z0, 1, none⟩) hrz (.slice va (k + 1) vc)
        have hK3 : Kept w (w2.setCell ⟨z0, 1, none⟩ (.slice va (k + 1) vc)) := hK2.setCell hzw _
        have hO5 := own_keptX hO4 ((KeptX.refl (fun k => k = z0) w2).setIn 1 (.slice va (k + 1) vc)) (fun b h => by omega)
        have hs3 : W.heap.size ≤ (w2.setCell ⟨z0, 1, none⟩ (.slice va (k + 1) vc)).heap.size := by rw [nblk_setCell]; exact hs2
        have HO5 := Lib.hid hO5
        clear hO3 hX hgr hO hO4 hO5 hK hK2 hZ hRr hR2 hsz hs2 y0 x0 x1 x2 x3
        go_wp2_with fail
        generalize (w2.setCell ⟨z0, 1, none⟩ (.slice va (k + 1) vc)) = W3 at *
        go_roundg (5 - (k + 1))
        case measure => omega
        case rel => exact ⟨k + 1, Q, snI D k R, _, by omega, rfl, by go_num, by omega, hK3, hs3, hZ3, hR3, HO5.out, hG2.out, hV2.out, hT2.out⟩
      · skip
        have t2 : Int.tdiv (-q) 10000 = -Q := by rw [Int.neg_tdiv, HQD.out, Int.tdiv_eq_ediv_of_nonneg (by omega)]
        have t1 : Int.tmod (-q) 10000 = -R := by rw [Int.neg_tmod, HRD.out, Int.tmod_eq_emod_of_nonneg (by omega)]
        have t3 : -R < 0 := by omega
        have t4 : IntKind.i64.wrap (- -R) = R := by rw [Int.neg_neg]; exact IntWalk.i64_in _ (by omega)
        have t5 : IntKind.i64.wrap R = R := IntWalk.i64_in _ (by omega)
        clear HRD HQD hR0
        go_wp2_with (first | (at_builtin; refine wpList_append_own _ rfl _ _ 27 rfl W.heap.size 3 i0 (.int .i64 0) 1 8 Tryz.underlying27 hi hz0 hz1 hz2 rfl (by decide) _ _ _ rfl (hO.alloc _) ⟨wr.heap.size, 0, none⟩ 1 1 [.int .i64 R] rfl rfl (news_one _ _ _) ?c2 ?c3 ?c4 ?c5 ?_))
        case c2 => simp [Value.oneCell']
        case c3 => unfold maxLen; omega
        case c4 => omega
        case c5 => first | omega | (simp; omega)
        intro v' w2 hO3 hgr _
        have hX := grew_X hgr (hO.alloc (.cells #[.int .i64 R] 3))
        have hZ2 := hX.row (((Kept.refl wr).alloc (.cells #[.int .i64 R] 3)).row hZ) (by omega)
        have hR2 := hX.row (((Kept.refl wr).alloc (.cells #[.int .i64 R] 3)).row hRr) (by omega)
        have hK2 : Kept w w2 := (hK.alloc _).step hX (fun i hi => Nat.le_trans hwW hi)
        have hs2 : W.heap.size ≤ w2.heap.size := Nat.le_trans (Nat.le_trans hsz ((Kept.refl wr).alloc (.cells #[.int .i64 R] 3)).size) hgr.size
        have hO4 : w2.ownsRow W.heap.size 3 1 v' (k + 1) (ints (snI D k R) (k + 1)) := by rw [ints_sn]; exact hO3
        obtain ⟨va, vc, rfl, _⟩ := own_form hO4
        obtain ⟨y0, y1, y2, y3⟩ := bx_cells hZ2
        have hZ3 := bx_set1 hZ2 (.slice va (k + 1) vc)
        have hR3 := hR2.setOther (a := ⟨z0, 1, none⟩) hrz (.slice va (k + 1) vc)
        have hK3 : Kept w (w2.setCell ⟨z0, 1, none⟩ (.slice va (k + 1) vc)) := hK2.setCell hzw _
        have hO5 := own_keptX hO4 ((KeptX.refl (fun k => k = z0) w2).setIn 1 (.slice va (k + 1) vc)) (fun b h => by omega)
        have hs3 : W.heap.size ≤ (w2.setCell ⟨z0, 1, none⟩ (.slice va (k + 1) vc)).heap.size := by rw [nblk_setCell]; exact hs2
        have HO5 := Lib.hid hO5
        clear hO3 hX hgr hO hO4 hO5 hK hK2 hZ hRr hR2 hsz hs2 y0 x0 x1 x2 x3
        go_wp2_with fail
        generalize (w2.setCell ⟨z0, 1, none⟩ (.slice va (k + 1) vc)) = W3 at *
        go_roundg (5 - (k + 1))
        case measure => omega
        case rel => exact ⟨k + 1, Q, snI D k R, _, by omega, rfl, by go_num, by omega, hK3, hs3, hZ3, hR3, HO5.out, hG2.out, hV2.out, hT2.out⟩
theorem Int_ty (w : World) (v : Int) (h1 : -9223372036854775808 ≤ v) (h2 : v ≤ 9223372036854775807) : Calls Tryz.prog 64 #[.int .i64 v] w (ZPostT w v) := by
  by_cases h : v < 0
  · have := Int_negT w (-v) (by omega) (by omega)
    rwa [Int.neg_neg] at this
  · exact Int_posT w v (by omega) (by omega)
end Go.Proofs.YtlnlddnjalfamaaGreatDoor.Num
